/-
  Whether an image's inodes can be: the program's function.
-/
import Derived.Test.YtpdfkakhahfcjaaGreatG19
import Derived.Test.YtpdfkakhahfcjaaGreatG12
import Derived.Test.YtpdfkakhahfcjaaGreatG13
import Derived.Test.YtpdfkakhahfcjaaGreatG07
import Derived.Test.YtpdfkakhahfcjaaGreatG17
namespace Go.Proofs.YtpdfkakhahfcjaaGreat
open Go.RowKit

theorem recI_big (img : List ByteArray) (i : Nat) : BigR (recI img i) := by
  constructor
  · intro k hk
    have hk : k ∈ [w2 (rawI img i) 5, w2 (rawI img i) 7, w2 (rawI img i) 9, w2 (rawI img i) 11] := hk
    simp only [List.mem_cons, List.not_mem_nil, or_false] at hk
    rcases hk with rfl | rfl | rfl | rfl
    all_goals exact Nat.le_trans (Nat.le_of_lt (w2_lt _ _)) (by omega)
  · intro k hk
    by_cases h : (recI img i).ind = 0
    · rw [rec_ls h] at hk
      rw [(List.mem_replicate.1 hk).2]; omega
    · rw [rec_ls2 h] at hk
      obtain ⟨j, _, rfl⟩ := List.mem_map.1 hk
      exact Nat.le_trans (Nat.le_of_lt (wordN_lt _ _)) (by omega)
theorem markI_take {img : List ByteArray} {l : List Nat} {k : Nat} {s : List Bool × Nat} (hk : k < l.length) : markI img (l.take (k + 1)) s = (markI img (l.take k) s).bind (markI img [l.getD k 0]) := by
  rw [← markI_app]
  congr 1
  rw [List.take_add_one, List.getElem?_eq_getElem hk, List.getD_eq_getElem?_getD, List.getElem?_eq_getElem hk]; rfl
theorem markI_stop {img : List ByteArray} {l : List Nat} {k : Nat} {s t : List Bool × Nat} (hk : k < l.length) (h : markI img (l.take k) s = some t) (h2 : markI img [l.getD k 0] t = none) : markI img l s = none := by
  have e : markI img (l.take (k + 1)) s = none := by rw [markI_take hk, h]; exact h2
  rw [← List.take_append_drop (k + 1) l, markI_app, e]; rfl
theorem eq_dec (a b : Int) : (a == b) = decide (a = b) := by
  by_cases h : a = b
  · subst h; simp
  · rw [decide_eq_false h, beq_eq_false_iff_ne]; exact h
theorem encB_set (m : List Bool) (j : Nat) (x : Bool) : (encB m).set j (.bool x) = encB (m.set j x) := by unfold encB; rw [List.map_set]

set_option maxRecDepth 100000 in
set_option maxHeartbeats 16000000 in
theorem soundI_any (A : Option Addr) (n c : Nat) (img : List ByteArray) (w : World) (h : Reads w w.heap.size 1 A n (encS img)) (hn : n * 16 ≤ 140737488355328) :
    Calls Tryz.prog 30 #[.slice A n c] w fun e w' => e = .returned (.bool (soundI img)) ∧ Below w.heap.size w w' := by
  obtain ⟨i0, hi0, hz0, hz1, hz2⟩ := info_parts infoB
  have hz := fun W => zero_run W
  have hl := h.lenS
  have H := Lib.hid h
  have cF := fitA_any A n c img w h hn
  by_cases hf : FitA img
  rotate_left
  · have hd : decide (FitA img) = false := decide_eq_false hf
    have HE : Hid (soundI img = false) := Lib.hid (by unfold soundI; rw [hd]; rfl)
    rw [hd] at cF
    clear hd hf hl h
    go_enter Tryz.func30, Tryz.ntmps30
    go_wp2_with fail
    refine cF.mono ?_
    rintro e w1 ⟨rfl, hb1⟩
    have HB := Lib.hid hb1
    clear hb1 cF
    go_wp2
    go_ret
    rw [HE.out]
    exact ⟨rfl, HB.out⟩
  have hd : decide (FitA img) = true := decide_eq_true hf
  rw [hd] at cF
  have h8 : 8 ≤ n := by have := hf.1; omega
  have h5 : n ≤ 512 := by have := hf.1; omega
  have HM := Lib.hid hf.map
  have cI := fun W => inodes_any A n c (by unfold maxLen; omega) W
  have cP := fun W => first_any A n c (by unfold maxLen; omega) W
  have cT := fun (i : Int) W hW => takenA_any A n c img i W hW HM.out
  have cFr := fun W hW => freeA_any A n c img W hW HM.out
  have cL := fun (k : Nat) (hk : k ≤ 1024) W hW => load_any A n c img k hk W hW
  have cS := fun (k : Nat) (hk : k ≤ 1024) W hW => isForm_any A n c img (recI img k) W (recI_ok img k hk) (recI_big img k) hW
  have cN := fun (k : Nat) (hk : k ≤ 1024) W => named_any (recI img k) (recI_ok img k hk) W
  unfold RowP at cN
  unfold valR at cL cS cN
  have hfl := first_le h8 h5
  have HE0 : Hid (soundI img = match soundTo img (cntA n) with | none => false | some s => decide ((s.2 : Int) = (n : Int) - (firstA n : Int) - ((freeA img).length : Int))) := Lib.hid (by unfold soundI; rw [hd, hl]; rfl)
  have hMK := fun (b : Nat) (s : List Bool × Nat) => markI_one img b s
  rw [hl] at hMK
  have HMK := Lib.hid hMK
  have HRI := Lib.hid (fun (k : Nat) (hk : k ≤ 1024) => recI_ok img k hk)
  have hS0 : soundTo img 0 = some (List.replicate n false, 0) := by rw [← hl]; rfl
  have HS0 := Lib.hid hS0
  have hfr5 : (freeA img).length ≤ 512 := Nat.le_trans (freeTo_len _) (by rw [hl]; exact h5)
  obtain ⟨F, hF⟩ : ∃ F, F = firstA n := ⟨_, rfl⟩
  obtain ⟨C, hC⟩ : ∃ C, C = cntA n := ⟨_, rfl⟩
  obtain ⟨fr, hfr⟩ : ∃ x, x = (freeA img).length := ⟨_, rfl⟩
  rw [← hF] at cP HE0 HMK hfl
  rw [← hC] at cI HE0 hfl
  rw [← hfr] at cFr HE0 hfr5
  clear hF hC hfr hMK hS0 hd hf h
  go_enter Tryz.func30, Tryz.ntmps30
  go_wp2_with fail
  refine cF.mono ?_
  rintro e w1 ⟨rfl, hb1⟩
  go_wp2_with (at_make; refine wpList_make_full _ rfl _ _ 41 rfl w1.heap.size 4 i0 _ 1 Tryz.underlying41 hi0 hz0 hz1 .i64 .i64 n n n rfl rfl rfl rfl ?_ ?_ ?_ ?_)
  any_goals (first | (rw [hz2]; omega) | omega | (simp only [maxLen]; omega) | exact Nat.le_refl _)
  intro w2 ho2 hg2
  have hb2 : Below w1.heap.size w1 w2 := (Below.refl _ w1).grown hg2 (Nat.le_refl _) (by intro k hk; cases hk)
  have J2 : Hid (w2.ownsRow w1.heap.size 4 1 (.slice (some ⟨w1.heap.size, 0, none⟩) n n) n (encB (List.replicate n false)) ∧ Below w.heap.size w w2 ∧ w.heap.size ≤ w1.heap.size ∧ w1.heap.size < w2.heap.size) := Lib.hid ⟨own_eq_vals ho2 (by rw [toList_madeCells_one]; simp [encB]), bstep hb1 hb2, hb1.size, by
    rcases ho2.2 with ⟨e, _⟩ | ⟨g, _, _, e, _, hh, _⟩
    · injection e with e; cases e
    · injection e with e; injection e with e; injection e with e; subst e; exact (Array.getElem?_eq_some_iff.1 hh).1⟩
  clear ho2 hg2 hb1 hb2 cF
  generalize w1.heap.size = z at J2 ⊢
  go_wp2_with (first | (go_at_call 32; refine (cI _).mono ?_; rintro e w2 ⟨rfl, rfl⟩))
  go_loopg [4, 5, 6, 8, 17] C (fun gk s4 s5 s6 s8 s17 wr => ∃ (i nn : Nat) (m : List Bool), i ≤ C ∧ C - i ≤ gk ∧ s17 = .int .i64 i ∧ s4 = .int .i64 nn ∧ nn ≤ 69 * i ∧ m.length = n ∧ Hid (soundTo img i = some (m, nn)) ∧ Hid (wr.ownsRow z 4 1 (.slice (some ⟨z, 0, none⟩) n n) n (encB m) ∧ Below w.heap.size w wr ∧ w.heap.size ≤ z ∧ z < wr.heap.size))
  case atStart => exact ⟨0, 0, List.replicate n false, Nat.zero_le _, by omega, rfl, rfl, by omega, by simp, HS0, J2⟩
  case round =>
    clear J2
    obtain ⟨i, nn, m, hi, hgk, rfl, rfl, hnn, hml, S, J⟩ := hrel
    by_cases hlt : i < C
    · have hiC : (i : Int) < (C : Int) := by omega
      have hi1 : i ≤ 1024 := by omega
      have HR := Lib.hid (HRI.out i hi1)
      have cLi := cL i hi1 wr (H.out.step J.out.2.1)
      have cSi := cS i hi1
      have cNi := cN i hi1
      have HSO : Hid (soundTo img (i + 1) = if isFormI img (recI img i) then markI img (namedR (recI img i)) (m, nn) else none) := Lib.hid (by rw [soundTo, S.out]; rfl)
      generalize recI img i = r at HR cLi cSi cNi HSO
      have hll := namedR_len HR.out
      have HEN : Hid (soundTo img (i + 1) = none → soundI img = false) := Lib.hid (fun e => by rw [HE0.out, soundTo_none e (by omega)])
      go_wp2_with fail
      refine cLi.mono ?_
      rintro e w3 ⟨rfl, hb3⟩
      have B4 := (BR.new w3 (zeroR 0)).setRow r
      have bs4 : Below w3.heap.size w3 ((w3.alloc (.cells (cellsR (zeroR 0)).toArray 62)).setRow w3.heap.size (cellsR r).toArray) := ((Below.refl _ w3).alloc (Nat.le_refl _) _).trans (below_setRow _ (Nat.le_refl _) _)
      have J4 := Lib.hid (And.intro (own_below (own_below J.out.1 hb3) bs4) (And.intro (bstep J.out.2.1 (bstep hb3 bs4)) (And.intro J.out.2.2.1 (Nat.lt_of_lt_of_le J.out.2.2.2 (bstep hb3 bs4).size))))
      have HB4 := Lib.hid B4
      clear hb3 bs4 B4 cLi J S
      go_wp2_with (first | (refine wpList_store_row rfl _ _ _ rfl w3.heap.size (cellsR r).toArray rfl rfl _ (cellsR (zeroR 0)).toArray (heap_alloc_new w3 _) (sizeRr HR.out) (holdR okz HR.out) (all_oneCell_toArray (cellsR_one _)) ?_) | (refine wpList_load_mid rfl _ _ rfl w3.heap.size 0 rfl (cellsR r) _ HB4.out.range Tryz.underlying62 rfl (by rw [cellsR_length HR.out]; exact sizeR) ?_))
      generalize (w3.alloc (.cells (cellsR (zeroR 0)).toArray 62)).setRow w3.heap.size (cellsR r).toArray = w4 at J4 HB4 ⊢
      generalize w3.heap.size = g4 at HB4 ⊢
      refine (cSi w4 (H.out.step J4.out.2.1)).mono ?_
      rintro e w5 ⟨rfl, hb5⟩
      have J5 := Lib.hid (And.intro (own_below J4.out.1 hb5) (And.intro (bstep J4.out.2.1 hb5) (And.intro J4.out.2.2.1 (Nat.lt_of_lt_of_le J4.out.2.2.2 hb5.size))))
      have HB5 := Lib.hid (HB4.out.step hb5)
      clear hb5 cSi J4 HB4
      generalize isFormI img r = fb at HSO ⊢
      cases fb with
      | false =>
        have HE : Hid (soundI img = false) := Lib.hid (HEN.out (by rw [HSO.out]; rfl))
        go_wp2
        go_ret
        rw [HE.out]
        exact ⟨rfl, J5.out.2.1⟩
      | true =>
        have HSO2 : Hid (soundTo img (i + 1) = markI img (namedR r) (m, nn)) := Lib.hid (by rw [HSO.out]; rfl)
        clear HSO
        go_wp2_with (refine wpList_load_mid rfl _ _ rfl g4 0 rfl (cellsR r) _ HB5.out.range Tryz.underlying62 rfl (by rw [cellsR_length HR.out]; exact sizeR) ?_)
        refine (cNi w5).mono ?_
        rintro e w6 ⟨A6, c6, rfl, ho6, hb6⟩
        generalize namedR r = l at hll HSO2 ho6 ⊢
        have J6 := Lib.hid (And.intro (own_below J5.out.1 hb6) (And.intro (bstep J5.out.2.1 hb6) (And.intro J5.out.2.2.1 (Nat.lt_of_lt_of_le J5.out.2.2.2 hb6.size))))
        have HC6 : Hid (∀ k, k < l.length → ∃ b, A6 = some ⟨b, 0, none⟩ ∧ b ≠ z ∧ b < w6.heap.size ∧ w6.cell? ⟨b, k, none⟩ = some (.int .i64 (l.getD k 0 : Nat))) := Lib.hid (fun k hk => by
          obtain ⟨b', o', e', hb', hc'⟩ := (Reads.of_own ho6).nat hk
          rcases own_nil_or ho6 with ⟨e1, _, e2⟩ | ⟨b, e1⟩
          · omega
          · subst e1
            injection e' with e'
            injection e' with e1 e2
            subst e1; subst e2
            have := (own_block ho6).1
            have hz5 := J5.out.2.2.2
            exact ⟨b, rfl, by omega, hb', by rw [Nat.zero_add] at hc'; exact hc'⟩)
        clear ho6 hb6 cNi J5 HB5 HR
        have HLL : Hid (∀ k, k < l.length → ∀ m2 nn2, markI img (l.take k) (m, nn) = some (m2, nn2) → markI img [l.getD k 0] (m2, nn2) = none → soundI img = false) := Lib.hid (fun k hk m2 nn2 h1 h2 => HEN.out (by rw [HSO2.out]; exact markI_stop hk h1 h2))
        obtain ⟨L, hL⟩ : ∃ L, L = l.length := ⟨_, rfl⟩
        rw [← hL] at hll HC6 HLL ⊢
        have HL := Lib.hid hL
        clear hL
        go_wp2
        go_loopg [4, 8, 30] L (fun g2 s4 s8 s30 wr => ∃ (k : Nat) (m2 : List Bool), k ≤ L ∧ L - k ≤ g2 ∧ s30 = .int .i64 k ∧ s4 = .int .i64 (nn + k : Nat) ∧ m2.length = n ∧ Hid (markI img (l.take k) (m, nn) = some (m2, nn + k)) ∧ Hid (wr.ownsRow z 4 1 (.slice (some ⟨z, 0, none⟩) n n) n (encB m2) ∧ But z w6 wr))
        case atStart => exact ⟨0, m, Nat.zero_le _, by omega, rfl, rfl, hml, Lib.hid rfl, Lib.hid ⟨J6.out.1, But.refl _ _⟩⟩
        case round =>
          obtain ⟨k, m2, hk, hg2, rfl, rfl, hm2, M, Q⟩ := hrel
          by_cases hkL : k < L
          · have hkLi : (k : Int) < (L : Int) := by omega
            obtain ⟨b6, rfl, hne6, hlt6, hc6⟩ := HC6.out k hkL
            have hcell := (Q.out.2.cell (o := k) hlt6 hne6).trans hc6
            have HST := Lib.hid (HLL.out k hkL m2 (nn + k) M.out)
            have HMT : Hid (markI img (l.take (k + 1)) (m, nn) = markI img [l.getD k 0] (m2, nn + k)) := Lib.hid (by rw [markI_take (by rw [← HL.out]; exact hkL), M.out]; rfl)
            have hbl := HMK.out (l.getD k 0) (m2, nn + k)
            generalize l.getD k 0 = b at hcell HST HMT hbl
            have HBQ := Lib.hid (J6.out.2.1.trans (Q.out.2.to_below (B := w.heap.size) J6.out.2.2.1 J6.out.2.1.size))
            by_cases hbF : b < F
            · have HE : Hid (soundI img = false) := Lib.hid (HST.out (by rw [hbl, if_pos (.inl hbF)]))
              have hbi : (b : Int) < (F : Int) := by omega
              have hbd : decide ((b : Int) < (F : Int)) = true := decide_eq_true hbi
              have hbn : decide (b < F) = true := decide_eq_true hbF
              clear hbl
              go_wp2_with (first | (go_at_call 58; refine (cP _).mono ?_; rintro e w7 ⟨rfl, rfl⟩))
              go_ret
              rw [HE.out]
              exact ⟨rfl, HBQ.out⟩
            have hbi : ¬ (b : Int) < (F : Int) := by omega
            have hbd : decide ((b : Int) < (F : Int)) = false := decide_eq_false hbi
            have hbn : decide (b < F) = false := decide_eq_false hbF
            have cTb := cT (b : Int) wr (H.out.step HBQ.out)
            cases htk : takenA img (b : Int) with
            | false =>
              have HE : Hid (soundI img = false) := Lib.hid (HST.out (by rw [hbl, if_pos (.inr (.inl htk))]))
              rw [htk] at cTb
              clear hbl
              go_wp2_with (first | (go_at_call 58; refine (cP _).mono ?_; rintro e w7 ⟨rfl, rfl⟩) | (go_at_call 64; refine cTb.mono ?_; rintro e w7 ⟨rfl, rfl⟩))
              go_ret
              rw [HE.out]
              exact ⟨rfl, HBQ.out⟩
            | true =>
              have hbn2 : b < n := by rw [← hl]; exact taken_lt htk
              have hbn3 : (b : Int) < (n : Int) := by omega
              have hcb := Q.out.1.cellAt b (by omega)
              rw [encB_get (by omega)] at hcb
              cases hbs : bAt m2 b with
              | true =>
                have HE : Hid (soundI img = false) := Lib.hid (HST.out (by rw [hbl, if_pos (.inr (.inr hbs))]))
                rw [hbs] at hcb
                rw [htk] at cTb
                clear hbl
                go_wp2_with (first | (go_at_call 58; refine (cP _).mono ?_; rintro e w7 ⟨rfl, rfl⟩) | (go_at_call 64; refine cTb.mono ?_; rintro e w7 ⟨rfl, rfl⟩))
                go_ret
                rw [HE.out]
                exact ⟨rfl, HBQ.out⟩
              | false =>
                rw [hbs] at hcb
                rw [if_neg (by rw [htk, hbs]; simp; omega)] at hbl
                rw [htk] at cTb
                have hfb := Q.out.1.frozenAt b
                have hst := Q.out.1.stored b (.bool true)
                have HN := Lib.hid (And.intro (own_eq_vals hst.1 (encB_set m2 b true)) (Q.out.2.trans (But.set wr z b (.bool true))))
                have M2 : Hid (markI img (l.take (k + 1)) (m, nn) = some (m2.set b true, nn + (k + 1))) := Lib.hid (by rw [HMT.out, hbl]; rfl)
                clear hbl hst M Q HST HMT HBQ
                go_wp2_with (first | (go_at_call 58; refine (cP _).mono ?_; rintro e w7 ⟨rfl, rfl⟩) | (go_at_call 64; refine cTb.mono ?_; rintro e w7 ⟨rfl, rfl⟩))
                go_roundg (L - (k + 1))
                case measure => omega
                case rel => exact ⟨k + 1, m2.set b true, by omega, by omega, by go_num, by go_num, by rw [List.length_set]; exact hm2, M2, HN⟩
          · have : k = L := by omega
            subst this
            have S2 : Hid (soundTo img (i + 1) = some (m2, nn + k)) := Lib.hid (by
              rw [HSO2.out, ← M.out, HL.out, List.take_of_length_le (Nat.le_refl _)])
            have JN : Hid (wr.ownsRow z 4 1 (.slice (some ⟨z, 0, none⟩) n n) n (encB m2) ∧ Below w.heap.size w wr ∧ w.heap.size ≤ z ∧ z < wr.heap.size) := Lib.hid ⟨Q.out.1, J6.out.2.1.trans (Q.out.2.to_below (B := w.heap.size) J6.out.2.2.1 J6.out.2.1.size), J6.out.2.2.1, Nat.lt_of_lt_of_le J6.out.2.2.2 Q.out.2.size⟩
            clear M Q HL HLL HC6 J6 HSO2
            go_wp2
            go_roundg (C - (i + 1))
            case measure => omega
            case rel => exact ⟨i + 1, nn + k, m2, by omega, by omega, by go_num, by go_num, by omega, hm2, S2, JN⟩
    · have : i = C := by omega
      subst this
      have HE : Hid (soundI img = decide ((nn : Int) = (n : Int) - (F : Int) - (fr : Int))) := Lib.hid (by rw [HE0.out, S.out])
      have cFrw := cFr wr (H.out.step J.out.2.1)
      go_wp2_with (first | (go_at_call 58; refine (cP _).mono ?_; rintro e w2 ⟨rfl, rfl⟩))
      refine cFrw.mono ?_
      rintro e w3 ⟨rfl, hb3⟩
      have HX := Lib.hid (bstep J.out.2.1 hb3)
      clear hb3 cFrw
      go_wp2
      go_ret
      rw [HE.out]
      exact ⟨congrArg (fun b => Ending.returned (Value.bool b)) (by first | exact eq_dec _ _ | rfl | simp [eq_dec]), HX.out⟩

end Go.Proofs.YtpdfkakhahfcjaaGreat
