/-
  The document's own answer: which images can be.
-/
import Derived.Test.YtpdfkakhahfcjaaGreatG20
import Derived.Test.YtpdfkakhahfcjaaGreatG21
import Derived.Deep.DeepCutAuto
namespace Go.Proofs.YtpdfkakhahfcjaaGreat
open Go.RowKit

theorem But.drewN {g : Nat} {w w' : World} (h : But g w w') (q : Nat) : But g w (w'.drewN q) := ⟨h.os, h.tape, h.output, h.size, h.block⟩
theorem own_far {w w' : World} {z n B : Nat} {m : List Bool} (h : w.ownsRow z 4 1 (.slice (some ⟨z, 0, none⟩) n n) n (encB m)) (hb : Below B w w') (hz : z < B) : w'.ownsRow z 4 1 (.slice (some ⟨z, 0, none⟩) n n) n (encB m) := by
  refine ⟨h.1, ?_⟩
  rcases h.2 with h0 | ⟨g', cap, cur, e, h1, hh, h3⟩
  · exact .inl h0
  · refine .inr ⟨g', cap, cur, e, h1, ?_, h3⟩
    injection e with e1 e2 e3
    injection e1 with e1
    injection e1 with e1
    subst e1
    exact (hb.block z hz).trans hh
/-- What a right shape tells. -/
theorem shaped_cond {img : List ByteArray} {i : Nat} (h : shapedR img (rawI img i) (recI img i) = true) : (recI img i).size ≤ 8704 ∧ needN (recI img i).size ≤ 68 ∧ (4 < needN (recI img i).size ↔ 0 < (recI img i).ind) ∧ (0 < (recI img i).ind → (recI img i).ind < img.length) := by
  by_cases hz : rawI img i = zeroN 32
  · have h0 := rec_zero hz
    have hi : (recI img i).ind = 0 := by
      have hb : ∀ k, byA (rawI img i) k = 0 := fun k => by
        rw [hz]
        unfold byA
        rw [zeroN_toList, List.getD_eq_getElem?_getD, List.getElem?_replicate]
        split <;> rfl
      show w2 _ 13 = 0
      unfold w2
      rw [hb, hb]
    rw [h0.2, hi]
    unfold needN
    omega
  · unfold shapedR at h
    rw [if_neg hz] at h
    split at h
    · cases h
    · next hb =>
      have h1 : ¬ 8704 < (recI img i).size := fun e => hb (.inr (.inl e))
      have h2 : decide (4 < needN (recI img i).size) = decide (0 < (recI img i).ind) := Classical.byContradiction fun e => hb (.inr (.inr (.inr (.inl e))))
      have h3 : ¬ img.length ≤ (recI img i).ind := fun e => hb (.inr (.inr (.inr (.inr e))))
      refine ⟨by omega, by unfold needN; omega, by simpa using h2, fun _ => by omega⟩
theorem named_S {img : List ByteArray} (hf : FitA img) {i : Nat} (hi : i ≤ 1024) (h : shapedR img (rawI img i) (recI img i) = true) :
    dataS img (recI img i) (needN (recI img i).size) ++ (if (recI img i).ind = 0 then [] else [(recI img i).ind]) = namedR (recI img i) := by
  have hc := shaped_cond h
  rw [dataS_rec hf hi hc.2.1 (fun h4 => ⟨hc.2.2.1.1 h4, hc.2.2.2 (hc.2.2.1.1 h4)⟩)]
  rfl

set_option maxRecDepth 100000 in
set_option maxHeartbeats 16000000 in
theorem refSound_any (A : Option Addr) (n c : Nat) (img : List ByteArray) (w : World) (h : Reads w w.heap.size 1 A n (encS img)) (hn : n * 16 ≤ 140737488355328) :
    Calls Tryz.prog 4 #[.slice A n c] w fun e w' => e = .returned (.bool (soundR img)) ∧ Below w.heap.size w w' := by
  have hmx : Tryz.prog.follows .mixedOrders = true := by kernel_rfl
  obtain ⟨i0, hi0, hz0, hz1, hz2⟩ := info_parts infoB
  obtain ⟨j0, hj0, hy0, hy1, hy2⟩ := info_parts infoI
  obtain ⟨u0, hu0, hv0, hv1, hv2⟩ := info_parts infoUA
  have hz7 := (zero_of_info info7).1
  have hl := h.lenS
  have H := Lib.hid h
  have cF := refFit_anyA A n c img w h hn
  by_cases hf : FitA img
  rotate_left
  · have hd : decide (FitA img) = false := decide_eq_false hf
    have HE : Hid (soundR img = false) := Lib.hid (by unfold soundR; rw [hd]; rfl)
    rw [hd] at cF
    clear hd hf hl h
    go_enter Tryz.func4, Tryz.ntmps4
    go_wp2_with fail
    refine cF.mono ?_
    rintro e w1 ⟨rfl, hb1⟩
    have HB := Lib.hid hb1
    clear hb1 cF
    go_wp2
    go_ret
    rw [HE.out]
    exact ⟨rfl, HB.out⟩
  have hd : decide (FitA img) = true := decide_eq_true hf
  rw [hd] at cF
  have h8 : 8 ≤ n := by have := hf.1; omega
  have h5 : n ≤ 512 := by have := hf.1; omega
  have HFIT := Lib.hid hf
  have cI := fun W => refInodes_any A n c (by unfold maxLen; omega) W
  have cP := fun W => refFirst_any A n c (by unfold maxLen; omega) W
  have cT := fun (i : Int) W hW => refTaken_any A n c img i W hW HFIT.out.map
  have cRaw := fun (k : Nat) (hk : k < cntA n) W hW => refRaw_any A n c img k W hW HFIT.out hk
  have cSh := fun (k : Nat) W hW => refShaped_any A n c img (rawI img k) W hW HFIT.out (rawI_size img k)
  have cRd := fun (k : Nat) W => refRead_any (rawI img k) (rawI_size img k) W
  have cNa := fun (r : RecI) W hW h1 h2 h3 => refNamed_any A n c img r W hW HFIT.out h1 h2 h3
  unfold RowP valI at cNa
  unfold valI at cRd
  have hfl := first_le h8 h5
  have HE0 : Hid (soundR img = match refTo img (cntA n) with | none => false | some m => decide (∀ b, b < n → firstA n ≤ b → takenA img b = true → bAt m b = true)) := Lib.hid (by unfold soundR; rw [hd, hl]; rfl)
  have hMK := fun (b : Nat) (s : List Bool × Nat) => markI_one img b s
  rw [hl] at hMK
  have HMK := Lib.hid hMK
  have HRI := Lib.hid (fun (k : Nat) (hk : k ≤ 1024) => recI_ok img k hk)
  have hS0 : refTo img 0 = some (List.replicate n false) := by rw [← hl]; rfl
  have HS0 := Lib.hid hS0
  obtain ⟨F, hF⟩ : ∃ F, F = firstA n := ⟨_, rfl⟩
  obtain ⟨C, hC⟩ : ∃ C, C = cntA n := ⟨_, rfl⟩
  rw [← hF] at cP HE0 HMK hfl
  rw [← hC] at cI HE0 hfl cRaw
  clear hF hC hMK hS0 hd hf h
  go_enter Tryz.func4, Tryz.ntmps4
  go_wp2_with fail
  refine cF.mono ?_
  rintro e w1 ⟨rfl, hb1⟩
  go_wp2_with (at_make; refine wpList_make_full _ rfl _ _ 41 rfl w1.heap.size 4 i0 _ 1 Tryz.underlying41 hi0 hz0 hz1 .i64 .i64 n n n rfl rfl rfl rfl ?_ ?_ ?_ ?_)
  any_goals (first | (rw [hz2]; omega) | omega | (simp only [maxLen]; omega) | exact Nat.le_refl _)
  intro w2 ho2 hg2
  have hb2 : Below w1.heap.size w1 w2 := (Below.refl _ w1).grown hg2 (Nat.le_refl _) (by intro k hk; cases hk)
  have J2 : Hid (w2.ownsRow w1.heap.size 4 1 (.slice (some ⟨w1.heap.size, 0, none⟩) n n) n (encB (List.replicate n false)) ∧ Below w.heap.size w w2 ∧ w.heap.size ≤ w1.heap.size ∧ w1.heap.size < w2.heap.size) := Lib.hid ⟨own_eq_vals ho2 (by rw [toList_madeCells_one]; simp [encB]), bstep hb1 hb2, hb1.size, by
    rcases ho2.2 with ⟨e, _⟩ | ⟨g, _, _, e, _, hh, _⟩
    · injection e with e; cases e
    · injection e with e; injection e with e; injection e with e; subst e; exact (Array.getElem?_eq_some_iff.1 hh).1⟩
  clear ho2 hg2 hb1 hb2 cF
  generalize w1.heap.size = z at J2 ⊢
  go_wp2_with fail
  go_loopg [4, 5, 6, 7, 8, 9] C (fun gk s4 s5 s6 s7 s8 s9 wr => ∃ (i : Nat) (m : List Bool), i ≤ C ∧ C - i ≤ gk ∧ s4 = .int .i64 i ∧ m.length = n ∧ Hid (refTo img i = some m) ∧ Hid (wr.ownsRow z 4 1 (.slice (some ⟨z, 0, none⟩) n n) n (encB m) ∧ Below w.heap.size w wr ∧ w.heap.size ≤ z ∧ z < wr.heap.size))
  case atStart => exact ⟨0, List.replicate n false, Nat.zero_le _, by omega, rfl, by simp, HS0, J2⟩
  case round =>
    clear J2
    obtain ⟨i, m, hi, hgk, rfl, hml, S, J⟩ := hrel
    by_cases hlt : i < C
    · have hiC : (i : Int) < (C : Int) := by omega
      have hi1 : i ≤ 1024 := by omega
      have HR := Lib.hid (HRI.out i hi1)
      have cRi := fun W hW => cRaw i hlt W hW
      have cSi := cSh i
      have cDi := cRd i
      rw [recS_cells img i] at cDi
      have hsc : shapedR img (rawI img i) (recS (rawI img i)) = shapedR img (rawI img i) (recI img i) := rfl
      rw [hsc] at cSi
      have HSO : Hid (refTo img (i + 1) = if shapedR img (rawI img i) (recI img i) then (markI img (namedR (recI img i)) (m, 0)).bind fun t => if tailR img (recI img i) then some t.1 else none else none) := Lib.hid (by rw [refTo, S.out]; rfl)
      have HCO := Lib.hid (fun hs => shaped_cond (img := img) (i := i) hs)
      have HNS := Lib.hid (fun hs => named_S HFIT.out hi1 (img := img) (i := i) hs)
      have HEN : Hid (refTo img (i + 1) = none → soundR img = false) := Lib.hid (fun e => by rw [HE0.out, refTo_none e (by omega)])
      have hr7 : (cellsI (recI img i)).length = 7 := cellsI_length HR.out
      clear hsc
      generalize rawI img i = raw at cRi cSi cDi HSO HCO HNS
      generalize recI img i = r at HR cSi cDi HSO HCO HNS hr7
      generalize shapedR img raw r = fb at cSi HSO HCO HNS
      have hwz := J.out.2.2.2
      go_wp2_with (first | (go_at_call 17; refine (cI _).mono ?_; rintro e w3 ⟨rfl, rfl⟩) | (go_at_call 19; refine (cRi _ (H.out.step J.out.2.1)).mono ?_; rintro e w3 ⟨rfl, rfl⟩))
      refine (cSi wr (H.out.step J.out.2.1)).mono ?_
      rintro e w3 ⟨rfl, hb3⟩
      have J3 := Lib.hid (And.intro (own_below J.out.1 hb3) (And.intro (bstep J.out.2.1 hb3) (And.intro J.out.2.2.1 (Nat.lt_of_lt_of_le J.out.2.2.2 hb3.size))))
      clear hb3 cSi J hwz S
      cases fb with
      | false =>
        have HE : Hid (soundR img = false) := Lib.hid (HEN.out (by rw [HSO.out]; rfl))
        go_wp2
        go_ret
        rw [HE.out]
        exact ⟨rfl, J3.out.2.1⟩
      | true =>
        have HSO2 : Hid (refTo img (i + 1) = (markI img (namedR r) (m, 0)).bind fun t => if tailR img r then some t.1 else none) := Lib.hid (by rw [HSO.out]; rfl)
        have HC := Lib.hid (HCO.out rfl)
        have HNM := Lib.hid (HNS.out rfl)
        clear HSO HCO HNS
        go_wp2_with (go_at_call 19; refine (cRi _ (H.out.step J3.out.2.1)).mono ?_; rintro e w4 ⟨rfl, rfl⟩)
        refine (cDi w3).mono ?_
        rintro e w4 ⟨rfl, hb4⟩
        have B5 := (BI.new w4 (zeroR 0)).setRow r
        have bs5 : Below w4.heap.size w4 ((w4.alloc (.cells (cellsI (zeroR 0)).toArray 47)).setRow w4.heap.size (cellsI r).toArray) := ((Below.refl _ w4).alloc (Nat.le_refl _) _).trans (below_setRow _ (Nat.le_refl _) _)
        have hb35 := bstep hb4 bs5
        have J5 := Lib.hid (And.intro (own_below J3.out.1 hb35) (And.intro (bstep J3.out.2.1 hb35) (And.intro J3.out.2.2.1 (And.intro (Nat.lt_of_lt_of_le J3.out.2.2.2 hb35.size) (And.intro B5 (show z < w4.heap.size from Nat.lt_of_lt_of_le J3.out.2.2.2 hb4.size))))))
        clear hb4 B5 bs5 hb35 J3 cDi cRi
        go_wp2_with (first | (refine wpList_store_row rfl _ _ _ rfl w4.heap.size (cellsI r).toArray rfl rfl _ (cellsI (zeroR 0)).toArray (heap_alloc_new w4 _) (sizeIz hr7) (holdIz (r := zeroR 0) rfl hr7) (all_oneCell_toArray (cellsI_one _)) ?_) | (refine wpList_load_mid rfl _ _ rfl w4.heap.size 0 rfl (cellsI r) _ J5.out.2.2.2.2.1.range Tryz.underlying47 rfl (by rw [hr7]; exact sizeIn) ?_))
        generalize (w4.alloc (.cells (cellsI (zeroR 0)).toArray 47)).setRow w4.heap.size (cellsI r).toArray = w5 at J5 ⊢
        generalize w4.heap.size = g at J5 ⊢
        refine (cNa r w5 (H.out.step J5.out.2.1) HR.out.bl HC.out.2.1 (fun h4 => by have h6 := HC.out.2.2.2 (HC.out.2.2.1.1 h4); omega)).mono ?_
        rintro e w6 ⟨A6, c6, rfl, ho6, hb6⟩
        rw [dataS_length] at ho6
        have J6 := Lib.hid (And.intro (own_below J5.out.1 hb6) (And.intro (bstep J5.out.2.1 hb6) (And.intro J5.out.2.2.1 (And.intro (Nat.lt_of_lt_of_le J5.out.2.2.2.1 hb6.size) (And.intro (J5.out.2.2.2.2.1.step hb6) J5.out.2.2.2.2.2)))))
        have HO6 := Lib.hid (And.intro ho6 (show z < w5.heap.size from J5.out.2.2.2.1))
        have hsz6 : w5.heap.size ≤ w6.heap.size := hb6.size
        have hz5 : z < w5.heap.size := J5.out.2.2.2.1
        have J5s : w.heap.size ≤ w5.heap.size := J5.out.2.1.size
        have hg5 : g < w5.heap.size := J5.out.2.2.2.2.1.lt
        clear ho6 hb6 J5
        rw [dataS_length]
        have hl68 := HC.out.2.1
        generalize dataS img r (needN r.size) = ds at HO6 HNM
        have HDL : Hid (ds.length = needN r.size) := Lib.hid (by have := HO6.out.1.1; simpa [encN] using this)
        obtain ⟨N, hN⟩ : ∃ N, N = needN r.size := ⟨_, rfl⟩
        rw [← hN] at HO6 HDL hl68 ⊢
        have HNR := Lib.hid hN
        clear hN
        have hci6 := J6.out.2.2.2.2.1.ind HR.out.bl
        obtain ⟨bi, hbi⟩ : ∃ b : Bool, decide ((0 : Int) < (r.ind : Int)) = b := ⟨_, rfl⟩
        have hbin : decide (0 < r.ind) = bi := by rw [← hbi, decide_eq_decide]; omega
        have HBI : Hid (bi = true ↔ 0 < r.ind) := Lib.hid (by rw [← hbin, decide_eq_true_eq])
        go_upto_if 38 with fail
        clear hbi hbin
        go_cut [6] from 39 to 43 (fun s6 wc => ∃ (A7 : Option Addr) (c7 : Nat), s6 = .slice A7 (namedR r).length c7 ∧ Hid (wc.ownsRow w5.heap.size 3 1 (.slice A7 (namedR r).length c7) (namedR r).length (encN (namedR r)) ∧ Below w5.heap.size w6 wc))
        case first =>
          cases bi
          · have h0 : r.ind = 0 := by
              apply Classical.byContradiction
              intro h
              have := HBI.out.2 (by omega)
              cases this
            have HN2 : Hid (namedR r = ds) := Lib.hid (by rw [← HNM.out, if_pos h0, List.append_nil])
            have JC : Hid (w6.ownsRow w5.heap.size 3 1 (.slice A6 (namedR r).length c6) (namedR r).length (encN (namedR r)) ∧ Below w5.heap.size w6 w6) := Lib.hid ⟨by rw [HN2.out, HDL.out]; exact HO6.out.1, Below.refl _ _⟩
            go_wp2_with fail
            go_meet
            case rel => exact ⟨A6, c6, by rw [HN2.out, HDL.out], JC⟩
          · have h0 : r.ind ≠ 0 := by have := HBI.out.1 rfl; omega
            have HN2 : Hid (namedR r = ds ++ [r.ind]) := Lib.hid (by rw [← HNM.out, if_neg h0])
            go_wp2_with (at_builtin; refine wpList_append_reads _ rfl (.tmp 39) (.tmp 42) 49 rfl w5.heap.size 3 j0 _ 1 8 Tryz.underlying49 hj0 hy0 hy1 hy2 rfl (by omega) (.slice A6 N c6) N (encN ds) rfl (own_alloc HO6.out.1 _) _ (some ⟨w6.heap.size, 0, none⟩) 1 1 (encN [r.ind]) rfl (reads_new w6 _ 3 1 1 rfl) (encN_one _) (by unfold maxLen; omega) (by omega) (by simp; omega) ?_; intro A7 c7 w7 ho7 hg7 _)
            have JC : Hid (w7.ownsRow w5.heap.size 3 1 (.slice A7 (namedR r).length c7) (namedR r).length (encN (namedR r)) ∧ Below w5.heap.size w6 w7) := Lib.hid ⟨by rw [HN2.out, List.length_append, HDL.out, encN_app]; exact ho7, ((Below.refl _ _).alloc hsz6 _).grown hg7 (by simp; omega) (fun q hq => own_row_ge HO6.out.1 _ hq)⟩
            clear ho7 hg7
            go_meet
            case rel => exact ⟨A7, c7, by rw [HN2.out, List.length_append, HDL.out]; rfl, JC⟩
        case rest =>
          obtain ⟨A7, c7, rfl, K7⟩ := hcut
          have J7 := Lib.hid (And.intro (show wc.ownsRow z 4 1 (.slice (some ⟨z, 0, none⟩) n n) n (encB m) from own_far J6.out.1 K7.out.2 HO6.out.2) (And.intro (J6.out.2.1.trans (K7.out.2.mono J5s)) (And.intro J6.out.2.2.1 (And.intro (Nat.lt_of_lt_of_le J6.out.2.2.2.1 K7.out.2.size) (And.intro ((K7.out.2.block g hg5).trans J6.out.2.2.2.2.1 : BI wc g r) J6.out.2.2.2.2.2)))))
          have hll := namedR_len HR.out
          generalize hlD : namedR r = l at K7 hll HSO2 ⊢
          have HLD := Lib.hid hlD
          clear hlD HNM HO6 hci6 J6
          have HC7 : Hid (∀ k, k < l.length → ∃ b, A7 = some ⟨b, 0, none⟩ ∧ b ≠ z ∧ b < wc.heap.size ∧ wc.cell? ⟨b, k, none⟩ = some (.int .i64 (l.getD k 0 : Nat))) := Lib.hid (fun k hk => by
            obtain ⟨b', o', e', hb', hc'⟩ := (Reads.of_own K7.out.1).nat hk
            rcases own_nil_or K7.out.1 with ⟨e1, _, e2⟩ | ⟨b, e1⟩
            · omega
            · subst e1
              injection e' with e'
              injection e' with e1 e2
              subst e1; subst e2
              have := (own_block K7.out.1).1
              exact ⟨b, rfl, by omega, hb', by rw [Nat.zero_add] at hc'; exact hc'⟩)
          have HLL : Hid (∀ k, k < l.length → ∀ m2 nn2, markI img (l.take k) (m, 0) = some (m2, nn2) → markI img [l.getD k 0] (m2, nn2) = none → soundR img = false) := Lib.hid (fun k hk m2 nn2 h1 h2 => HEN.out (by rw [HSO2.out, markI_stop hk h1 h2]; rfl))
          obtain ⟨L, hL⟩ : ∃ L, L = l.length := ⟨_, rfl⟩
          rw [← hL] at hll HC7 HLL ⊢
          have HL := Lib.hid hL
          clear hL K7
          go_wp2_with fail
          go_loopg [7] L (fun g2 s7 wr => ∃ (k : Nat) (m2 : List Bool), k ≤ L ∧ L - k ≤ g2 ∧ s7 = .int .i64 k ∧ m2.length = n ∧ Hid (markI img (l.take k) (m, 0) = some (m2, k)) ∧ Hid (wr.ownsRow z 4 1 (.slice (some ⟨z, 0, none⟩) n n) n (encB m2) ∧ But z wc wr))
          case atStart => exact ⟨0, m, Nat.zero_le _, by omega, rfl, hml, Lib.hid rfl, Lib.hid ⟨J7.out.1, But.refl _ _⟩⟩
          case round =>
            obtain ⟨k, m2, hk, hg2, rfl, hm2, M, Q⟩ := hrel
            by_cases hkL : k < L
            · have hkLi : (k : Int) < (L : Int) := by omega
              obtain ⟨b6, rfl, hne6, hlt6, hc6⟩ := HC7.out k hkL
              have hcell := (Q.out.2.cell (o := k) hlt6 hne6).trans hc6
              have HST := Lib.hid (HLL.out k hkL m2 k M.out)
              have HMT : Hid (markI img (l.take (k + 1)) (m, 0) = markI img [l.getD k 0] (m2, k)) := Lib.hid (by rw [markI_take (by rw [← HL.out]; exact hkL), M.out]; rfl)
              have hbl := HMK.out (l.getD k 0) (m2, k)
              generalize l.getD k 0 = b at hcell HST HMT hbl
              have HBQ := Lib.hid (J7.out.2.1.trans (Q.out.2.to_below (B := w.heap.size) J7.out.2.2.1 J7.out.2.1.size))
              have cTb := fun q => cT (b : Int) (wr.drewN q) ((H.out.step HBQ.out).drewN q)
              by_cases hbF : b < F
              · have HE : Hid (soundR img = false) := Lib.hid (HST.out (by rw [hbl, if_pos (.inl hbF)]))
                have hbi : (b : Int) < (F : Int) := by omega
                have hbd : decide ((b : Int) < (F : Int)) = true := decide_eq_true hbi
                have hbn : decide (b < F) = true := decide_eq_true hbF
                clear hbl
                go_upto_region 16 with fail
                go_quiet (first | (go_at_call 22; refine Calls.quiet_of_same ((cP _).mono fun e w' h => ⟨h.1, h.2.symm⟩)) | (go_at_call 23; refine Calls.quiet_of_same ((cTb _).mono fun e w' h => ⟨h.1, h.2.symm⟩)))
                go_wp2
                go_ret
                rw [HE.out]
                exact ⟨rfl, below_drewN HBQ.out nq⟩
              have hbi : ¬ (b : Int) < (F : Int) := by omega
              have hbd : decide ((b : Int) < (F : Int)) = false := decide_eq_false hbi
              have hbn : decide (b < F) = false := decide_eq_false hbF
              by_cases hbN : n ≤ b
              · have HE : Hid (soundR img = false) := Lib.hid (HST.out (by rw [hbl, if_pos (.inr (.inl (by
                  cases ht : takenA img (b : Int) with
                  | false => rfl
                  | true => have := taken_lt ht; omega)))]))
                have hni : (n : Int) ≤ (b : Int) := by omega
                have hnd2 : decide ((n : Int) ≤ (b : Int)) = true := decide_eq_true hni
                have hnn2 : decide (n ≤ b) = true := decide_eq_true hbN
                clear hbl
                go_upto_region 16 with fail
                go_quiet (first | (go_at_call 22; refine Calls.quiet_of_same ((cP _).mono fun e w' h => ⟨h.1, h.2.symm⟩)) | (go_at_call 23; refine Calls.quiet_of_same ((cTb _).mono fun e w' h => ⟨h.1, h.2.symm⟩)))
                go_wp2
                go_ret
                rw [HE.out]
                exact ⟨rfl, below_drewN HBQ.out nq⟩
              have hni : ¬ (n : Int) ≤ (b : Int) := by omega
              have hnd2 : decide ((n : Int) ≤ (b : Int)) = false := decide_eq_false hni
              have hnn2 : decide (n ≤ b) = false := decide_eq_false hbN
              have hbn2 : b < n := by omega
              have hbn3 : (b : Int) < (n : Int) := by omega
              have hcb := Q.out.1.cellAt b (by omega)
              rw [encB_get (by omega)] at hcb
              cases htk : takenA img (b : Int) with
              | false =>
                have HE : Hid (soundR img = false) := Lib.hid (HST.out (by rw [hbl, if_pos (.inr (.inl htk))]))
                rw [htk] at cTb
                clear hbl
                go_upto_region 16 with fail
                go_quiet (first | (go_at_call 22; refine Calls.quiet_of_same ((cP _).mono fun e w' h => ⟨h.1, h.2.symm⟩)) | (go_at_call 23; refine Calls.quiet_of_same ((cTb _).mono fun e w' h => ⟨h.1, h.2.symm⟩)))
                go_wp2
                go_ret
                rw [HE.out]
                exact ⟨rfl, below_drewN HBQ.out nq⟩
              | true =>
                rw [htk] at cTb
                cases hbs : bAt m2 b with
                | true =>
                  have HE : Hid (soundR img = false) := Lib.hid (HST.out (by rw [hbl, if_pos (.inr (.inr hbs))]))
                  rw [hbs] at hcb
                  clear hbl
                  go_upto_region 16 with fail
                  go_quiet (first | (go_at_call 22; refine Calls.quiet_of_same ((cP _).mono fun e w' h => ⟨h.1, h.2.symm⟩)) | (go_at_call 23; refine Calls.quiet_of_same ((cTb _).mono fun e w' h => ⟨h.1, h.2.symm⟩)))
                  go_wp2
                  go_ret
                  rw [HE.out]
                  exact ⟨rfl, below_drewN HBQ.out nq⟩
                | false =>
                  rw [hbs] at hcb
                  rw [if_neg (by rw [htk, hbs]; simp; omega)] at hbl
                  have M2 : Hid (markI img (l.take (k + 1)) (m, 0) = some (m2.set b true, k + 1)) := Lib.hid (by rw [HMT.out, hbl])
                  have hst0 := Q.out.1.stored b (.bool true)
                  have HN0 := Lib.hid (And.intro (own_eq_vals hst0.1 (encB_set m2 b true)) (Q.out.2.trans (But.set wr z b (.bool true))))
                  clear hbl hst0
                  go_upto_region 16 with fail
                  go_quiet (first | (go_at_call 22; refine Calls.quiet_of_same ((cP _).mono fun e w' h => ⟨h.1, h.2.symm⟩)) | (go_at_call 23; refine Calls.quiet_of_same ((cTb _).mono fun e w' h => ⟨h.1, h.2.symm⟩)))
                  have hcbq : (wr.drewN nq).cell? ⟨b6, k, none⟩ = some (.int .i64 (b : Nat)) := hcell
                  have hcbz : (wr.drewN nq).cell? ⟨z, b, none⟩ = some (.bool false) := hcb
                  have hfb : (wr.drewN nq).frozen? ⟨z, b, none⟩ = false := Q.out.1.frozenAt b
                  have HN : Hid (((wr.drewN nq).setCell ⟨z, b, none⟩ (.bool true)).ownsRow z 4 1 (.slice (some ⟨z, 0, none⟩) n n) n (encB (m2.set b true)) ∧ But z wc ((wr.drewN nq).setCell ⟨z, b, none⟩ (.bool true))) := Lib.hid ⟨HN0.out.1, (Q.out.2.drewN nq).trans (But.set _ z b (.bool true))⟩
                  clear M Q HST HMT HBQ HN0 hcell hcb
                  go_wp2
                  go_roundg (L - (k + 1))
                  case measure => omega
                  case rel => exact ⟨k + 1, m2.set b true, by omega, by omega, by go_num, by rw [List.length_set]; exact hm2, M2, HN⟩
            · have : k = L := by omega
              subst this
              have HMF : Hid (markI img l (m, 0) = some (m2, k)) := Lib.hid (by rw [← M.out, HL.out, List.take_of_length_le (Nat.le_refl _)])
              have HNX : Hid (refTo img (i + 1) = if tailR img r then some m2 else none) := Lib.hid (by rw [HSO2.out, HMF.out]; rfl)
              have Bw : BI wr g r := (Q.out.2.block g (BI.lt (show BI wc g r from J7.out.2.2.2.2.1)) (by have := J7.out.2.2.2.2.2; omega)).trans J7.out.2.2.2.2.1
              have JN : Hid (wr.ownsRow z 4 1 (.slice (some ⟨z, 0, none⟩) n n) n (encB m2) ∧ Below w.heap.size w wr ∧ w.heap.size ≤ z ∧ z < wr.heap.size) := Lib.hid ⟨Q.out.1, J7.out.2.1.trans (Q.out.2.to_below (B := w.heap.size) J7.out.2.2.1 J7.out.2.1.size), J7.out.2.2.1, Nat.lt_of_lt_of_le J7.out.2.2.2.1 Q.out.2.size⟩
              have hcs := Bw.size
              have cNe := fun W => refNeeds_any r.size (by have := HC.out.1; omega) W
              rw [← HNR.out] at cNe
              have HB := Lib.hid Bw
              have HQ2 := Lib.hid Q.out.2
              clear M Q HSO2 Bw HLL J7
              by_cases hN0 : 0 < N
              rotate_left
              · have hni : ¬ (0 : Int) < (N : Int) := by omega
                have hnd0 : decide ((0 : Int) < (N : Int)) = false := decide_eq_false hni
                have hnn0 : decide (0 < N) = false := decide_eq_false hN0
                have S2 : Hid (refTo img (i + 1) = some m2) := Lib.hid (by rw [HNX.out]; unfold tailR; rw [← HNR.out, if_neg hN0]; rfl)
                go_wp2_with (go_at_call 24; refine (cNe _).mono ?_; rintro e w8 ⟨rfl, rfl⟩)
                go_roundg (C - (i + 1))
                case measure => omega
                case rel => exact ⟨i + 1, m2, by omega, by omega, by go_num, hm2, S2, JN⟩
              have hni : (0 : Int) < (N : Int) := by omega
              have hnd0 : decide ((0 : Int) < (N : Int)) = true := decide_eq_true hni
              have hnn0 : decide (0 < N) = true := decide_eq_true hN0
              obtain ⟨p, hp⟩ : ∃ p, p = N - 1 := ⟨_, rfl⟩
              have hpi : (N : Int) - 1 = (p : Int) := by omega
              have hdl : (dataR r).length = N := by rw [dataR_length HR.out, ← HNR.out]; omega
              have hpk : p < k := by
                rw [HL.out, ← HLD.out]
                unfold namedR
                rw [List.length_append, hdl]; omega
              have hpe : l.getD p 0 = (dataR r).getD (needN r.size - 1) 0 := by
                rw [← HLD.out, ← HNR.out, ← hp]
                unfold namedR
                rw [List.getD_eq_getElem?_getD, List.getD_eq_getElem?_getD, List.getElem?_append_left (by omega)]
              obtain ⟨b6, rfl, hne6, hlt6, hc6⟩ := HC7.out p hpk
              have hcell := (HQ2.out.cell (o := p) hlt6 hne6).trans hc6
              have hbt : l.getD p 0 < n := by
                have h1 := ((markI_iff (img := img) (l := l) (s := (m, 0)) (by rw [hl]; exact hml)).1.1 ⟨_, HMF.out⟩).1 (l.getD p 0) (by
                  rw [List.getD_eq_getElem?_getD, List.getElem?_eq_getElem (by rw [← HL.out]; exact hpk)]; exact List.getElem_mem _)
                have := taken_lt h1.2.1
                omega
              have HTD : Hid (tailD img r = (blk img (l.getD p 0)).data.toList.drop (r.size - p * 128)) := Lib.hid (by unfold tailD; rw [hpe, ← HNR.out, hp])
              have HTR : Hid (tailR img r = decide (tailD img r = List.replicate (tailD img r).length 0)) := Lib.hid (by unfold tailR; rw [← HNR.out, if_pos hN0])
              obtain ⟨b8, o8, rfl, hb8, hcS⟩ := (H.out.step JN.out.2.1).str hbt
              have hsz := blk_fit_size HFIT.out (i := l.getD p 0) (by omega)
              have hbti : ((l.getD p 0 : Nat) : Int) < (n : Int) := by omega
              clear hpe HMF
              generalize l.getD p 0 = b at hcell hbt HTD hcS hsz hbti
              generalize blk img b = sb at HTD hcS hsz
              have hNs : (N - 1) * 128 < r.size ∧ r.size ≤ N * 128 := by have := HNR.out; unfold needN at this; omega
              obtain ⟨t0, ht0⟩ : ∃ t0, t0 = r.size - p * 128 := ⟨_, rfl⟩
              rw [← ht0] at HTD
              have ht128 : t0 ≤ 128 := by omega
              have hs87 := HC.out.1
              have hw1 : IntKind.i64.wrap ((p : Int) * 128) = (p : Int) * 128 := by rw [IntKind.wrap_i64]; omega
              have hw2 : (r.size : Int) - (p : Int) * 128 = (t0 : Int) := by omega
              have hw3 : IntKind.i64.wrap ((r.size : Int) - (p : Int) * 128) = (t0 : Int) := by rw [IntKind.wrap_i64]; omega
              have hw4 : (t0 : Int) ≤ (sb.size : Int) := by omega
              have hpki : (p : Int) < (k : Int) := by omega
              have hE : sb.extract t0 sb.size = mkB (tailD img r) := by
                rw [HTD.out]
                apply ByteArray.ext
                apply Array.ext'
                rw [ext_toList]
                simp only [mkB, List.toList_toArray]
                rw [List.take_of_length_le (by simp)]
              have hts : (sb.extract t0 sb.size).size = (tailD img r).length := by rw [hE, mkB_size]
              have hcmp : ∀ x : ByteArray, x = zeroN (tailD img r).length → ((sb.extract t0 sb.size).toList != x.toList) = !decide (tailD img r = List.replicate (tailD img r).length 0) := fun x hx => by
                rw [bne_bytes, hx, hE, zeroN_mkB]
                congr 1
                rw [decide_eq_decide, mkB_inj]
              have hk2 : (tailD img r).length ≤ 128 := by rw [HTD.out, List.length_drop]; simp; omega
              clear hE HTD ht0 hNs
              obtain ⟨bb, hbb⟩ : ∃ b : Bool, decide (tailD img r = List.replicate (tailD img r).length 0) = b := ⟨_, rfl⟩
              rw [hbb] at hcmp HTR
              clear hbb
              generalize (tailD img r).length = tl at hts hcmp hk2
              obtain ⟨tx, htx⟩ : ∃ x, x = sb.extract t0 sb.size := ⟨_, rfl⟩
              rw [← htx] at hts hcmp
              have hex : sb.extract t0 128 = tx := by rw [htx, hsz]
              have hex2 : sb.extract t0 sb.size = tx := htx.symm
              clear htx hp
              subst hts
              have hne := hcmp (zeroN tx.size) rfl
              have heq : (tx.toList == (zeroN tx.size).toList) = bb := by
                have h : (!(tx.toList == (zeroN tx.size).toList)) = !bb := hne
                revert h
                cases (tx.toList == (zeroN tx.size).toList) <;> cases bb <;> simp
              clear hcmp
              go_upto_region 21 with (go_at_call 24; refine (cNe _).mono ?_; rintro e w8 ⟨rfl, rfl⟩)
              go_quiet (fail)
              have hwzq : w.heap.size ≤ (wr.drewN nq).heap.size := JN.out.2.1.size
              go_wp2_with (at_make; refine wpList_make_full _ rfl _ _ 53 rfl (wr.drewN nq).heap.size 5 u0 _ 1 Tryz.underlying53 hu0 hv0 hv1 .i64 .i64 tx.size tx.size tx.size rfl rfl rfl rfl ?_ ?_ ?_ ?_)
              · rw [hv2]; omega
              · simp only [maxLen]; omega
              · exact Nat.le_refl _
              intro w9 ho9 hg9
              have hb9 : Below (wr.drewN nq).heap.size (wr.drewN nq) w9 := (Below.refl _ _).grown hg9 (Nat.le_refl _) (by intro k hk; cases hk)
              have hcv9 := made_conv ho9
              have JF : Hid (w9.ownsRow z 4 1 (.slice (some ⟨z, 0, none⟩) n n) n (encB m2) ∧ Below w.heap.size w w9 ∧ w.heap.size ≤ z ∧ z < w9.heap.size) := Lib.hid ⟨own_far (B := (wr.drewN nq).heap.size) (show (wr.drewN nq).ownsRow z 4 1 (.slice (some ⟨z, 0, none⟩) n n) n (encB m2) from JN.out.1) hb9 JN.out.2.2.2, (below_drewN JN.out.2.1 nq).trans (hb9.mono hwzq), JN.out.2.2.1, Nat.lt_of_lt_of_le JN.out.2.2.2 hb9.size⟩
              clear ho9 hg9 hb9 JN
              generalize zeroN tx.size = zz at *
              cases bb with
              | true =>
                have hne2 : (tx.toList != zz.toList) = false := hne
                clear hne
                have S2 : Hid (refTo img (i + 1) = some m2) := Lib.hid (by rw [HNX.out, HTR.out]; rfl)
                go_wp2
                go_roundg (C - (i + 1))
                case measure => omega
                case rel => exact ⟨i + 1, m2, by omega, by omega, by go_num, hm2, S2, JF⟩
              | false =>
                have hne2 : (tx.toList != zz.toList) = true := hne
                clear hne
                have HE : Hid (soundR img = false) := Lib.hid (HEN.out (by rw [HNX.out, HTR.out]; rfl))
                go_wp2
                go_ret
                rw [HE.out]
                exact ⟨rfl, JF.out.2.1⟩
    · have : i = C := by omega
      subst this
      have HE1 : Hid (soundR img = decide (∀ b, b < n → F ≤ b → takenA img b = true → bAt m b = true)) := Lib.hid (by rw [HE0.out, S.out])
      clear S HE0
      go_wp2_with (first | (go_at_call 17; refine (cI _).mono ?_; rintro e w3 ⟨rfl, rfl⟩) | (go_at_call 22; refine (cP _).mono ?_; rintro e w3 ⟨rfl, rfl⟩))
      go_loopg [10] n (fun g2 s10 wq => ∃ b : Nat, F ≤ b ∧ b ≤ n ∧ n - b ≤ g2 ∧ s10 = .int .i64 b ∧ wq = wr ∧ Hid (∀ j, j < b → F ≤ j → takenA img j = true → bAt m j = true))
      case atStart => exact ⟨F, Nat.le_refl _, by omega, by omega, rfl, rfl, Lib.hid fun j h1 h2 => by omega⟩
      case round =>
        obtain ⟨b, hFb, hbn, hg2, rfl, rfl, Q⟩ := hrel
        by_cases hlb : b < n
        · have hlbi : (b : Int) < (n : Int) := by omega
          have cTb := cT (b : Int) wr (H.out.step J.out.2.1)
          have hcb := J.out.1.cellAt b (by omega)
          rw [encB_get (by omega)] at hcb
          have HQN : Hid ((takenA img (b : Int) = true → bAt m b = true) → ∀ j, j < b + 1 → F ≤ j → takenA img j = true → bAt m j = true) := Lib.hid fun h j hj h1 h2 => by
            by_cases e : j = b
            · subst e; exact h h2
            · exact Q.out j (by omega) h1 h2
          cases htk : takenA img (b : Int) with
          | false =>
            have QN := Lib.hid (HQN.out (by rw [htk]; intro h; cases h))
            rw [htk] at cTb
            go_wp2_with (go_at_call 23; refine cTb.mono ?_; rintro e w7 ⟨rfl, rfl⟩)
            go_roundg (n - (b + 1))
            case measure => omega
            case rel => exact ⟨b + 1, by omega, by omega, by omega, by go_num, rfl, QN⟩
          | true =>
            rw [htk] at cTb
            cases hbs : bAt m b with
            | true =>
              have QN := Lib.hid (HQN.out fun _ => hbs)
              rw [hbs] at hcb
              go_wp2_with (go_at_call 23; refine cTb.mono ?_; rintro e w7 ⟨rfl, rfl⟩)
              go_roundg (n - (b + 1))
              case measure => omega
              case rel => exact ⟨b + 1, by omega, by omega, by omega, by go_num, rfl, QN⟩
            | false =>
              rw [hbs] at hcb
              have HE : Hid (soundR img = false) := Lib.hid (by
                rw [HE1.out, decide_eq_false_iff_not]
                intro h
                have := h b hlb hFb htk
                rw [hbs] at this
                cases this)
              go_wp2_with (go_at_call 23; refine cTb.mono ?_; rintro e w7 ⟨rfl, rfl⟩)
              go_ret
              rw [HE.out]
              exact ⟨rfl, J.out.2.1⟩
        · have : b = n := by omega
          subst this
          have HE : Hid (soundR img = true) := Lib.hid (by rw [HE1.out, decide_eq_true_eq]; exact Q.out)
          go_wp2
          go_ret
          rw [HE.out]
          exact ⟨rfl, J.out.2.1⟩

end Go.Proofs.YtpdfkakhahfcjaaGreat
