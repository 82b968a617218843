/-
  The document's reader of lines: a name.
-/
import Derived.Test.YtipmeooldopkmaaDoorL07
import Derived.Test.YtipmeooldopkmaaDoorL06
import Derived.Deep.LoopGhost
import Derived.Deep.RegionHeld3
namespace Go.Proofs.YtipmeooldopkmaaDoor
open Go.RowKit

/-- The bytes of a name at a place, how many. -/
def nlen (s : ByteArray) (p : Nat) : Nat := ((s.data.toList.drop p).takeWhile nbC).length
theorem nlen_le (s : ByteArray) (p : Nat) : nlen s p ≤ s.size - p := by
  have := takeWhile_len (p := nbC) (s.data.toList.drop p)
  rw [List.length_drop, ← bsize] at this
  exact this
theorem tw_get {f : UInt8 → Bool} : ∀ {l : List UInt8} {i : Nat} {c : UInt8}, l[i]? = some c → ((i < (l.takeWhile f).length → f c = true) ∧ (i = (l.takeWhile f).length → f c = false))
  | [], i, c, h => by simp at h
  | x :: l, 0, c, h => by
    simp only [List.getElem?_cons_zero, Option.some.injEq] at h
    subst h
    cases hx : f x
    · simp [hx]
    · simp [hx]
  | x :: l, i + 1, c, h => by
    simp only [List.getElem?_cons_succ] at h
    have ih := tw_get (f := f) h
    cases hx : f x
    · simp [hx]
    · simp only [List.takeWhile_cons, hx, if_true, List.length_cons]
      exact ⟨fun h => ih.1 (by omega), fun h => ih.2 (by omega)⟩
theorem drop_get {s : ByteArray} {p i : Nat} (h : p + i < s.size) : (s.data.toList.drop p)[i]? = some s[p + i] := by
  have h' : p + i < s.data.size := h
  rw [List.getElem?_drop, Array.getElem?_toList, Array.getElem?_eq_getElem h']; rfl
theorem nlen_in {s : ByteArray} {p i : Nat} (h : p + i < s.size) : (i < nlen s p → nbN s[p + i].toNat = true) ∧ (i = nlen s p → nbN s[p + i].toNat = false) := tw_get (f := nbC) (drop_get h)
theorem cut_take (s : ByteArray) (p q : Nat) : (s.extract p q).data.toList = (s.data.toList.drop p).take (q - p) := by
  rw [ByteArray.data_extract, Array.toList_extract, List.extract_eq_take_drop]
theorem tw_take {f : UInt8 → Bool} : ∀ (l : List UInt8), l.take (l.takeWhile f).length = l.takeWhile f
  | [] => rfl
  | x :: l => by
    cases hx : f x
    · simp [hx]
    · simp [hx, tw_take l]
/-- What a name's reading leaves. -/
def NameSays (s : ByteArray) (p : Nat) (e : Int) (n : ByteArray) (q : Nat) (e2 : Int) : Prop :=
  (e ≠ 0 → e2 = e) ∧ (e = 0 → (match rdName (s.data.toList.drop p) with | .ok a r => e2 = 0 ∧ n = ⟨a.toArray⟩ ∧ s.data.toList.drop q = r | .bad k => e2 = k))
theorem says_ok {s : ByteArray} {p k : Nat} (hk : k = p + nlen s p) (h0 : 0 < nlen s p) (h64 : nlen s p ≤ 64) : NameSays s p 0 ⟨(upL (s.extract p k).data.toList).toArray⟩ k 0 := by
  refine ⟨fun h => absurd rfl h, fun _ => ?_⟩
  have e : rdName (s.data.toList.drop p) = .ok (upL ((s.data.toList.drop p).takeWhile nbC)) ((s.data.toList.drop p).drop (nlen s p)) := by
    unfold rdName
    have h1 : ((s.data.toList.drop p).takeWhile nbC).length = nlen s p := rfl
    rw [if_neg (by omega), if_neg (by intro h; rw [h] at h1; simp at h1; omega)]
    rfl
  rw [e]
  refine ⟨rfl, ?_, by rw [List.drop_drop, hk]⟩
  rw [cut_take, hk, Nat.add_sub_cancel_left]
  unfold nlen
  rw [tw_take]
theorem says_none {s : ByteArray} {p : Nat} (h0 : nlen s p = 0) (n : ByteArray) : NameSays s p 0 n p (eoE (s.data.toList.drop p)) := by
  refine ⟨fun h => absurd rfl h, fun _ => ?_⟩
  have e : rdName (s.data.toList.drop p) = .bad (eoE (s.data.toList.drop p)) := by
    unfold rdName
    have h1 : ((s.data.toList.drop p).takeWhile nbC).length = nlen s p := rfl
    rw [if_neg (by omega), if_pos (List.eq_nil_of_length_eq_zero (by omega))]
  rw [e]
theorem says_long {s : ByteArray} {p : Nat} (h : 65 ≤ nlen s p) (n : ByteArray) (q : Nat) : NameSays s p 0 n q 12 := by
  refine ⟨fun h => absurd rfl h, fun _ => ?_⟩
  have e : rdName (s.data.toList.drop p) = .bad 12 := by
    unfold rdName
    have h1 : ((s.data.toList.drop p).takeWhile nbC).length = nlen s p := rfl
    rw [if_pos (by omega)]
  rw [e]
theorem says_err {s : ByteArray} {p : Nat} {e : Int} (h : e ≠ 0) (n : ByteArray) (q : Nat) : NameSays s p e n q e := ⟨fun _ => rfl, fun h2 => absurd h2 h⟩

/-- The same with a condition on the world, that draws and calls keep. -/
theorem region_heldL {P : Program} {id : Nat} {Q : Exit → Act → World → Prop} {a : Act} {w : World} {l : List Oper} {C : World → Prop} (hm : P.follows .mixedOrders = true) (hB : Region.lexB .any l.toArray = true) (hC : C w.drew)
    (h : wpQuiet P l.toArray C (fun a' => ∀ w', C w' → Q .normal a' w') l a) : (Code.region id l.toArray true).wp P Q a w :=
  wp_region_quiet (C := C) hm hB hC (by simpa using h)
theorem cell_keep {w w' : World} {p : Addr} {v : Value} (h : w.cell? p = some v) (hb : Below w.heap.size w w') : w'.cell? p = some v := by
  refine (hb.cell ?_).trans h
  unfold World.cell? at h
  by_cases h' : p.block < w.heap.size
  · exact h'
  · rw [Array.getElem?_eq_none (by simpa using h')] at h
    cases h
/-- A reader's text and place, and what lay before. -/
structure Hold2 (w1 : World) (g : Nat) (a b : Value) (w' : World) : Prop where
  c0 : w'.cell? ⟨g, 0, none⟩ = some a
  c1 : w'.cell? ⟨g, 1, none⟩ = some b
  below : Below w1.heap.size w1 w'
theorem keepR {w1 w2 w3 : World} {g : Nat} {a b : Value} (h : Hold2 w1 g a b w2) (hb : Below w2.heap.size w2 w3) : Hold2 w1 g a b w3 := ⟨cell_keep h.c0 hb, cell_keep h.c1 hb, bstep h.below hb⟩

set_option maxRecDepth 100000 in
set_option maxHeartbeats 4000000 in
theorem refName_any {g p : Nat} {s : ByteArray} {e : Int} (hp : p ≤ s.size) (hs : s.size ≤ 16777216) (w : World) (h : R3 w g s p e) :
    Calls Tryd.prog 28 #[.pointer (some ⟨g, 0, none⟩)] w fun e' w' => ∃ (n : ByteArray) (q : Nat) (e2 : Int), e' = .returned (.string n) ∧ ButL g w w' ∧ R3 w' g s q e2 ∧ p ≤ q ∧ q ≤ s.size ∧ NameSays s p e n q e2 := by
  have hmx : Tryd.prog.follows .mixedOrders = true := by kernel_rfl
  obtain ⟨c0, c1, c2, cf⟩ := h.cells
  have H := Lib.hid h; clear h
  have hn := nlen_le s p
  go_enter Tryd.func28, Tryd.ntmps28
  go_wp2
  clear c0 c1 c2 cf
  go_loopg [] 66 (fun m wr => ∃ (k : Nat) (e0 : Int), p + 65 - k ≤ m ∧ p ≤ k ∧ k ≤ p + nlen s p ∧ ((e = 0 ∧ e0 = 0 ∧ k ≤ p + 64) ∨ (e = 0 ∧ e0 = 12 ∧ k = p + 65) ∨ (e ≠ 0 ∧ e0 = e ∧ k = p)) ∧ Hid (ButL g w wr ∧ R3 wr g s (k : Nat) e0))
  case atStart =>
    refine ⟨p, e, by omega, Nat.le_refl _, by omega, ?_, Lib.hid ⟨ButL.refl _ _, H.out⟩⟩
    by_cases he : e = 0
    · exact .inl ⟨he, he, by omega⟩
    · exact .inr (.inr ⟨he, rfl, rfl⟩)
  case round =>
    clear H
    obtain ⟨k, e0, hm, hpk, hkn, hst, J⟩ := hrel
    have hks : k ≤ s.size := by omega
    obtain ⟨c0, c1, c2, cf⟩ := J.out.2.cells
    rcases hst with ⟨rfl, rfl, hk64⟩ | ⟨rfl, rfl, hk65⟩ | ⟨he, rfl, rfl⟩
    · by_cases hlt : k < s.size
      · have hd : decide ((k : Int) < (s.size : Int)) = true := decide_eq_true (by omega)
        have hcb := s[k].toNat_lt
        have hin := nlen_in (s := s) (p := p) (i := k - p) (by omega)
        rw [show (s[p + (k - p)]'(by omega)) = s[k] by congr 1; omega] at hin
        cases hb : nbN s[k].toNat
        · have hkN : k = p + nlen s p := by
            by_cases hh : k - p < nlen s p
            · rw [hin.1 hh] at hb; cases hb
            · omega
          have cnb := refNameByte_any s[k].toNat hcb
          rw [hb] at cnb
          clear hin hb
          have HKN := Lib.hid hkN
          clear hkN
          go_wp2
          go_quiet ((go_at_call 57; refine Calls.quiet_of_same (cnb _)))
          have HR : Hid (R3 (wr.drewN nq) g s (k : Nat) 0) := Lib.hid J.out.2
          have HB : Hid (ButL g w (wr.drewN nq)) := Lib.hid (J.out.1.trans (ButL.of_below (below_drewNL (Below.refl _ wr) nq) g))
          clear c0 c1 c2 cf J
          obtain ⟨d0, d1, d2, df⟩ := HR.out.cells
          by_cases h0 : k = p
          · subst h0
            have HS : Hid (NameSays s k 0 ⟨(upL ByteArray.empty.data.toList).toArray⟩ k (eoE (s.data.toList.drop k))) := Lib.hid (says_none (by have := HKN.out; omega) _)
            go_wp2_with fail
            refine (refNone_any _ HR.out).mono ?_
            rintro e w1 ⟨rfl, hbn, hrn⟩
            rw [keepE_zero] at hrn
            have HR2 := Lib.hid hrn
            have HB2 := Lib.hid (HB.out.trans hbn)
            clear hrn hbn d0 d1 d2 df
            obtain ⟨d0, d1, d2, df⟩ := HR2.out.cells
            go_wp2_with fail
            have cu := fun W => refUpper_any ByteArray.empty (by decide) W
            refine region_heldL (C := Hold2 w1 g (.string s) (.int .i64 (k : Nat))) hmx (by kernel_rfl) (keepR ⟨d0, d1, Below.refl _ _⟩ ((Below.refl _ _).drew)) ?_
            repeat (first
              | go_big_quiet_skip
              | (go_big_quiet_want; go_big_quiet_op; first
                  | go_big_quiet_on
                  | (refine ⟨_, fun _ _ => rfl, ?_⟩; go_big_quiet_on)
                  | (apply Exists.intro
                     refine ⟨fun w5 hw5 => ?_, ?_⟩
                     · (rw [hw5.c0]; exact ⟨rfl, rfl⟩)
                     go_big_quiet_on)
                  | (apply Exists.intro
                     refine ⟨fun w5 hw5 => ?_, ?_⟩
                     · (rw [hw5.c1]; exact ⟨rfl, rfl⟩)
                     go_big_quiet_on)
                  | (apply Exists.intro
                     refine ⟨fun w5 hw5 => ?_, ?_⟩
                     · ((with_reducible refine (cu _).mono ?_); rintro e w6 ⟨rfl, hbx⟩; exact ⟨rfl, keepR hw5 hbx⟩)
                     go_big_quiet_on)))
            refine wpQuiet_nil ?_
            intro w7 hw7
            replace hw7 := hw7.below
            go_wp2_with fail
            go_ret
            exact ⟨_, k, _, rfl, HB2.out.trans (ButL.of_below hw7 g), HR2.out.step hw7, hpk, hks, HS.out⟩
          · have HS : Hid (NameSays s p 0 ⟨(upL (s.extract p k).data.toList).toArray⟩ k 0) := Lib.hid (says_ok HKN.out (by have := HKN.out; omega) (by have := HKN.out; omega))
            have hkp : ((k : Int) == (p : Int)) = false := by rw [beq_eq_false_iff_ne]; omega
            have HR2 := HR
            have HB2 := HB
            go_wp2_with fail
            have cu := fun W => refUpper_any (s.extract p k) (by rw [ByteArray.size_extract]; omega) W
            refine region_heldL (C := Hold2 (wr.drewN nq) g (.string s) (.int .i64 (k : Nat))) hmx (by kernel_rfl) (keepR ⟨d0, d1, Below.refl _ _⟩ ((Below.refl _ _).drew)) ?_
            repeat (first
              | go_big_quiet_skip
              | (go_big_quiet_want; go_big_quiet_op; first
                  | go_big_quiet_on
                  | (refine ⟨_, fun _ _ => rfl, ?_⟩; go_big_quiet_on)
                  | (apply Exists.intro
                     refine ⟨fun w5 hw5 => ?_, ?_⟩
                     · (rw [hw5.c0]; exact ⟨rfl, rfl⟩)
                     go_big_quiet_on)
                  | (apply Exists.intro
                     refine ⟨fun w5 hw5 => ?_, ?_⟩
                     · (rw [hw5.c1]; exact ⟨rfl, rfl⟩)
                     go_big_quiet_on)
                  | (apply Exists.intro
                     refine ⟨fun w5 hw5 => ?_, ?_⟩
                     · ((with_reducible refine (cu _).mono ?_); rintro e w6 ⟨rfl, hbx⟩; exact ⟨rfl, keepR hw5 hbx⟩)
                     go_big_quiet_on)))
            refine wpQuiet_nil ?_
            intro w7 hw7
            replace hw7 := hw7.below
            go_wp2_with fail
            go_ret
            exact ⟨_, k, _, rfl, HB2.out.trans (ButL.of_below hw7 g), HR2.out.step hw7, hpk, hks, HS.out⟩
        · have hlt2 : k - p < nlen s p := by
            by_cases hh : k - p < nlen s p
            · exact hh
            · rw [hin.2 (by omega)] at hb; cases hb
          have cnb := refNameByte_any s[k].toNat hcb
          rw [hb] at cnb
          clear hin hb
          go_wp2
          go_quiet ((go_at_call 57; refine Calls.quiet_of_same (cnb _)))
          have HR : Hid (R3 (wr.drewN nq) g s (k : Nat) 0) := Lib.hid J.out.2
          have HB : Hid (ButL g w (wr.drewN nq)) := Lib.hid (J.out.1.trans (ButL.of_below (below_drewNL (Below.refl _ wr) nq) g))
          obtain ⟨d0, d1, d2, df⟩ := HR.out.cells
          clear c0 c1 c2 cf J
          by_cases h64 : k = p + 64
          · have h64b : ((k : Int) - (p : Int) == 64) = true := by rw [beq_iff_eq]; omega
            have H64 := Lib.hid h64
            clear h64
            go_wp2_with fail
            refine (refFail_any 12 _ HR.out).mono ?_
            rintro e w1 ⟨rfl, hbf, hrf⟩
            have HR2 := Lib.hid hrf
            obtain ⟨f0, f1, f2, ff⟩ := HR2.out.cells
            clear hrf d0 d1 d2 df
            rw [keepE_zero] at f2
            have J2 : Hid (ButL g w (w1.setCell ⟨g, 1, none⟩ (.int .i64 ((k + 1 : Nat) : Int))) ∧ R3 (w1.setCell ⟨g, 1, none⟩ (.int .i64 ((k + 1 : Nat) : Int))) g s (k + 1 : Nat) 12) :=
              Lib.hid ⟨(HB.out.trans hbf).trans (ButL.set _ _ _ _), HR2.out.at_ _⟩
            rw [show ((k + 1 : Nat) : Int) = (k : Int) + 1 by omega] at J2
            go_wp2
            go_roundg (p + 65 - (k + 1))
            case measure => have := H64.out; omega
            case rel => exact ⟨k + 1, 12, by omega, by omega, by omega, .inr (.inl ⟨by first | rfl | trivial, rfl, by have := H64.out; omega⟩), by rw [show ((k + 1 : Nat) : Int) = (k : Int) + 1 by omega]; exact J2⟩
          · have h64b : ((k : Int) - (p : Int) == 64) = false := by rw [beq_eq_false_iff_ne]; omega
            have J2 : Hid (ButL g w ((wr.drewN nq).setCell ⟨g, 1, none⟩ (.int .i64 ((k + 1 : Nat) : Int))) ∧ R3 ((wr.drewN nq).setCell ⟨g, 1, none⟩ (.int .i64 ((k + 1 : Nat) : Int))) g s (k + 1 : Nat) 0) :=
              Lib.hid ⟨HB.out.trans (ButL.set _ _ _ _), HR.out.at_ _⟩
            rw [show ((k + 1 : Nat) : Int) = (k : Int) + 1 by omega] at J2
            go_wp2
            go_roundg (p + 65 - (k + 1))
            case measure => omega
            case rel => exact ⟨k + 1, 0, by omega, by omega, by omega, .inl ⟨by first | rfl | trivial, rfl, by omega⟩, by rw [show ((k + 1 : Nat) : Int) = (k : Int) + 1 by omega]; exact J2⟩
      · have hd : decide ((k : Int) < (s.size : Int)) = false := decide_eq_false (by omega)
        have HKN : Hid (k = p + nlen s p) := Lib.hid (by omega)
        go_wp2
        go_quiet (fail)
        have HR : Hid (R3 (wr.drewN nq) g s (k : Nat) 0) := Lib.hid J.out.2
        have HB : Hid (ButL g w (wr.drewN nq)) := Lib.hid (J.out.1.trans (ButL.of_below (below_drewNL (Below.refl _ wr) nq) g))
        clear c0 c1 c2 cf J
        obtain ⟨d0, d1, d2, df⟩ := HR.out.cells
        by_cases h0 : k = p
        · subst h0
          have HS : Hid (NameSays s k 0 ⟨(upL ByteArray.empty.data.toList).toArray⟩ k (eoE (s.data.toList.drop k))) := Lib.hid (says_none (by have := HKN.out; omega) _)
          go_wp2_with fail
          refine (refNone_any _ HR.out).mono ?_
          rintro e w1 ⟨rfl, hbn, hrn⟩
          rw [keepE_zero] at hrn
          have HR2 := Lib.hid hrn
          have HB2 := Lib.hid (HB.out.trans hbn)
          clear hrn hbn d0 d1 d2 df
          obtain ⟨d0, d1, d2, df⟩ := HR2.out.cells
          go_wp2_with fail
          have cu := fun W => refUpper_any ByteArray.empty (by decide) W
          refine region_heldL (C := Hold2 w1 g (.string s) (.int .i64 (k : Nat))) hmx (by kernel_rfl) (keepR ⟨d0, d1, Below.refl _ _⟩ ((Below.refl _ _).drew)) ?_
          repeat (first
            | go_big_quiet_skip
            | (go_big_quiet_want; go_big_quiet_op; first
                | go_big_quiet_on
                | (refine ⟨_, fun _ _ => rfl, ?_⟩; go_big_quiet_on)
                | (apply Exists.intro
                   refine ⟨fun w5 hw5 => ?_, ?_⟩
                   · (rw [hw5.c0]; exact ⟨rfl, rfl⟩)
                   go_big_quiet_on)
                | (apply Exists.intro
                   refine ⟨fun w5 hw5 => ?_, ?_⟩
                   · (rw [hw5.c1]; exact ⟨rfl, rfl⟩)
                   go_big_quiet_on)
                | (apply Exists.intro
                   refine ⟨fun w5 hw5 => ?_, ?_⟩
                   · ((with_reducible refine (cu _).mono ?_); rintro e w6 ⟨rfl, hbx⟩; exact ⟨rfl, keepR hw5 hbx⟩)
                   go_big_quiet_on)))
          refine wpQuiet_nil ?_
          intro w7 hw7
          replace hw7 := hw7.below
          go_wp2_with fail
          go_ret
          exact ⟨_, k, _, rfl, HB2.out.trans (ButL.of_below hw7 g), HR2.out.step hw7, hpk, hks, HS.out⟩
        · have HS : Hid (NameSays s p 0 ⟨(upL (s.extract p k).data.toList).toArray⟩ k 0) := Lib.hid (says_ok HKN.out (by have := HKN.out; omega) (by have := HKN.out; omega))
          have hkp : ((k : Int) == (p : Int)) = false := by rw [beq_eq_false_iff_ne]; omega
          have HR2 := HR
          have HB2 := HB
          go_wp2_with fail
          have cu := fun W => refUpper_any (s.extract p k) (by rw [ByteArray.size_extract]; omega) W
          refine region_heldL (C := Hold2 (wr.drewN nq) g (.string s) (.int .i64 (k : Nat))) hmx (by kernel_rfl) (keepR ⟨d0, d1, Below.refl _ _⟩ ((Below.refl _ _).drew)) ?_
          repeat (first
            | go_big_quiet_skip
            | (go_big_quiet_want; go_big_quiet_op; first
                | go_big_quiet_on
                | (refine ⟨_, fun _ _ => rfl, ?_⟩; go_big_quiet_on)
                | (apply Exists.intro
                   refine ⟨fun w5 hw5 => ?_, ?_⟩
                   · (rw [hw5.c0]; exact ⟨rfl, rfl⟩)
                   go_big_quiet_on)
                | (apply Exists.intro
                   refine ⟨fun w5 hw5 => ?_, ?_⟩
                   · (rw [hw5.c1]; exact ⟨rfl, rfl⟩)
                   go_big_quiet_on)
                | (apply Exists.intro
                   refine ⟨fun w5 hw5 => ?_, ?_⟩
                   · ((with_reducible refine (cu _).mono ?_); rintro e w6 ⟨rfl, hbx⟩; exact ⟨rfl, keepR hw5 hbx⟩)
                   go_big_quiet_on)))
          refine wpQuiet_nil ?_
          intro w7 hw7
          replace hw7 := hw7.below
          go_wp2_with fail
          go_ret
          exact ⟨_, k, _, rfl, HB2.out.trans (ButL.of_below hw7 g), HR2.out.step hw7, hpk, hks, HS.out⟩
    · have HK := Lib.hid hk65
      clear hk65
      have hkp : ((k : Int) == (p : Int)) = false := by rw [beq_eq_false_iff_ne]; have := HK.out; omega
      go_wp2
      go_quiet (fail)
      have HR2 : Hid (R3 (wr.drewN nq) g s (k : Nat) 12) := Lib.hid J.out.2
      have HB2 : Hid (ButL g w (wr.drewN nq)) := Lib.hid (J.out.1.trans (ButL.of_below (below_drewNL (Below.refl _ wr) nq) g))
      have HS : Hid (NameSays s p 0 ⟨(upL (s.extract p k).data.toList).toArray⟩ k 12) := Lib.hid (says_long (by have := HK.out; omega) _ _)
      clear c0 c1 c2 cf J
      obtain ⟨d0, d1, d2, df⟩ := HR2.out.cells
      go_wp2_with fail
      have cu := fun W => refUpper_any (s.extract p k) (by rw [ByteArray.size_extract]; omega) W
      refine region_heldL (C := Hold2 (wr.drewN nq) g (.string s) (.int .i64 (k : Nat))) hmx (by kernel_rfl) (keepR ⟨d0, d1, Below.refl _ _⟩ ((Below.refl _ _).drew)) ?_
      repeat (first
        | go_big_quiet_skip
        | (go_big_quiet_want; go_big_quiet_op; first
            | go_big_quiet_on
            | (refine ⟨_, fun _ _ => rfl, ?_⟩; go_big_quiet_on)
            | (apply Exists.intro
               refine ⟨fun w5 hw5 => ?_, ?_⟩
               · (rw [hw5.c0]; exact ⟨rfl, rfl⟩)
               go_big_quiet_on)
            | (apply Exists.intro
               refine ⟨fun w5 hw5 => ?_, ?_⟩
               · (rw [hw5.c1]; exact ⟨rfl, rfl⟩)
               go_big_quiet_on)
            | (apply Exists.intro
               refine ⟨fun w5 hw5 => ?_, ?_⟩
               · ((with_reducible refine (cu _).mono ?_); rintro e w6 ⟨rfl, hbx⟩; exact ⟨rfl, keepR hw5 hbx⟩)
               go_big_quiet_on)))
      refine wpQuiet_nil ?_
      intro w7 hw7
      replace hw7 := hw7.below
      go_wp2_with fail
      go_ret
      exact ⟨_, k, _, rfl, HB2.out.trans (ButL.of_below hw7 g), HR2.out.step hw7, hpk, hks, HS.out⟩
    · have hb : (e0 == 0) = false := by rw [beq_eq_false_iff_ne]; exact he
      go_wp2
      go_quiet (fail)
      have HR : Hid (R3 (wr.drewN nq) g s (k : Nat) e0) := Lib.hid J.out.2
      have HB : Hid (ButL g w (wr.drewN nq)) := Lib.hid (J.out.1.trans (ButL.of_below (below_drewNL (Below.refl _ wr) nq) g))
      have HS : Hid (NameSays s k e0 ⟨(upL ByteArray.empty.data.toList).toArray⟩ k e0) := Lib.hid (says_err he _ _)
      clear c0 c1 c2 cf J
      obtain ⟨d0, d1, d2, df⟩ := HR.out.cells
      go_wp2_with fail
      refine (refNone_any _ HR.out).mono ?_
      rintro e w1 ⟨rfl, hbn, hrn⟩
      rw [keepE_ne he] at hrn
      have HR2 := Lib.hid hrn
      have HB2 := Lib.hid (HB.out.trans hbn)
      clear hrn hbn d0 d1 d2 df
      obtain ⟨d0, d1, d2, df⟩ := HR2.out.cells
      go_wp2_with fail
      have cu := fun W => refUpper_any ByteArray.empty (by decide) W
      refine region_heldL (C := Hold2 w1 g (.string s) (.int .i64 (k : Nat))) hmx (by kernel_rfl) (keepR ⟨d0, d1, Below.refl _ _⟩ ((Below.refl _ _).drew)) ?_
      repeat (first
        | go_big_quiet_skip
        | (go_big_quiet_want; go_big_quiet_op; first
            | go_big_quiet_on
            | (refine ⟨_, fun _ _ => rfl, ?_⟩; go_big_quiet_on)
            | (apply Exists.intro
               refine ⟨fun w5 hw5 => ?_, ?_⟩
               · (rw [hw5.c0]; exact ⟨rfl, rfl⟩)
               go_big_quiet_on)
            | (apply Exists.intro
               refine ⟨fun w5 hw5 => ?_, ?_⟩
               · (rw [hw5.c1]; exact ⟨rfl, rfl⟩)
               go_big_quiet_on)
            | (apply Exists.intro
               refine ⟨fun w5 hw5 => ?_, ?_⟩
               · ((with_reducible refine (cu _).mono ?_); rintro e w6 ⟨rfl, hbx⟩; exact ⟨rfl, keepR hw5 hbx⟩)
               go_big_quiet_on)))
      refine wpQuiet_nil ?_
      intro w7 hw7
      replace hw7 := hw7.below
      go_wp2_with fail
      go_ret
      exact ⟨_, k, _, rfl, HB2.out.trans (ButL.of_below hw7 g), HR2.out.step hw7, hpk, hks, HS.out⟩

end Go.Proofs.YtipmeooldopkmaaDoor
