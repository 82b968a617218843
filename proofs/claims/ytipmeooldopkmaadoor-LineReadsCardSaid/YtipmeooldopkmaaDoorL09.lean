/-
  The document's reader of lines: a parameter's value.
-/
import Derived.Test.YtipmeooldopkmaaDoorL08
namespace Go.Proofs.YtipmeooldopkmaaDoor
open Go.RowKit

def vf (b : Bool) (c : UInt8) : Bool := if b = true then qvC c else uvC c
/-- The bytes of a value at a place, how many. -/
def vlen (s : ByteArray) (p : Nat) (b : Bool) : Nat := ((s.data.toList.drop p).takeWhile (vf b)).length
theorem vlen_le (s : ByteArray) (p : Nat) (b : Bool) : vlen s p b ≤ s.size - p := by
  have := takeWhile_len (p := vf b) (s.data.toList.drop p)
  rw [List.length_drop, ← bsize] at this
  exact this
theorem vlen_in {s : ByteArray} {p k : Nat} {b : Bool} (hpk : p ≤ k) (h : k < s.size) : (k - p < vlen s p b → vf b s[k] = true) ∧ (k - p = vlen s p b → vf b s[k] = false) := by
  have := tw_get (f := vf b) (drop_get (s := s) (p := p) (i := k - p) (by omega))
  have e : s[p + (k - p)]'(by omega) = s[k] := by congr 1; omega
  rw [e] at this
  exact this
theorem vlen_end {s : ByteArray} {p k : Nat} {b : Bool} (hpk : p ≤ k) (hk : k ≤ p + vlen s p b) (h : k < s.size) (hf : vf b s[k] = false) : k = p + vlen s p b := by
  by_cases hh : k - p < vlen s p b
  · rw [(vlen_in hpk h).1 hh] at hf; cases hf
  · omega
theorem vlen_on {s : ByteArray} {p k : Nat} {b : Bool} (hpk : p ≤ k) (hk : k ≤ p + vlen s p b) (h : k < s.size) (hf : vf b s[k] = true) : k + 1 ≤ p + vlen s p b := by
  by_cases hh : k - p = vlen s p b
  · rw [(vlen_in hpk h).2 hh] at hf; cases hf
  · omega
theorem vlen_cut {s : ByteArray} {p k : Nat} {b : Bool} (hk : k = p + vlen s p b) : (s.extract p k).data.toList = (s.data.toList.drop p).takeWhile (vf b) := by
  rw [cut_take, hk, Nat.add_sub_cancel_left]
  unfold vlen
  rw [tw_take]
/-- What a value's reading leaves. -/
def ValSays (s : ByteArray) (p : Nat) (v : ByteArray) (q : Nat) (e2 : Int) : Prop :=
  match rdVal (s.data.toList.drop p) with | .ok a r => e2 = 0 ∧ v = ⟨a.toArray⟩ ∧ s.data.toList.drop q = r ∧ q ≤ s.size | .bad k => e2 = k
theorem of_list {v : ByteArray} {a : List UInt8} (h : v.data.toList = a) : v = ⟨a.toArray⟩ := by subst h; simp
theorem val_plain {s : ByteArray} {p k : Nat} (hq : (s.data.toList.drop p).head? ≠ some 34) (hk : k = p + vlen s p false) (hks : k ≤ s.size) : ValSays s p (s.extract p k) k 0 := by
  have e : rdVal (s.data.toList.drop p) = .ok ((s.data.toList.drop p).takeWhile (vf false)) ((s.data.toList.drop p).drop (vlen s p false)) := by
    unfold rdVal
    rw [if_neg hq]; rfl
  unfold ValSays
  rw [e]
  exact ⟨rfl, of_list (vlen_cut hk), by rw [List.drop_drop, hk], hks⟩
theorem val_quoted {s : ByteArray} {p k : Nat} (hq : (s.data.toList.drop p).head? = some 34) (hk : k = p + 1 + vlen s (p + 1) true) (hks : k < s.size) (h34 : (s.data.toList.drop k).head? = some 34) : ValSays s p (s.extract (p + 1) k) (k + 1) 0 := by
  have e2 : (s.data.toList.drop (p + 1)).drop (vlen s (p + 1) true) = s.data.toList.drop k := by rw [List.drop_drop, hk]
  have e : rdVal (s.data.toList.drop p) = .ok ((s.data.toList.drop (p + 1)).takeWhile (vf true)) ((s.data.toList.drop (p + 1)).drop (vlen s (p + 1) true + 1)) := by
    unfold rdVal
    rw [if_pos hq, List.drop_drop]
    unfold rdQuoted
    have h2 : ((s.data.toList.drop (p + 1)).drop ((s.data.toList.drop (p + 1)).takeWhile qvC).length).head? = some 34 := by
      rw [← h34, ← e2]; rfl
    rw [if_pos h2]; rfl
  unfold ValSays
  rw [e]
  exact ⟨rfl, of_list (vlen_cut hk), by rw [List.drop_drop, hk]; congr 1, by omega⟩
theorem val_open {s : ByteArray} {p k : Nat} (hq : (s.data.toList.drop p).head? = some 34) (hk : k = p + 1 + vlen s (p + 1) true) (h34 : (s.data.toList.drop k).head? ≠ some 34) (v : ByteArray) (q : Nat) : ValSays s p v q (eoE (s.data.toList.drop k)) := by
  have e2 : (s.data.toList.drop (p + 1)).drop (vlen s (p + 1) true) = s.data.toList.drop k := by rw [List.drop_drop, hk]
  have e : rdVal (s.data.toList.drop p) = .bad (eoE (s.data.toList.drop k)) := by
    unfold rdVal
    rw [if_pos hq, List.drop_drop]
    unfold rdQuoted
    have h2 : ¬ ((s.data.toList.drop (p + 1)).drop ((s.data.toList.drop (p + 1)).takeWhile qvC).length).head? = some 34 := by
      intro hh; apply h34; rw [← hh, ← e2]; rfl
    rw [if_neg h2, ← e2]; rfl
  unfold ValSays
  rw [e]
theorem isV_false {s : ByteArray} {p : Nat} {c : UInt8} (h : isV s p 0 c = false) : (s.data.toList.drop p).head? ≠ some c := by
  intro hh
  have := (isV_iff (s := s) (p := p) (e := 0) (c := c)).2 ⟨rfl, hh⟩
  rw [h] at this; cases this

set_option maxRecDepth 100000 in
set_option maxHeartbeats 8000000 in
theorem refValue_any {g p : Nat} {s : ByteArray} (hp : p ≤ s.size) (hs : s.size ≤ 16777216) (w : World) (h : R3 w g s p 0) :
    Calls Tryd.prog 32 #[.pointer (some ⟨g, 0, none⟩)] w fun e' w' => ∃ (v : ByteArray) (q : Nat) (e2 : Int), e' = .returned (.string v) ∧ ButL g w w' ∧ R3 w' g s q e2 ∧ q ≤ s.size + 1 ∧ ValSays s p v q e2 := by
  have hmx : Tryd.prog.follows .mixedOrders = true := by kernel_rfl
  have H := Lib.hid h
  have ci := refIs_any 34 w h
  clear h
  cases hq : isV s p 0 34
  · rw [hq] at ci
    have HQ := Lib.hid (isV_false hq)
    clear hq
    go_enter Tryd.func32, Tryd.ntmps32
    go_wp2_with fail
    refine ci.mono ?_
    rintro e w1 ⟨rfl, hb1⟩
    have HJ0 : Hid (ButL g w w1 ∧ R3 w1 g s (p : Nat) 0) := Lib.hid ⟨ButL.of_below hb1 g, H.out.step hb1⟩
    clear H ci hb1
    obtain ⟨c0, c1, c2, cf⟩ := HJ0.out.2.cells
    go_wp2
    clear c0 c1 c2 cf
    have hn := vlen_le s p false
    go_loopg [] (s.size + 1) (fun m wr => ∃ k : Nat, s.size + 1 - k ≤ m ∧ p ≤ k ∧ k ≤ p + vlen s p false ∧ Hid (ButL g w wr ∧ R3 wr g s (k : Nat) 0))
    case atStart => exact ⟨p, by omega, Nat.le_refl _, by omega, HJ0⟩
    case round =>
      clear HJ0
      obtain ⟨k, hm, hpk, hkn, J⟩ := hrel
      have hks : k ≤ s.size := by omega
      obtain ⟨c0, c1, c2, cf⟩ := J.out.2.cells
      by_cases hlt : k < s.size
      · have hd : decide ((k : Int) < (s.size : Int)) = true := decide_eq_true (by omega)
        have hcb := s[k].toNat_lt
        have cc := refControl_any s[k].toNat hcb
        have HEND := Lib.hid (vlen_end hpk hkn hlt)
        have HON2 := Lib.hid (vlen_on hpk hkn hlt)
        by_cases h34 : s[k].toNat = 34
        · have HKN := Lib.hid (HEND.out (by unfold vf uvC qvC; simp [h34]))
          have e34n : s[k].toNat = 34 := h34
          have cc := refControl_any 34 (by decide)
          rw [show ctlN 34 = false by decide] at cc
          clear HEND HON2 h34
          go_wp2
          dsimp only [List.append]
          go_quiet ((go_at_call 33; refine Calls.quiet_of_same (cc _)))
          have HR : Hid (R3 (wr.drewN nq) g s (k : Nat) 0) := Lib.hid J.out.2
          have HB : Hid (ButL g w (wr.drewN nq)) := Lib.hid (J.out.1.trans (ButL.of_below (below_drewNL (Below.refl _ wr) nq) g))
          clear c0 c1 c2 cf J
          generalize wr.drewN nq = W1 at *
          obtain ⟨d0, d1, d2, df⟩ := HR.out.cells
          go_wp2
          go_quiet (fail)
          go_wp2
          go_ret
          exact ⟨_, k, 0, rfl, HB.out.trans (ButL.of_below (below_drewNL (Below.refl _ _) _) g), HR.out, by omega, val_plain HQ.out HKN.out hks⟩
        · have n34 : ((s[k].toNat : Int) != 34) = true := by rw [bne_iff_ne]; omega
          have m34 : ((s[k].toNat : Int) == 34) = false := by rw [beq_eq_false_iff_ne]; omega
          cases hct : ctlN s[k].toNat
          · rw [hct] at cc
            by_cases h44 : s[k].toNat = 44
            · have HKN := Lib.hid (HEND.out (by unfold vf uvC; simp [h44]))
              have e44n : s[k].toNat = 44 := h44
              have cc := refControl_any 44 (by decide)
              rw [show ctlN 44 = false by decide] at cc
              clear HEND HON2 h44 h34 hct
              go_wp2
              dsimp only [List.append]
              go_quiet ((go_at_call 33; refine Calls.quiet_of_same (cc _)))
              have HR : Hid (R3 (wr.drewN nq) g s (k : Nat) 0) := Lib.hid J.out.2
              have HB : Hid (ButL g w (wr.drewN nq)) := Lib.hid (J.out.1.trans (ButL.of_below (below_drewNL (Below.refl _ wr) nq) g))
              clear c0 c1 c2 cf J
              generalize wr.drewN nq = W1 at *
              obtain ⟨d0, d1, d2, df⟩ := HR.out.cells
              go_wp2
              go_quiet (fail)
              go_wp2
              go_ret
              exact ⟨_, k, 0, rfl, HB.out.trans (ButL.of_below (below_drewNL (Below.refl _ _) _) g), HR.out, by omega, val_plain HQ.out HKN.out hks⟩
            · have n44 : ((s[k].toNat : Int) != 44) = true := by rw [bne_iff_ne]; omega
              have m44 : ((s[k].toNat : Int) == 44) = false := by rw [beq_eq_false_iff_ne]; omega
              by_cases h59 : s[k].toNat = 59
              · have HKN := Lib.hid (HEND.out (by unfold vf uvC; simp [h59]))
                have e59n : s[k].toNat = 59 := h59
                have cc := refControl_any 59 (by decide)
                rw [show ctlN 59 = false by decide] at cc
                clear HEND HON2 h59 h34 hct
                go_wp2
                dsimp only [List.append]
                go_quiet ((go_at_call 33; refine Calls.quiet_of_same (cc _)))
                have HR : Hid (R3 (wr.drewN nq) g s (k : Nat) 0) := Lib.hid J.out.2
                have HB : Hid (ButL g w (wr.drewN nq)) := Lib.hid (J.out.1.trans (ButL.of_below (below_drewNL (Below.refl _ wr) nq) g))
                clear c0 c1 c2 cf J
                generalize wr.drewN nq = W1 at *
                obtain ⟨d0, d1, d2, df⟩ := HR.out.cells
                go_wp2
                go_quiet (fail)
                go_wp2
                go_ret
                exact ⟨_, k, 0, rfl, HB.out.trans (ButL.of_below (below_drewNL (Below.refl _ _) _) g), HR.out, by omega, val_plain HQ.out HKN.out hks⟩
              · have n59 : ((s[k].toNat : Int) != 59) = true := by rw [bne_iff_ne]; omega
                have m59 : ((s[k].toNat : Int) == 59) = false := by rw [beq_eq_false_iff_ne]; omega
                by_cases h58 : s[k].toNat = 58
                · have HKN := Lib.hid (HEND.out (by unfold vf uvC; simp [h58]))
                  have e58n : s[k].toNat = 58 := h58
                  have cc := refControl_any 58 (by decide)
                  rw [show ctlN 58 = false by decide] at cc
                  clear HEND HON2 h58 h34 hct
                  go_wp2
                  dsimp only [List.append]
                  go_quiet ((go_at_call 33; refine Calls.quiet_of_same (cc _)))
                  have HR : Hid (R3 (wr.drewN nq) g s (k : Nat) 0) := Lib.hid J.out.2
                  have HB : Hid (ButL g w (wr.drewN nq)) := Lib.hid (J.out.1.trans (ButL.of_below (below_drewNL (Below.refl _ wr) nq) g))
                  clear c0 c1 c2 cf J
                  generalize wr.drewN nq = W1 at *
                  obtain ⟨d0, d1, d2, df⟩ := HR.out.cells
                  go_wp2
                  go_quiet (fail)
                  go_wp2
                  go_ret
                  exact ⟨_, k, 0, rfl, HB.out.trans (ButL.of_below (below_drewNL (Below.refl _ _) _) g), HR.out, by omega, val_plain HQ.out HKN.out hks⟩
                · have n58 : ((s[k].toNat : Int) != 58) = true := by rw [bne_iff_ne]; omega
                  have m58 : ((s[k].toNat : Int) == 58) = false := by rw [beq_eq_false_iff_ne]; omega
                  have HON := Lib.hid (HON2.out (by unfold vf uvC qvC; simp [h34, hct, h44, h59, h58]))
                  clear HEND HON2 h34 h44 h59 h58 hct
                  go_wp2
                  dsimp only [List.append]
                  go_quiet ((go_at_call 33; refine Calls.quiet_of_same (cc _)))
                  have HR : Hid (R3 (wr.drewN nq) g s (k : Nat) 0) := Lib.hid J.out.2
                  have HB : Hid (ButL g w (wr.drewN nq)) := Lib.hid (J.out.1.trans (ButL.of_below (below_drewNL (Below.refl _ wr) nq) g))
                  clear c0 c1 c2 cf J
                  generalize wr.drewN nq = W1 at *
                  obtain ⟨d0, d1, d2, df⟩ := HR.out.cells
                  have J2 : Hid (ButL g w (W1.setCell ⟨g, 1, none⟩ (.int .i64 ((k + 1 : Nat) : Int))) ∧ R3 (W1.setCell ⟨g, 1, none⟩ (.int .i64 ((k + 1 : Nat) : Int))) g s (k + 1 : Nat) 0) :=
                    Lib.hid ⟨HB.out.trans (ButL.set _ _ _ _), HR.out.at_ _⟩
                  rw [show ((k + 1 : Nat) : Int) = (k : Int) + 1 by omega] at J2
                  go_wp2
                  go_roundg (s.size + 1 - (k + 1))
                  case measure => omega
                  case rel => exact ⟨k + 1, by omega, by omega, HON.out, by rw [show ((k + 1 : Nat) : Int) = (k : Int) + 1 by omega]; exact J2⟩
          · rw [hct] at cc
            have HKN := Lib.hid (HEND.out (by unfold vf uvC qvC; simp [hct]))
            clear HEND HON2 h34 hct
            go_wp2
            dsimp only [List.append]
            go_quiet ((go_at_call 33; refine Calls.quiet_of_same (cc _)))
            have HR : Hid (R3 (wr.drewN nq) g s (k : Nat) 0) := Lib.hid J.out.2
            have HB : Hid (ButL g w (wr.drewN nq)) := Lib.hid (J.out.1.trans (ButL.of_below (below_drewNL (Below.refl _ wr) nq) g))
            clear c0 c1 c2 cf J
            generalize wr.drewN nq = W1 at *
            obtain ⟨d0, d1, d2, df⟩ := HR.out.cells
            go_wp2
            go_quiet (fail)
            go_wp2
            go_ret
            exact ⟨_, k, 0, rfl, HB.out.trans (ButL.of_below (below_drewNL (Below.refl _ _) _) g), HR.out, by omega, val_plain HQ.out HKN.out hks⟩
      · have hd : decide ((k : Int) < (s.size : Int)) = false := decide_eq_false (by omega)
        have HKN : Hid (k = p + vlen s p false) := Lib.hid (by omega)
        go_wp2
        dsimp only [List.append]
        go_quiet (fail)
        have HR : Hid (R3 (wr.drewN nq) g s (k : Nat) 0) := Lib.hid J.out.2
        have HB : Hid (ButL g w (wr.drewN nq)) := Lib.hid (J.out.1.trans (ButL.of_below (below_drewNL (Below.refl _ wr) nq) g))
        clear c0 c1 c2 cf J
        generalize wr.drewN nq = W1 at *
        obtain ⟨d0, d1, d2, df⟩ := HR.out.cells
        go_wp2
        go_quiet (fail)
        go_wp2
        go_ret
        exact ⟨_, k, 0, rfl, HB.out.trans (ButL.of_below (below_drewNL (Below.refl _ _) _) g), HR.out, by omega, val_plain HQ.out HKN.out hks⟩
  · rw [hq] at ci
    have HQ := Lib.hid (isV_iff.1 hq).2
    have hplt := (isV_lt hq).2
    clear hq
    go_enter Tryd.func32, Tryd.ntmps32
    go_wp2_with fail
    refine ci.mono ?_
    rintro e w1 ⟨rfl, hb1⟩
    have HR0 := Lib.hid (H.out.step hb1)
    have HB0 := Lib.hid (ButL.of_below hb1 g)
    clear H ci hb1
    obtain ⟨c0, c1, c2, cf⟩ := HR0.out.cells
    have HJ0 : Hid (ButL g w (w1.setCell ⟨g, 1, none⟩ (.int .i64 ((p + 1 : Nat) : Int))) ∧ R3 (w1.setCell ⟨g, 1, none⟩ (.int .i64 ((p + 1 : Nat) : Int))) g s (p + 1 : Nat) 0) :=
      Lib.hid ⟨HB0.out.trans (ButL.set _ _ _ _), HR0.out.at_ _⟩
    rw [show ((p + 1 : Nat) : Int) = (p : Int) + 1 by omega] at HJ0
    go_wp2
    clear c0 c1 c2 cf
    rw [show (p : Int) + 1 = ((p + 1 : Nat) : Int) by omega] at HJ0 ⊢
    obtain ⟨p1, hp1⟩ : ∃ p1, p1 = p + 1 := ⟨_, rfl⟩
    have HP := Lib.hid hp1
    rw [← hp1] at HJ0 ⊢
    have hp1s : p1 ≤ s.size := by omega
    clear hp1
    have hn := vlen_le s p1 true
    go_loopg [] (s.size + 1) (fun m wr => ∃ k : Nat, s.size + 1 - k ≤ m ∧ p1 ≤ k ∧ k ≤ p1 + vlen s p1 true ∧ Hid (ButL g w wr ∧ R3 wr g s (k : Nat) 0))
    case atStart => exact ⟨p1, by omega, Nat.le_refl _, by omega, HJ0⟩
    case round =>
      clear HJ0
      obtain ⟨k, hm, hpk, hkn, J⟩ := hrel
      have hks : k ≤ s.size := by omega
      obtain ⟨c0, c1, c2, cf⟩ := J.out.2.cells
      by_cases hlt : k < s.size
      · have hd : decide ((k : Int) < (s.size : Int)) = true := decide_eq_true (by omega)
        have hcb := s[k].toNat_lt
        have cc := refControl_any s[k].toNat hcb
        have HEND := Lib.hid (vlen_end hpk hkn hlt)
        have HON2 := Lib.hid (vlen_on hpk hkn hlt)
        by_cases h34 : s[k].toNat = 34
        · have HKN := Lib.hid (HEND.out (by unfold vf qvC; simp [h34]))
          have e34 : s[k] = 34 := UInt8.toNat_inj.1 h34
          have I34 : Hid (isV s k 0 34 = true) := Lib.hid (by rw [isV_here hlt]; exact decide_eq_true e34)
          have H34 : Hid ((s.data.toList.drop k).head? = some 34) := Lib.hid (by rw [head_drop hlt, e34])
          have HLT := Lib.hid hlt
          have e34n : s[k].toNat = 34 := h34
          have cc := refControl_any 34 (by decide)
          rw [show ctlN 34 = false by decide] at cc
          clear HEND HON2
          go_wp2
          dsimp only [List.append]
          go_quiet ((go_at_call 33; refine Calls.quiet_of_same (cc _)))
          have HR : Hid (R3 (wr.drewN nq) g s (k : Nat) 0) := Lib.hid J.out.2
          have HB : Hid (ButL g w (wr.drewN nq)) := Lib.hid (J.out.1.trans (ButL.of_below (below_drewNL (Below.refl _ wr) nq) g))
          clear c0 c1 c2 cf J
          generalize wr.drewN nq = W1 at *
          obtain ⟨d0, d1, d2, df⟩ := HR.out.cells
          go_wp2
          go_quiet (fail)
          have HR1 : Hid (R3 (W1.drewN nq) g s (k : Nat) 0) := Lib.hid HR.out
          have HB1 : Hid (ButL g w (W1.drewN nq)) := Lib.hid (HB.out.trans (ButL.of_below (below_drewNL (Below.refl _ _) _) g))
          go_wp2_with fail
          refine (refIs_any 34 _ HR1.out).mono ?_
          rintro e w1 ⟨rfl, hb1⟩
          rw [I34.out]
          have HR2 := Lib.hid (HR1.out.step hb1)
          have HB2 := Lib.hid (HB1.out.trans (ButL.of_below hb1 g))
          clear hb1 d0 d1 d2 df
          obtain ⟨d0, d1, d2, df⟩ := HR2.out.cells
          have HR3 := Lib.hid (HR2.out.at_ ((k + 1 : Nat) : Int))
          have HB3 := Lib.hid (HB2.out.trans (ButL.set w1 g 1 (.int .i64 ((k + 1 : Nat) : Int))))
          rw [show ((k + 1 : Nat) : Int) = (k : Int) + 1 by omega] at HR3 HB3
          go_wp2
          go_ret
          exact ⟨_, k + 1, 0, rfl, HB3.out, by rw [show ((k + 1 : Nat) : Int) = (k : Int) + 1 by omega]; exact HR3.out, by omega, by have e := HP.out; have k1 := HKN.out; subst e; exact val_quoted HQ.out k1 HLT.out H34.out⟩
        · have n34 : ((s[k].toNat : Int) != 34) = true := by rw [bne_iff_ne]; omega
          have m34 : ((s[k].toNat : Int) == 34) = false := by rw [beq_eq_false_iff_ne]; omega
          have I34 : Hid (isV s k 0 34 = false) := Lib.hid (by rw [isV_here hlt]; exact decide_eq_false (fun e => by exact h34 (by rw [e]; rfl)))
          cases hct : ctlN s[k].toNat
          · rw [hct] at cc
            have HON := Lib.hid (HON2.out (by unfold vf qvC; simp [h34, hct]))
            clear HEND HON2 I34 h34 hct
            go_wp2
            dsimp only [List.append]
            go_quiet ((go_at_call 33; refine Calls.quiet_of_same (cc _)))
            have HR : Hid (R3 (wr.drewN nq) g s (k : Nat) 0) := Lib.hid J.out.2
            have HB : Hid (ButL g w (wr.drewN nq)) := Lib.hid (J.out.1.trans (ButL.of_below (below_drewNL (Below.refl _ wr) nq) g))
            clear c0 c1 c2 cf J
            generalize wr.drewN nq = W1 at *
            obtain ⟨d0, d1, d2, df⟩ := HR.out.cells
            have J2 : Hid (ButL g w (W1.setCell ⟨g, 1, none⟩ (.int .i64 ((k + 1 : Nat) : Int))) ∧ R3 (W1.setCell ⟨g, 1, none⟩ (.int .i64 ((k + 1 : Nat) : Int))) g s (k + 1 : Nat) 0) :=
              Lib.hid ⟨HB.out.trans (ButL.set _ _ _ _), HR.out.at_ _⟩
            rw [show ((k + 1 : Nat) : Int) = (k : Int) + 1 by omega] at J2
            go_wp2
            go_roundg (s.size + 1 - (k + 1))
            case measure => omega
            case rel => exact ⟨k + 1, by omega, by omega, HON.out, by rw [show ((k + 1 : Nat) : Int) = (k : Int) + 1 by omega]; exact J2⟩
          · rw [hct] at cc
            have HKN := Lib.hid (HEND.out (by unfold vf qvC; simp [hct]))
            clear HEND HON2 h34 hct
            go_wp2
            dsimp only [List.append]
            go_quiet ((go_at_call 33; refine Calls.quiet_of_same (cc _)))
            have HR : Hid (R3 (wr.drewN nq) g s (k : Nat) 0) := Lib.hid J.out.2
            have HB : Hid (ButL g w (wr.drewN nq)) := Lib.hid (J.out.1.trans (ButL.of_below (below_drewNL (Below.refl _ wr) nq) g))
            clear c0 c1 c2 cf J
            generalize wr.drewN nq = W1 at *
            obtain ⟨d0, d1, d2, df⟩ := HR.out.cells
            go_wp2
            go_quiet (fail)
            have HR1 : Hid (R3 (W1.drewN nq) g s (k : Nat) 0) := Lib.hid HR.out
            have HB1 : Hid (ButL g w (W1.drewN nq)) := Lib.hid (HB.out.trans (ButL.of_below (below_drewNL (Below.refl _ _) _) g))
            go_wp2_with fail
            refine (refIs_any 34 _ HR1.out).mono ?_
            rintro e w1 ⟨rfl, hb1⟩
            rw [I34.out]
            have HR2 := Lib.hid (HR1.out.step hb1)
            have HB2 := Lib.hid (HB1.out.trans (ButL.of_below hb1 g))
            clear hb1 d0 d1 d2 df
            obtain ⟨d0, d1, d2, df⟩ := HR2.out.cells
            go_wp2_with fail
            refine (refNone_any _ HR2.out).mono ?_
            rintro e w2 ⟨rfl, hb2, hr2⟩
            rw [keepE_zero] at hr2
            have HR4 := Lib.hid hr2
            have HB4 := Lib.hid (HB2.out.trans hb2)
            clear hr2 hb2 d0 d1 d2 df
            obtain ⟨d0, d1, d2, df⟩ := HR4.out.cells
            have HR3 := Lib.hid (HR4.out.at_ ((k + 1 : Nat) : Int))
            have HB3 := Lib.hid (HB4.out.trans (ButL.set w2 g 1 (.int .i64 ((k + 1 : Nat) : Int))))
            rw [show ((k + 1 : Nat) : Int) = (k : Int) + 1 by omega] at HR3 HB3
            go_wp2
            go_ret
            exact ⟨_, k + 1, _, rfl, HB3.out, by rw [show ((k + 1 : Nat) : Int) = (k : Int) + 1 by omega]; exact HR3.out, by omega, by have e := HP.out; have k1 := HKN.out; subst e; exact val_open HQ.out k1 (isV_false I34.out) _ _⟩
      · have hd : decide ((k : Int) < (s.size : Int)) = false := decide_eq_false (by omega)
        have HKN : Hid (k = p1 + vlen s p1 true) := Lib.hid (by omega)
        have I34 : Hid (isV s k 0 34 = false) := Lib.hid (isV_end hlt 0 34)
        go_wp2
        dsimp only [List.append]
        go_quiet (fail)
        have HR : Hid (R3 (wr.drewN nq) g s (k : Nat) 0) := Lib.hid J.out.2
        have HB : Hid (ButL g w (wr.drewN nq)) := Lib.hid (J.out.1.trans (ButL.of_below (below_drewNL (Below.refl _ wr) nq) g))
        clear c0 c1 c2 cf J
        generalize wr.drewN nq = W1 at *
        obtain ⟨d0, d1, d2, df⟩ := HR.out.cells
        go_wp2
        go_quiet (fail)
        have HR1 : Hid (R3 (W1.drewN nq) g s (k : Nat) 0) := Lib.hid HR.out
        have HB1 : Hid (ButL g w (W1.drewN nq)) := Lib.hid (HB.out.trans (ButL.of_below (below_drewNL (Below.refl _ _) _) g))
        go_wp2_with fail
        refine (refIs_any 34 _ HR1.out).mono ?_
        rintro e w1 ⟨rfl, hb1⟩
        rw [I34.out]
        have HR2 := Lib.hid (HR1.out.step hb1)
        have HB2 := Lib.hid (HB1.out.trans (ButL.of_below hb1 g))
        clear hb1 d0 d1 d2 df
        obtain ⟨d0, d1, d2, df⟩ := HR2.out.cells
        go_wp2_with fail
        refine (refNone_any _ HR2.out).mono ?_
        rintro e w2 ⟨rfl, hb2, hr2⟩
        rw [keepE_zero] at hr2
        have HR4 := Lib.hid hr2
        have HB4 := Lib.hid (HB2.out.trans hb2)
        clear hr2 hb2 d0 d1 d2 df
        obtain ⟨d0, d1, d2, df⟩ := HR4.out.cells
        have HR3 := Lib.hid (HR4.out.at_ ((k + 1 : Nat) : Int))
        have HB3 := Lib.hid (HB4.out.trans (ButL.set w2 g 1 (.int .i64 ((k + 1 : Nat) : Int))))
        rw [show ((k + 1 : Nat) : Int) = (k : Int) + 1 by omega] at HR3 HB3
        go_wp2
        go_ret
        exact ⟨_, k + 1, _, rfl, HB3.out, by rw [show ((k + 1 : Nat) : Int) = (k : Int) + 1 by omega]; exact HR3.out, by omega, by have e := HP.out; have k1 := HKN.out; subst e; exact val_open HQ.out k1 (isV_false I34.out) _ _⟩

end Go.Proofs.YtipmeooldopkmaaDoor
