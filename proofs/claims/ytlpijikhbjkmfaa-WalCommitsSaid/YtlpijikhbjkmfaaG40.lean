/-
  The reference's Commit.
-/
import Derived.Test.YtlpijikhbjkmfaaG39
import Derived.Test.YtlpijikhbjkmfaaG32
import Derived.Test.YtlpijikhbjkmfaaG15
import Derived.Test.YtlpijikhbjkmfaaG06
namespace Go.Proofs.Ytlpijikhbjkmfaa
open Go.RowKit

theorem clearE_dead (bs : List ByteArray) (cs : List (Int × ByteArray)) (l : Int) : clearE ⟨bs, cs, l, true⟩ = 17 := by
  have e : readD ⟨bs, cs, l, true⟩ 0 = (⟨#[]⟩, 17) := by unfold readD; rw [if_pos rfl]
  unfold clearE
  rw [e]
  rfl
theorem clearE_live {d : D} (hd : d.dead = false) (h1 : 1 ≤ d.bs.length) : clearE d = if headB d = zeroB then 0 else 14 := by
  have e2 : (readD d 0).2 = 0 := by
    unfold readD
    rw [if_neg (by rw [hd]; decide), if_pos]
    exact ⟨by omega, by omega⟩
  unfold clearE
  rw [e2, show (readD d 0).1 = headB d from rfl]
  by_cases h : headB d = zeroB
  · rw [if_neg (fun hh => hh.2 h), if_pos h]
  · rw [if_pos ⟨rfl, h⟩, if_neg h]

set_option maxRecDepth 100000 in
set_option maxHeartbeats 2000000 in
theorem refCommit_any (A A' : Option Addr) (n c m c' : Nat) (d : D) (x y : Int) (sq : Nat) (I : Option Addr) (i ic : Nat) (img : List ByteArray) (w : World) (H : Dv w w.heap.size A n A' m d) (hI : Reads w w.heap.size 1 I i (encS img)) (hi : i * 16 ≤ 140737488355328) (hf : FitP d) (hl : d.left ≤ 9223372036854775807) (hsq : sq < 18446744073709551616) :
    Calls Try.prog 8 #[.agg #[.slice A n c, .slice A' m c', .int .i64 d.left, .bool d.dead], .int .i64 x, .int .i64 y, .int .u64 sq, .slice I i ic] w fun e w' => Tells3 w w' (commitD d x y sq img) e := by
  by_cases h0 : wrongE d x y = 0
  · by_cases h1 : ImageP img x
    · have hwf := wrong_fits d x y n H.bs.lenS
      have hp3 : (layV x y).2.2.2 ≠ 0 := fun e => by
        rw [h0, e] at hwf
        unfold fitsE at hwf
        rw [if_pos rfl] at hwf
        exact absurd hwf (by decide)
      obtain ⟨h, g, rfl, rfl, hh1, hh2, gg1, gg2, hlay⟩ := lay_nat hp3
      obtain ⟨bs, cs, l, z⟩ := d
      cases z with
      | true =>
        have e : commitD ⟨bs, cs, l, true⟩ h g sq img = (⟨bs, cs, l, true⟩, 17, false) := by
          unfold commitD
          rw [if_neg (by rw [h0]; decide), if_neg (fun hh => hh h1), if_pos (by rw [clearE_dead]; decide), clearE_dead]
        rw [e]
        exact refCom_dead A A' n c m c' bs cs l h g sq I i ic img w H hI hi h0 h1
      | false =>
        have hcl := clearE_live (d := ⟨bs, cs, l, false⟩) rfl hf.1.1
        by_cases hz : headB ⟨bs, cs, l, false⟩ = zeroB
        · rw [if_pos hz] at hcl
          by_cases hk : g < (changedL (homeL ⟨bs, cs, l, false⟩ h g) img).length
          · have e : commitD ⟨bs, cs, l, false⟩ h g sq img = (⟨bs, cs, l, false⟩, 18, false) := by
              unfold commitD
              simp only [Int.toNat_natCast]
              rw [if_neg (by rw [h0]; decide), if_neg (fun hh => hh h1), if_neg (by rw [hcl]; decide), if_pos hk]
            rw [e]
            exact refCom_many A A' n c m c' bs cs l h g sq I i ic img w H hI hi h0 h1 hz (by omega) (by simpa using hk)
          · by_cases hk0 : (changedL (homeL ⟨bs, cs, l, false⟩ h g) img).length = 0
            · have e : commitD ⟨bs, cs, l, false⟩ h g sq img = (⟨bs, cs, l, false⟩, 0, true) := by
                unfold commitD
                simp only [Int.toNat_natCast]
                rw [if_neg (by rw [h0]; decide), if_neg (fun hh => hh h1), if_neg (by rw [hcl]; decide), if_neg hk, if_pos hk0]
              rw [e]
              exact refCom_none A A' n c m c' bs cs l h g sq I i ic img w H hI hi h0 h1 hz (by simpa using hk0)
            · exact refCom_late A A' n c m c' bs cs l h g sq I i ic img w H hI hi h0 h1 hz (by omega) hk0 hf hl ⟨hh1, hh2⟩ ⟨gg1, gg2⟩ hsq _ rfl
        · rw [if_neg hz] at hcl
          have e : commitD ⟨bs, cs, l, false⟩ h g sq img = (⟨bs, cs, l, false⟩, 14, false) := by
            unfold commitD
            rw [if_neg (by rw [h0]; decide), if_neg (fun hh => hh h1), if_pos (by rw [hcl]; decide), hcl]
          rw [e]
          exact refCom_head A A' n c m c' bs cs l h g sq I i ic img w H hI hi h0 h1 hz
    · have e : commitD d x y sq img = (d, 14, false) := by
        unfold commitD
        rw [if_neg (by rw [h0]; decide), if_pos h1]
      rw [e]
      exact refCom_image A A' n c m c' d x y sq I i ic img w H hI hi h0 h1
  · have e : commitD d x y sq img = (d, wrongE d x y, false) := by
      unfold commitD
      rw [if_pos h0]
    rw [e]
    exact refCom_wrong A A' n c m c' d x y sq I i ic img w H hI hi h0

end Go.Proofs.Ytlpijikhbjkmfaa

/-
  WalCommits is true of every device, every three numbers and every image.
-/
namespace Go.Proofs.Ytlpijikhbjkmfaa
open Go.RowKit

set_option maxRecDepth 100000 in
set_option maxHeartbeats 2000000 in
theorem commits_any (x y : Int) (sq : Nat) (I : Option Addr) (i ic : Nat) (img : List ByteArray) (A A' : Option Addr) (n c m c' : Nat) (d : D) (w : World) (h : Dv w w.heap.size A n A' m d) (hl : d.left ≤ 9223372036854775807) (hI : Reads w w.heap.size 1 I i (encS img)) (hi : i * 16 ≤ 140737488355328) (hsq : sq < 18446744073709551616) :
    Calls Try.prog 3 #[.agg #[.slice A n c, .slice A' m c', .int .i64 d.left, .bool d.dead], .int .i64 x, .int .i64 y, .int .u64 sq, .slice I i ic] w fun e w' => e = .returned (.bool true) ∧ Below w.heap.size w w' := by
  have K0 := Lib.hid (B4.new w (.slice A n c) (.slice A' m c') (.int .i64 d.left) (.bool d.dead))
  have I0 := Lib.hid (hI.alloc (.cells #[.slice A n c, .slice A' m c', .int .i64 d.left, .bool d.dead] 25))
  have D0 := Lib.hid (h.alloc (.cells #[.slice A n c, .slice A' m c', .int .i64 d.left, .bool d.dead] 25))
  have B0 := Lib.hid (alloc_below0 w (.cells #[.slice A n c, .slice A' m c', .int .i64 d.left, .bool d.dead] 25))
  have cP := fun (hf : FitP d) (W : World) hh hI => commitP_any A A' n c m c' d x y sq I i ic img W hh hI hi hf hl hsq
  have cR := fun (hf : FitP d) (W : World) hh hI => refCommit_any A A' n c m c' d x y sq I i ic img W hh hI hi hf hl hsq
  generalize commitD d x y sq img = md at cP cR
  obtain ⟨md, me, mn⟩ := md
  have cP : ∀ (hf : FitP d) (W : World) (hh : Dv W W.heap.size A n A' m d) (hI : Reads W W.heap.size 1 I i (encS img)), Calls Try.prog 7 #[.agg #[.slice A n c, .slice A' m c', .int .i64 d.left, .bool d.dead], .int .i64 x, .int .i64 y, .int .u64 sq, .slice I i ic] W fun e w' => ∃ A n c A' m c', e = .returned (.tuple #[.agg #[.slice A n c, .slice A' m c', .int .i64 md.left, .bool md.dead], .int .i64 me, .bool mn]) ∧ Dv w' w'.heap.size A n A' m md ∧ Below W.heap.size W w' := cP
  have cR : ∀ (hf : FitP d) (W : World) (hh : Dv W W.heap.size A n A' m d) (hI : Reads W W.heap.size 1 I i (encS img)), Calls Try.prog 8 #[.agg #[.slice A n c, .slice A' m c', .int .i64 d.left, .bool d.dead], .int .i64 x, .int .i64 y, .int .u64 sq, .slice I i ic] W fun e w' => ∃ A n c A' m c', e = .returned (.tuple #[.agg #[.slice A n c, .slice A' m c', .int .i64 md.left, .bool md.dead], .int .i64 me, .bool mn]) ∧ Dv w' w'.heap.size A n A' m md ∧ Below W.heap.size W w' := cR
  clear h hl hI
  obtain ⟨x0, x1, x2, x3, xf⟩ := K0.out.cells
  by_cases hf : FitP d
  · have cP := cP hf
    have cR := cR hf
    go_enter Try.func3, Try.ntmps3
    go_wp2_with fail
    refine (refFit_any _ _ _ _ _ _ d _ D0.out).mono ?_
    rintro e w1 ⟨rfl, hb1⟩
    rw [fitD_true hf]
    have K1 := Lib.hid (K0.out.step hb1)
    have D1 := Lib.hid (D0.out.step hb1)
    have I1 := Lib.hid (I0.out.step hb1)
    have B1 := Lib.hid (B0.out.trans (hb1.mono B0.out.size))
    clear x0 x1 x2 x3 xf K0 D0 B0 I0 hb1 hf
    obtain ⟨x0, x1, x2, x3, xf⟩ := K1.out.cells
    go_wp2_with fail
    refine (cP _ D1.out I1.out).mono ?_
    rintro e w2 ⟨A2, n2, c2, A2', m2, c2', rfl, hd2, hb2⟩
    have K2 := Lib.hid ((K1.out.step hb2).alloc (.cells #[.slice A2 n2 c2, .slice A2' m2 c2', .int .i64 md.left, .bool md.dead] 25))
    have N2 := Lib.hid (B4.new w2 (.slice A2 n2 c2) (.slice A2' m2 c2') (.int .i64 md.left) (.bool md.dead))
    have D2 := Lib.hid (And.intro ((D1.out.step hb2).alloc (.cells #[.slice A2 n2 c2, .slice A2' m2 c2', .int .i64 md.left, .bool md.dead] 25)) (Dv.alloc hd2 (.cells #[.slice A2 n2 c2, .slice A2' m2 c2', .int .i64 md.left, .bool md.dead] 25)))
    have I2 := Lib.hid ((I1.out.step hb2).alloc (.cells #[.slice A2 n2 c2, .slice A2' m2 c2', .int .i64 md.left, .bool md.dead] 25))
    have B2 := Lib.hid ((bstep B1.out hb2).alloc ((bstep B1.out hb2).size) (.cells #[.slice A2 n2 c2, .slice A2' m2 c2', .int .i64 md.left, .bool md.dead] 25))
    generalize hw2 : w2.alloc (.cells #[.slice A2 n2 c2, .slice A2' m2 c2', .int .i64 md.left, .bool md.dead] 25) = W2 at K2 N2 D2 B2 I2
    clear x0 x1 x2 x3 xf K1 D1 B1 I1 hb2 hd2
    obtain ⟨x0, x1, x2, x3, xf⟩ := K2.out.cells
    go_wp2_with fail
    refine (cR _ D2.out.1 I2.out).mono ?_
    rintro e w3 ⟨A3, n3, c3, A3', m3, c3', rfl, hd3, hb3⟩
    clear hw2
    have N3 := Lib.hid (And.intro ((N2.out.step hb3).alloc (.cells #[.slice A3 n3 c3, .slice A3' m3 c3', .int .i64 md.left, .bool md.dead] 25)) (B4.new w3 (.slice A3 n3 c3) (.slice A3' m3 c3') (.int .i64 md.left) (.bool md.dead)))
    have D3 := Lib.hid (And.intro ((D2.out.2.step hb3).alloc (.cells #[.slice A3 n3 c3, .slice A3' m3 c3', .int .i64 md.left, .bool md.dead] 25)) (Dv.alloc hd3 (.cells #[.slice A3 n3 c3, .slice A3' m3 c3', .int .i64 md.left, .bool md.dead] 25)))
    have B3 := Lib.hid ((bstep B2.out hb3).alloc ((bstep B2.out hb3).size) (.cells #[.slice A3 n3 c3, .slice A3' m3 c3', .int .i64 md.left, .bool md.dead] 25))
    generalize hw3 : w3.alloc (.cells #[.slice A3 n3 c3, .slice A3' m3 c3', .int .i64 md.left, .bool md.dead] 25) = W3 at N3 D3 B3
    clear x0 x1 x2 x3 xf K2 N2 D2 B2 I2 hb3 hd3
    obtain ⟨x0, x1, x2, x3, xf⟩ := N3.out.1.cells
    obtain ⟨y0, y1, y2, y3, yf⟩ := N3.out.2.cells
    have e2 : (me == me) = true := by simp
    have e3 : (mn == mn) = true := by simp
    have f1 : decide (md = md) = true := decide_eq_true rfl
    go_wp2_with fail
    refine (refSame_any _ _ _ _ _ _ md _ _ _ _ _ _ md _ D3.out.1 D3.out.2).mono ?_
    rintro e w7 ⟨rfl, hb7⟩
    have B7 := Lib.hid (bstep B3.out hb7)
    clear x0 x1 x2 x3 xf y0 y1 y2 y3 yf hw3 N3 D3 B3 hb7
    go_wp2_with fail
    refine (awake3_any _).mono ?_
    rintro e w12 ⟨rfl, hb12⟩
    have B12 := Lib.hid (bstep B7.out hb12)
    clear B7 hb12
    go_wp2
    go_ret
    exact ⟨rfl, B12.out⟩
  · go_enter Try.func3, Try.ntmps3
    go_wp2_with fail
    refine (refFit_any _ _ _ _ _ _ d _ D0.out).mono ?_
    rintro e w1 ⟨rfl, hb1⟩
    rw [fitD_false hf]
    have B1 := Lib.hid (B0.out.trans (hb1.mono B0.out.size))
    clear x0 x1 x2 x3 xf K0 D0 B0 I0 hb1 hf
    go_wp2_with fail
    refine (awake3_any _).mono ?_
    rintro e w2 ⟨rfl, hb2⟩
    have B2 := Lib.hid (bstep B1.out hb2)
    clear B1 hb2
    go_wp2
    go_ret
    exact ⟨rfl, B2.out⟩

end Go.Proofs.Ytlpijikhbjkmfaa
