/-
  The reference's Recover.
-/
import Derived.Test.YtlmapbipgdhoiaaG36
import Derived.Test.YtlmapbipgdhoiaaG32
import Derived.Test.YtlmapbipgdhoiaaG15
import Derived.Test.YtlmapbipgdhoiaaG06
namespace Go.Proofs.Ytlmapbipgdhoiaa
open Go.RowKit

theorem recoverD_wrong {d : D} {x y : Int} (h : wrongE d x y ≠ 0) : recoverD d x y = (d, wrongE d x y) := by unfold recoverD; rw [if_pos h]
theorem recoverD_load {d : D} {x y : Int} (h : wrongE d x y = 0) (hl : loadE d x.toNat y.toNat ≠ 0) : recoverD d x y = (d, loadE d x.toNat y.toNat) := by unfold recoverD; rw [if_neg (by rw [h]; decide), if_pos hl]
theorem recoverD_late {d : D} {h g : Nat} (h0 : wrongE d h g = 0) (hs : d.dead = false → (headB d).size = 128) (hd : d.dead = false) (hz : headB d ≠ zeroB)
    (hf : ¬ ((((headB d).extract 0 4).data.toList ≠ [65, 87, 76, 49] ∨ (headB d).data.toList.drop 18 ≠ List.replicate 110 0) ∨ cntN d < 1 ∨ g < cntN d ∨ h < cntN d)) : recoverD d h g = lateR d h g := by
  have ha := loadE_ask d h g hs
  unfold askE at ha
  rw [if_neg (by rw [hd]; decide), if_neg hz, if_neg hf] at ha
  unfold recoverD lateR
  rw [if_neg (by rw [h0]; decide)]
  simp only [Int.toNat_natCast]
  rw [ha]
  by_cases h1 : ∃ x ∈ plR d h, h ≤ x
  · rw [if_pos h1, if_pos h1]; rfl
  · rw [if_neg h1, if_neg h1]
    by_cases h2 : crc (placesL (plR d h) ++ flatL (blR d h)) ≠ neL ((headB d).extract 14 18).data.toList
    · rw [if_pos h2, if_pos h2]; rfl
    · rw [if_neg h2, if_neg h2, if_neg (by decide), if_neg hz]

theorem refRecover_any (A A' : Option Addr) (n c m c' : Nat) (d : D) (x y : Int) (w : World) (H : Dv w w.heap.size A n A' m d) (hf : FitP d) (hl : d.left ≤ 9223372036854775807) :
    Calls Try.prog 26 #[.agg #[.slice A n c, .slice A' m c', .int .i64 d.left, .bool d.dead], .int .i64 x, .int .i64 y] w fun e w' => Tells2 w w' (recoverD d x y).1 (recoverD d x y).2 e := by
  by_cases h0 : wrongE d x y = 0
  · have hwf := wrong_fits d x y n H.bs.lenS
    have hp3 : (layV x y).2.2.2 ≠ 0 := fun e => by
      rw [h0, e] at hwf
      unfold fitsE at hwf
      rw [if_pos rfl] at hwf
      exact absurd hwf (by decide)
    obtain ⟨h, g, rfl, rfl, hh1, hh2, gg1, gg2, hlay⟩ := lay_nat hp3
    have hbl : d.bs.length = 1 + listsN h + g + h := by
      have h2 := hwf
      rw [h0, hlay] at h2
      unfold fitsE at h2
      dsimp only at h2
      rw [if_neg (by omega)] at h2
      by_cases h3 : (n : Int) ≠ ((1 + listsN h + g + h : Nat) : Int)
      · rw [if_pos h3] at h2; exact absurd h2 (by decide)
      · have := H.bs.lenS; omega
    obtain ⟨bs, cs, l, z⟩ := d
    cases z with
    | true =>
      have hle : loadE ⟨bs, cs, l, true⟩ ((h : Int)).toNat ((g : Int)).toNat = 17 := by unfold loadE; rw [if_pos rfl]
      rw [recoverD_load h0 (by rw [hle]; decide), hle]
      exact refRec_dead A A' n c m c' bs cs l h g w H h0
    | false =>
      have hs : (headB ⟨bs, cs, l, false⟩).size = 128 := readD_size hf rfl (i := 0) (by rw [hbl]; omega)
      by_cases hz : headB ⟨bs, cs, l, false⟩ = zeroB
      · have e : recoverD ⟨bs, cs, l, false⟩ h g = (⟨bs, cs, l, false⟩, 0) := by
          unfold recoverD
          rw [if_neg (by rw [h0]; decide), if_neg (by unfold loadE; rw [if_neg Bool.false_ne_true, if_pos hz]; exact fun h => h rfl), if_pos hz]
        rw [e]
        exact refRec_zero A A' n c m c' bs cs l h g w H h0 hz
      · by_cases hfm : ((((headB ⟨bs, cs, l, false⟩).extract 0 4).data.toList ≠ [65, 87, 76, 49] ∨ (headB ⟨bs, cs, l, false⟩).data.toList.drop 18 ≠ List.replicate 110 0) ∨ cntN ⟨bs, cs, l, false⟩ < 1 ∨ g < cntN ⟨bs, cs, l, false⟩ ∨ h < cntN ⟨bs, cs, l, false⟩)
        · have hle : loadE ⟨bs, cs, l, false⟩ ((h : Int)).toNat ((g : Int)).toNat = 10 := by
            simp only [Int.toNat_natCast]
            rw [loadE_ask _ h g (fun _ => hs)]
            unfold askE
            rw [if_neg Bool.false_ne_true, if_neg hz, if_pos hfm]
          rw [recoverD_load h0 (by rw [hle]; decide), hle]
          exact refRec_form A A' n c m c' bs cs l h g w H h0 hz hs hfm
        · rw [recoverD_late h0 (fun _ => hs) rfl hz hfm]
          have hf2 := hfm
          rw [not_or, not_or, not_or, not_or] at hf2
          obtain ⟨⟨q1, q2⟩, q3, q4, q5⟩ := hf2
          exact refRec_late A A' n c m c' bs cs l h g w H h0 hz hs hf hl ⟨hh1, hh2⟩ ⟨gg1, gg2⟩ hbl (Decidable.not_not.1 q1) (Decidable.not_not.1 q2) ⟨by omega, by omega, by omega⟩
  · rw [recoverD_wrong h0]
    exact refRec_wrong A A' n c m c' d x y w H h0

end Go.Proofs.Ytlmapbipgdhoiaa

/-
  WalRecovers is true of every device and every two numbers.
-/
namespace Go.Proofs.Ytlmapbipgdhoiaa
open Go.RowKit

set_option maxRecDepth 100000 in
set_option maxHeartbeats 2000000 in
theorem recovers_any (x y : Int) (A A' : Option Addr) (n c m c' : Nat) (d : D) (w : World) (h : Dv w w.heap.size A n A' m d) (hl : d.left ≤ 9223372036854775807) :
    Calls Try.prog 5 #[.agg #[.slice A n c, .slice A' m c', .int .i64 d.left, .bool d.dead], .int .i64 x, .int .i64 y] w fun e w' => e = .returned (.bool true) ∧ Below w.heap.size w w' := by
  have K0 := Lib.hid (B4.new w (.slice A n c) (.slice A' m c') (.int .i64 d.left) (.bool d.dead))
  have D0 := Lib.hid (h.alloc (.cells #[.slice A n c, .slice A' m c', .int .i64 d.left, .bool d.dead] 25))
  have B0 := Lib.hid (alloc_below0 w (.cells #[.slice A n c, .slice A' m c', .int .i64 d.left, .bool d.dead] 25))
  have cP := fun (hf : FitP d) (W : World) hh => recoverP_any A A' n c m c' d x y W hh hf hl
  have cR := fun (hf : FitP d) (W : World) hh => refRecover_any A A' n c m c' d x y W hh hf hl
  generalize recoverD d x y = md at cP cR
  obtain ⟨md, me⟩ := md
  dsimp only at cP cR
  clear h hl
  obtain ⟨x0, x1, x2, x3, xf⟩ := K0.out.cells
  by_cases hf : FitP d
  · have cP := cP hf
    have cR := cR hf
    go_enter Try.func5, Try.ntmps5
    go_wp2_with fail
    refine (refFit_any _ _ _ _ _ _ d _ D0.out).mono ?_
    rintro e w1 ⟨rfl, hb1⟩
    rw [fitD_true hf]
    have K1 := Lib.hid (K0.out.step hb1)
    have D1 := Lib.hid (D0.out.step hb1)
    have B1 := Lib.hid (B0.out.trans (hb1.mono B0.out.size))
    clear x0 x1 x2 x3 xf K0 D0 B0 hb1 hf
    obtain ⟨x0, x1, x2, x3, xf⟩ := K1.out.cells
    go_wp2_with fail
    refine (cP _ D1.out).mono ?_
    rintro e w2 ⟨A2, n2, c2, A2', m2, c2', rfl, hd2, hb2⟩
    have K2 := Lib.hid ((K1.out.step hb2).alloc (.cells #[.slice A2 n2 c2, .slice A2' m2 c2', .int .i64 md.left, .bool md.dead] 25))
    have N2 := Lib.hid (B4.new w2 (.slice A2 n2 c2) (.slice A2' m2 c2') (.int .i64 md.left) (.bool md.dead))
    have D2 := Lib.hid (And.intro ((D1.out.step hb2).alloc (.cells #[.slice A2 n2 c2, .slice A2' m2 c2', .int .i64 md.left, .bool md.dead] 25)) (Dv.alloc hd2 (.cells #[.slice A2 n2 c2, .slice A2' m2 c2', .int .i64 md.left, .bool md.dead] 25)))
    have B2 := Lib.hid ((bstep B1.out hb2).alloc ((bstep B1.out hb2).size) (.cells #[.slice A2 n2 c2, .slice A2' m2 c2', .int .i64 md.left, .bool md.dead] 25))
    generalize hw2 : w2.alloc (.cells #[.slice A2 n2 c2, .slice A2' m2 c2', .int .i64 md.left, .bool md.dead] 25) = W2 at K2 N2 D2 B2
    clear x0 x1 x2 x3 xf K1 D1 B1 hb2 hd2
    obtain ⟨x0, x1, x2, x3, xf⟩ := K2.out.cells
    go_wp2_with fail
    refine (cR _ D2.out.1).mono ?_
    rintro e w3 ⟨A3, n3, c3, A3', m3, c3', rfl, hd3, hb3⟩
    clear hw2
    have N3 := Lib.hid (And.intro ((N2.out.step hb3).alloc (.cells #[.slice A3 n3 c3, .slice A3' m3 c3', .int .i64 md.left, .bool md.dead] 25)) (B4.new w3 (.slice A3 n3 c3) (.slice A3' m3 c3') (.int .i64 md.left) (.bool md.dead)))
    have D3 := Lib.hid (And.intro ((D2.out.2.step hb3).alloc (.cells #[.slice A3 n3 c3, .slice A3' m3 c3', .int .i64 md.left, .bool md.dead] 25)) (Dv.alloc hd3 (.cells #[.slice A3 n3 c3, .slice A3' m3 c3', .int .i64 md.left, .bool md.dead] 25)))
    have B3 := Lib.hid ((bstep B2.out hb3).alloc ((bstep B2.out hb3).size) (.cells #[.slice A3 n3 c3, .slice A3' m3 c3', .int .i64 md.left, .bool md.dead] 25))
    generalize hw3 : w3.alloc (.cells #[.slice A3 n3 c3, .slice A3' m3 c3', .int .i64 md.left, .bool md.dead] 25) = W3 at N3 D3 B3
    clear x0 x1 x2 x3 xf K2 N2 D2 B2 hb3 hd3
    obtain ⟨x0, x1, x2, x3, xf⟩ := N3.out.1.cells
    obtain ⟨y0, y1, y2, y3, yf⟩ := N3.out.2.cells
    have e2 : (me == me) = true := by simp
    have f1 : decide (md = md) = true := decide_eq_true rfl
    go_wp2_with fail
    refine (refSame_any _ _ _ _ _ _ md _ _ _ _ _ _ md _ D3.out.1 D3.out.2).mono ?_
    rintro e w7 ⟨rfl, hb7⟩
    have B7 := Lib.hid (bstep B3.out hb7)
    clear x0 x1 x2 x3 xf y0 y1 y2 y3 yf hw3 N3 D3 B3 hb7
    go_wp2_with fail
    refine (awake3_any _).mono ?_
    rintro e w12 ⟨rfl, hb12⟩
    have B12 := Lib.hid (bstep B7.out hb12)
    clear B7 hb12
    go_wp2
    go_ret
    exact ⟨rfl, B12.out⟩
  · go_enter Try.func5, Try.ntmps5
    go_wp2_with fail
    refine (refFit_any _ _ _ _ _ _ d _ D0.out).mono ?_
    rintro e w1 ⟨rfl, hb1⟩
    rw [fitD_false hf]
    have B1 := Lib.hid (B0.out.trans (hb1.mono B0.out.size))
    clear x0 x1 x2 x3 xf K0 D0 B0 hb1 hf
    go_wp2_with fail
    refine (awake3_any _).mono ?_
    rintro e w2 ⟨rfl, hb2⟩
    have B2 := Lib.hid (bstep B1.out hb2)
    clear B1 hb2
    go_wp2
    go_ret
    exact ⟨rfl, B2.out⟩

end Go.Proofs.Ytlmapbipgdhoiaa
