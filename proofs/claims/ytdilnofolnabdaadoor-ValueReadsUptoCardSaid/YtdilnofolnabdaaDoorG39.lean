/-
  How texts are read is the document's way (layer 13): the law ValueReads.
-/
import Derived.Test.YtdilnofolnabdaaDoorG28
import Derived.Test.YtdilnofolnabdaaDoorG38
namespace Go.Proofs.YtdilnofolnabdaaDoor
open Go.RowKit

theorem timesV_len (l : List UInt8) : (timesV l).1.length ≤ 1000 := by
  unfold timesV
  split
  · simp
  · cases h : mapT (splitA [] l) with
    | none => simp
    | some ws => have := mapT_len _ _ h; simp only; omega
set_option maxRecDepth 100000 in
set_option maxHeartbeats 16000000 in
theorem reads13_any (s : ByteArray) (hs : s.size ≤ 1048576) (w : World) (hv : VV w) :
    Calls Tryd.prog 3 #[.string s] w fun e w' => e = .returned (.bool true) ∧ Below w.heap.size w w' := by
  have a1 := fun W (hV : VV W) => pDur_any s hs W hV
  have a2 := fun W => refDur13_any s hs W
  have a3 := fun W (hV : VV W) => pOff_any s hs W hV
  have a4 := fun W => refOff13_any s hs W
  have a5 := fun W => pUnesc_any s (by omega) W
  have a6 := fun W => refUnesc13_any s (by omega) W
  have a7 := fun W (hV : VV W) => pTime_any s hs W hV
  have a8 := fun W => refTime13_any s W
  have a9 := fun W (hV : VV W) => pTimes_any s hs W hV
  have a10 := fun W => refTimes13_any s hs W
  have a11 := fun W (hV : VV W) => pPer_any s hs W hV
  have a12 := fun W => refPer13_any s hs W
  have hwl := timesV_len s.data.toList
  have HC := Lib.hid awake13_any
  have HVV := Lib.hid hv
  have HB := Lib.hid (Below.refl w.heap.size w)
  have hmx : Tryd.prog.follows .mixedOrders = true := by kernel_rfl
  obtain ⟨⟨d1, d2⟩, hd⟩ : ∃ p, durV s.data.toList = p := ⟨_, rfl⟩
  obtain ⟨⟨f1, f2⟩, hf⟩ : ∃ p, offV s.data.toList = p := ⟨_, rfl⟩
  obtain ⟨⟨u1, u2⟩, hu⟩ : ∃ p, unV s.data.toList = p := ⟨_, rfl⟩
  obtain ⟨⟨t, te⟩, ht⟩ : ∃ p, timV s.data.toList = p := ⟨_, rfl⟩
  obtain ⟨⟨ws, re⟩, hr⟩ : ∃ p, timesV s.data.toList = p := ⟨_, rfl⟩
  obtain ⟨⟨⟨p, pn⟩, pe⟩, hp⟩ : ∃ p, perV s.data.toList = p := ⟨_, rfl⟩
  rw [hd] at a1 a2
  rw [hf] at a3 a4
  rw [hu] at a5 a6
  rw [ht] at a7 a8
  rw [hr] at a9 a10 hwl
  rw [hp] at a11 a12
  simp only at a1 a2 a3 a4 a5 a6 a7 a8 a9 a10 a11 a12 hwl
  unfold whV at a7 a8
  unfold perVal at a11 a12
  generalize (⟨u1.toArray⟩ : ByteArray) = U at a5 a6
  clear hd hf hu ht hr hp hv
  go_enter Tryd.func3, Tryd.ntmps3
  go_wp2_with (first
    | (go_at_call 5; refine (a1 _ (HVV.out.step HB.out)).mono ?_; rintro e w1 ⟨rfl, hb1⟩; clear a1; replace HB := Lib.hid (bstep HB.out hb1); clear hb1)
    | (go_at_call 6; refine (a2 _).mono ?_; rintro e w2 ⟨rfl, hb2⟩; clear a2; replace HB := Lib.hid (bstep HB.out hb2); clear hb2)
    | (go_at_call 7; refine (a3 _ (HVV.out.step HB.out)).mono ?_; rintro e w3 ⟨rfl, hb3⟩; clear a3; replace HB := Lib.hid (bstep HB.out hb3); clear hb3)
    | (go_at_call 8; refine (a4 _).mono ?_; rintro e w4 ⟨rfl, hb4⟩; clear a4; replace HB := Lib.hid (bstep HB.out hb4); clear hb4)
    | (go_at_call 9; refine (a5 _).mono ?_; rintro e w5 ⟨rfl, hb5⟩; clear a5; replace HB := Lib.hid (bstep HB.out hb5); clear hb5)
    | (go_at_call 10; refine (a6 _).mono ?_; rintro e w6 ⟨rfl, hb6⟩; clear a6; replace HB := Lib.hid (bstep HB.out hb6); clear hb6)
    | (go_at_call 11; refine (a7 _ (HVV.out.step HB.out)).mono ?_; rintro e w7 ⟨rfl, hb7⟩; clear a7; have hx7 : Below _ _ (w7.alloc (.cells #[.int .i64 t.secs, .bool t.utc, .bool t.date] 32)) := bstep hb7 ((Below.refl _ w7).alloc (Nat.le_refl _) (.cells #[.int .i64 t.secs, .bool t.utc, .bool t.date] 32)); replace HB := Lib.hid (bstep HB.out hx7); have HM := Lib.hid (H3.new w7 t); clear hb7 hx7)
    | (go_at_call 12; refine (a8 _).mono ?_; rintro e w8 ⟨rfl, hb8⟩; clear a8; have hx8 : Below _ _ (w8.alloc (.cells #[.int .i64 t.secs, .bool t.utc, .bool t.date] 32)) := bstep hb8 ((Below.refl _ w8).alloc (Nat.le_refl _) (.cells #[.int .i64 t.secs, .bool t.utc, .bool t.date] 32)); replace HB := Lib.hid (bstep HB.out hx8); replace HM := Lib.hid (HM.out.step hx8); have HO := Lib.hid (H3.new w8 t); clear hb8 hx8)
    | (go_at_call 13; refine (a9 _ (HVV.out.step HB.out)).mono ?_; rintro e w9 ⟨v9, rfl, hrow9, hb9⟩; clear a9; replace HB := Lib.hid (bstep HB.out hb9); replace HM := Lib.hid (HM.out.step hb9); replace HO := Lib.hid (HO.out.step hb9); have HQ := Lib.hid hrow9; clear hb9 hrow9)
    | (go_at_call 14; refine (a10 _).mono ?_; rintro e w10 ⟨v10, rfl, hrow10, hb10⟩; clear a10; replace HB := Lib.hid (bstep HB.out hb10); replace HM := Lib.hid (HM.out.step hb10); replace HO := Lib.hid (HO.out.step hb10); replace HQ := Lib.hid (own_below HQ.out hb10); have HT := Lib.hid hrow10; clear hb10 hrow10)
    | (go_at_call 15; refine (a11 _ (HVV.out.step HB.out)).mono ?_; rintro e w11 ⟨rfl, hb11⟩; clear a11; have hx11 : Below _ _ (w11.alloc (.cells #[.int .i64 p.secs, .bool p.utc, .bool p.date, .int .i64 pn] 43)) := bstep hb11 ((Below.refl _ w11).alloc (Nat.le_refl _) (.cells #[.int .i64 p.secs, .bool p.utc, .bool p.date, .int .i64 pn] 43)); replace HB := Lib.hid (bstep HB.out hx11); replace HM := Lib.hid (HM.out.step hx11); replace HO := Lib.hid (HO.out.step hx11); replace HQ := Lib.hid (own_below HQ.out hx11); replace HT := Lib.hid (own_below HT.out hx11); have HV := Lib.hid (P4.new w11 p pn); clear hb11 hx11)
    | (go_at_call 16; refine (a12 _).mono ?_; rintro e w12 ⟨rfl, hb12⟩; clear a12; have hx12 : Below _ _ (w12.alloc (.cells #[.int .i64 p.secs, .bool p.utc, .bool p.date, .int .i64 pn] 43)) := bstep hb12 ((Below.refl _ w12).alloc (Nat.le_refl _) (.cells #[.int .i64 p.secs, .bool p.utc, .bool p.date, .int .i64 pn] 43)); replace HB := Lib.hid (bstep HB.out hx12); replace HM := Lib.hid (HM.out.step hx12); replace HO := Lib.hid (HO.out.step hx12); replace HQ := Lib.hid (own_below HQ.out hx12); replace HT := Lib.hid (own_below HT.out hx12); replace HV := Lib.hid (HV.out.step hx12); have HX := Lib.hid (P4.new w12 p pn); clear hb12 hx12; obtain ⟨m0, m1, m2⟩ := HM.out.cells; obtain ⟨o0, o1, o2⟩ := HO.out.cells; obtain ⟨y0, y1, y2, y3⟩ := HV.out.cells; obtain ⟨x0, x1, x2, x3⟩ := HX.out.cells)
    | (go_at_call 17; refine (refWhens13_any _ _ ws ws _ _ _ HQ.out HT.out hwl hwl).mono ?_; rintro e w13 ⟨he, hb13⟩; rw [decide_eq_true (rfl : ws = ws)] at he; subst he; clear m0 m1 m2 o0 o1 o2 x0 x1 x2 x3 y0 y1 y2 y3; replace HB := Lib.hid (bstep HB.out hb13); replace HV := Lib.hid (HV.out.step hb13); replace HX := Lib.hid (HX.out.step hb13); clear hb13; obtain ⟨y0, y1, y2, y3⟩ := HV.out.cells; obtain ⟨x0, x1, x2, x3⟩ := HX.out.cells)
    | (go_at_call 18; refine (HC.out _ (HVV.out.step HB.out)).mono ?_; rintro e w14 ⟨rfl, hb14⟩; replace HB := Lib.hid (bstep HB.out hb14); clear hb14))
  go_ret
  exact ⟨rfl, HB.out⟩
end Go.Proofs.YtdilnofolnabdaaDoor
