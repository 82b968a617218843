/-
  The program's own functions of layer 13: a period, read.
-/
import Derived.Test.YtdilnofolnabdaaGreatDoorG19
namespace Go.Proofs.YtdilnofolnabdaaGreatDoor
open Go.RowKit

/-- A period as the program has it. -/
def perVal (w : Wh) (n : Int) : Value := .agg #[.int .i64 w.secs, .bool w.utc, .bool w.date, .int .i64 n]
/-- A period's variable. -/
def P4 (W : World) (g : Nat) (w : Wh) (n : Int) : Prop := W.heap[g]? = some (.cells #[.int .i64 w.secs, .bool w.utc, .bool w.date, .int .i64 n] 25 (0, 0))
section
variable {W W' : World} {g : Nat} {w : Wh} {n : Int}
theorem P4.lt (h : P4 W g w n) : g < W.heap.size := by
  rcases Nat.lt_or_ge g W.heap.size with hlt | hge
  · exact hlt
  · unfold P4 at h; rw [Array.getElem?_eq_none hge] at h; cases h
theorem P4.cells (h : P4 W g w n) : W.cell? ⟨g, 0, none⟩ = some (.int .i64 w.secs) ∧ W.cell? ⟨g, 1, none⟩ = some (.bool w.utc) ∧ W.cell? ⟨g, 2, none⟩ = some (.bool w.date) ∧ W.cell? ⟨g, 3, none⟩ = some (.int .i64 n) := by
  unfold P4 at h
  exact ⟨by simp [World.cell?, h], by simp [World.cell?, h], by simp [World.cell?, h], by simp [World.cell?, h]⟩
theorem P4.new (W : World) (w : Wh) (n : Int) : P4 (W.alloc (.cells #[.int .i64 w.secs, .bool w.utc, .bool w.date, .int .i64 n] 25)) W.heap.size w n := heap_alloc_new W _
theorem P4.step (h : P4 W g w n) (hb : Below W.heap.size W W') : P4 W' g w n := (hb.block g h.lt).trans h
theorem P4.frozen (h : P4 W g w n) : ∀ k, W.frozen? ⟨g, k, none⟩ = false := fun k => by
  unfold P4 at h
  simp [World.frozen?, h]
end
theorem load_per {W : World} {g : Nat} {w : Wh} {n : Int} (h : P4 W g w n) : (Go.loadVar 25 ⟨g, 0, none⟩).run Tryz.prog W = .ok (perVal w n) W := by
  obtain ⟨a0, a1, a2, a3⟩ := h.cells
  unfold loadVar perVal
  go_simp
def put4 (w : World) (g : Nat) (v0 v1 v2 v3 : Value) : World := (put3 w g v0 v1 v2).setCell ⟨g, 3, none⟩ v3
theorem heap_put4 {w : World} {g : Nat} {o0 o1 o2 o3 v0 v1 v2 v3 : Value} {T : TypeId} (h : w.heap[g]? = some (.cells #[o0, o1, o2, o3] T (0, 0))) : (put4 w g v0 v1 v2 v3).heap[g]? = some (.cells #[v0, v1, v2, v3] T (0, 0)) := by
  unfold put4 put3
  have h1 := heap_put (k := 0) (v := v0) h (by simp)
  have h2 := heap_put (k := 1) (v := v1) h1 (by simp)
  have h3 := heap_put (k := 2) (v := v2) h2 (by simp)
  have h4 := heap_put (k := 3) (v := v3) h3 (by simp)
  simpa using h4
theorem below_put4 {B : Nat} {w : World} {g : Nat} (hg : B ≤ g) (v0 v1 v2 v3 : Value) : Below B w (put4 w g v0 v1 v2 v3) :=
  (below_put3 hg v0 v1 v2).setCell (p := ⟨g, 3, none⟩) hg v3
/-- A time no machine's number is beyond. -/
def WhOk (w : Wh) : Prop := -9223372036854775808 ≤ w.secs ∧ w.secs < 9223372036854775808
set_option maxRecDepth 100000 in
set_option maxHeartbeats 4000000 in
theorem longTo_any (t : Wh) (ht : -62135596800 ≤ t.secs ∧ t.secs ≤ 253402300799) (b : ByteArray) (hs : b.size ≤ 1048576) (w : World) (hv : VV w) :
    Calls Tryz.prog 44 #[whV t, .string b] w fun e w' => e = .returned (.tuple #[.int .i64 (longW t b.data.toList).1, .bool (longW t b.data.toList).2]) ∧ Below w.heap.size w w' := by
  have hmx : Tryz.prog.follows .mixedOrders = true := by kernel_rfl
  have ha : Below w.heap.size w (w.alloc (.cells #[.int .i64 t.secs, .bool t.utc, .bool t.date] 23)) := (Below.refl _ w).alloc (Nat.le_refl _) _
  have hz := H3.new w t
  have cT := fun W (hV : VV W) => pTime_any b hs W hV
  have cD := fun W (hV : VV W) => pDur_any b hs W hV
  have HL : Hid (longW t b.data.toList = if (timV b.data.toList).2 = 0 then ((timV b.data.toList).1.secs - t.secs, !(timV b.data.toList).1.date && ((timV b.data.toList).1.utc == t.utc)) else ((durV b.data.toList).1, decide ((durV b.data.toList).2 = 0))) := Lib.hid rfl
  have htc := timV_case b.data.toList
  have hdr := durV_range b.data.toList
  have HVV := Lib.hid hv
  obtain ⟨⟨got, er⟩, hge⟩ : ∃ p, timV b.data.toList = p := ⟨_, rfl⟩
  obtain ⟨⟨dn, de⟩, hde⟩ : ∃ p, durV b.data.toList = p := ⟨_, rfl⟩
  rw [hge] at cT HL htc
  rw [hde] at cD HL hdr
  simp only at htc hdr
  unfold whV at cT ⊢
  clear hge hde hv
  rcases htc with ⟨rfl, g0, g1⟩ | h
  · rw [if_pos rfl] at HL
    obtain ⟨gs, gu, gd⟩ := got
    obtain ⟨ts, tu, td⟩ := t
    simp only at cT HL g0 g1 ht hz ha ⊢
    have n1 : -9223372036854775808 ≤ gs - ts ∧ gs - ts < 9223372036854775808 := by omega
    go_enter Tryz.func44, Tryz.ntmps44
    go_upto_region 1 with fail
    generalize w.alloc (.cells #[.int .i64 ts, .bool tu, .bool td] 23) = w1 at ha hz ⊢
    go_wp2_with (go_at_call 23; refine (cT _ (HVV.out.step ha)).mono ?_; rintro e w2 ⟨rfl, hb2⟩
                 have hz2 := hz.step hb2
                 have ha3 : Below w2.heap.size w2 (w2.alloc (.cells #[.int .i64 gs, .bool gu, .bool gd] 23)) := (Below.refl _ w2).alloc (Nat.le_refl _) _
                 have HZ3 := Lib.hid (hz2.step ha3)
                 have HN3 := Lib.hid (H3.new w2 ⟨gs, gu, gd⟩)
                 have HB3 := Lib.hid (bstep (bstep ha hb2) ha3)
                 clear hz2 ha3)
    obtain ⟨w3, hw3⟩ : ∃ w3, w2.alloc (.cells #[.int .i64 gs, .bool gu, .bool gd] 23) = w3 := ⟨_, rfl⟩
    rw [hw3] at HZ3 HN3 HB3 ⊢
    obtain ⟨x0, x1, x2⟩ := HZ3.out.cells
    obtain ⟨y0, y1, y2⟩ := HN3.out.cells
    simp only at x0 x1 x2 y0 y1 y2
    cases gd
    · go_region
      go_wp2
      go_ret2
      exact ⟨by rw [HL.out]; rfl, HB3.out.drew⟩
    · go_region
      go_wp2
      go_ret2
      exact ⟨by rw [HL.out]; rfl, HB3.out.drew⟩
  · injection h with h1 h2
    subst h1 h2
    rw [if_neg (by decide)] at HL
    have hk : de = 0 ∨ (de = 10 ∧ dn = 0) := hdr.2.imp (fun h => h) (fun h => by injection h with h1 h2; exact ⟨h2, h1⟩)
    have HBZ := Lib.hid ha
    rcases hk with rfl | ⟨rfl, rfl⟩
    all_goals
      go_enter Tryz.func44, Tryz.ntmps44
      go_wp2_with (first
        | (go_at_call 23; refine (cT _ (HVV.out.step HBZ.out)).mono ?_; rintro e w2 ⟨rfl, hb2⟩
           have HB3 := Lib.hid (bstep (bstep HBZ.out hb2) ((Below.refl _ w2).alloc (Nat.le_refl _) (.cells #[.int .i64 Wh.zero.secs, .bool Wh.zero.utc, .bool Wh.zero.date] 23))))
        | (go_at_call 30; refine (cD _ (HVV.out.step HB3.out)).mono ?_; rintro e w4 ⟨rfl, hb4⟩))
      go_ret2
      exact ⟨by rw [HL.out]; rfl, bstep HB3.out hb4⟩
theorem longW_range (t : Wh) (ht : -62135596800 ≤ t.secs ∧ t.secs ≤ 253402300799) (b : List UInt8) : -9223372036854775808 ≤ (longW t b).1 ∧ (longW t b).1 < 9223372036854775808 := by
  unfold longW
  have h1 := durV_range b
  rcases timV_case b with ⟨h, h2, h3⟩ | h
  · rw [if_pos h]; simp only; omega
  · rw [h, if_neg (by decide)]; simp only; omega
theorem Wh.zero_ok : WhOk Wh.zero := by unfold WhOk Wh.zero; decide
set_option maxRecDepth 100000 in
set_option maxHeartbeats 4000000 in
theorem pPer_any (s : ByteArray) (hs : s.size ≤ 1048576) (w : World) (hv : VV w) :
    Calls Tryz.prog 28 #[.string s] w fun e w' => e = .returned (.tuple #[perVal (perV s.data.toList).1.1 (perV s.data.toList).1.2, .int .i64 (perV s.data.toList).2]) ∧ Below w.heap.size w w' := by
  have ha : Below w.heap.size w (w.alloc (.cells #[.int .i64 0, .bool false, .bool false, .int .i64 0] 25)) := (Below.refl _ w).alloc (Nat.le_refl _) _
  have hz := P4.new w Wh.zero 0
  change P4 (w.alloc (.cells #[.int .i64 0, .bool false, .bool false, .int .i64 0] 25)) _ _ _ at hz
  obtain ⟨m, hm⟩ := hv.mx
  have HM := Lib.hid hm
  have hlen : (Lib.cut s.data.toList [47]).1.length ≤ s.size ∧ (Lib.cut s.data.toList [47]).2.1.length ≤ s.size := by
    rw [← listB]
    unfold Lib.cut
    split <;> simp <;> omega
  have cc := fun (W : World) (h : W.cell? ⟨3, 0, none⟩ = some (.int .i64 m)) => Tryz.strings_Cut s ⟨#[47]⟩ m W (by omega) h
  change ∀ (W : World) (h : W.cell? ⟨3, 0, none⟩ = some (.int .i64 m)), Calls _ _ _ W fun e w' => e = .returned (.tuple #[.string ⟨(Lib.cut s.data.toList [47]).1.toArray⟩, .string ⟨(Lib.cut s.data.toList [47]).2.1.toArray⟩, .bool (Lib.cut s.data.toList [47]).2.2]) ∧ ∃ n, w' = W.drewN n at cc
  have hm1 := (ha.cell (p := ⟨3, 0, none⟩) (cell_in hm)).trans hm
  have HP := Lib.hid (perV_prog s.data.toList)
  have cT := fun W (hV : VV W) => pTime_any ⟨(Lib.cut s.data.toList [47]).1.toArray⟩ (by rw [mk_size]; omega) W hV
  rw [mk_listV] at cT
  have htc := timV_case (Lib.cut s.data.toList [47]).1
  have cL := fun (t : Wh) (ht : -62135596800 ≤ t.secs ∧ t.secs ≤ 253402300799) W (hV : VV W) => longTo_any t ht ⟨(Lib.cut s.data.toList [47]).2.1.toArray⟩ (by rw [mk_size]; omega) W hV
  rw [mk_listV] at cL
  have HVV := Lib.hid hv
  obtain ⟨⟨t, er⟩, hge⟩ : ∃ p, timV (Lib.cut s.data.toList [47]).1 = p := ⟨_, rfl⟩
  rw [hge] at cT HP htc
  have ht : -62135596800 ≤ t.secs ∧ t.secs ≤ 253402300799 := by
    rcases htc with ⟨_, h⟩ | h
    · exact h
    · injection h with h _; subst h; decide
  have cL2 := cL t ht
  have hlw := longW_range t ht (Lib.cut s.data.toList [47]).2.1
  obtain ⟨⟨n, ok⟩, hlo⟩ : ∃ p, longW t (Lib.cut s.data.toList [47]).2.1 = p := ⟨_, rfl⟩
  rw [hlo] at cL2 HP hlw
  simp only at HP htc hlw
  generalize (⟨(Lib.cut s.data.toList [47]).1.toArray⟩ : ByteArray) = A at *
  generalize (⟨(Lib.cut s.data.toList [47]).2.1.toArray⟩ : ByteArray) = B at *
  generalize (Lib.cut s.data.toList [47]).2.2 = ck at *
  clear cL hge hlo hm hlen hv
  unfold whV at cT cL2
  have HER : er = 0 ∨ er = 10 := htc.imp (fun h => h.1) (fun h => by injection h)
  go_enter Tryz.func28, Tryz.ntmps28
  go_upto_region 1 with fail
  generalize w.alloc (.cells #[.int .i64 0, .bool false, .bool false, .int .i64 0] 25) = w1 at ha hz hm1 ⊢
  go_upto_region 3 with (first
    | (go_at_call 43; refine (cc _ hm1).mono ?_; rintro e w2 ⟨rfl, n2, hw2⟩
       have hb2 : Below w1.heap.size w1 w2 := by rw [hw2]; exact ⟨rfl, rfl, rfl, Nat.le_refl _, fun _ _ => rfl⟩
       have hz2 := hz.step hb2
       have hB2 := bstep ha hb2
       clear hw2 cc hm1)
    | (go_at_call 23; refine (cT _ (HVV.out.step hB2)).mono ?_; rintro e w3 ⟨rfl, hb3⟩
       have hz3 := hz2.step hb3
       have ha3 : Below w3.heap.size w3 (w3.alloc (.cells #[.int .i64 t.secs, .bool t.utc, .bool t.date] 23)) := (Below.refl _ w3).alloc (Nat.le_refl _) _
       have HZ3 := Lib.hid (hz3.step ha3)
       have HN3 := Lib.hid (H3.new w3 t)
       have HB3 := Lib.hid (bstep (bstep hB2 hb3) ha3)
       clear hz3 ha3 hb3 hB2 hz2 hz ha hb2))
  obtain ⟨w4, hw4⟩ : ∃ w4, w3.alloc (.cells #[.int .i64 t.secs, .bool t.utc, .bool t.date] 23) = w4 := ⟨_, rfl⟩
  rw [hw4] at HZ3 HN3 HB3 ⊢
  obtain ⟨y0, y1, y2⟩ := HN3.out.cells
  clear hw4 htc
  rcases HER with rfl | rfl
  · cases hd : t.date
    · rw [hd] at cL2 y2
      cases ok
      · have HF : Hid (perV s.data.toList = ((Wh.zero, 0), 10)) := Lib.hid (by rw [HP.out, if_pos (.inr (.inr (.inl rfl)))])
        clear HP
        go_wp2_with (go_at_call 44; refine (cL2 _ (HVV.out.step HB3.out)).mono ?_; rintro e w5 ⟨rfl, hb5⟩
                     clear y0 y1 y2
                     have HZ5 := Lib.hid (HZ3.out.step hb5)
                     have HN5 := Lib.hid (HN3.out.step hb5)
                     have HB5 := Lib.hid (bstep HB3.out hb5)
                     obtain ⟨y0, y1, y2⟩ := HN5.out.cells
                     obtain ⟨x0, x1, x2, x3⟩ := HZ5.out.cells
                     have xf := HZ5.out.frozen
                     clear hb5)
        refine bodyPost_ret (results_cell2 rfl _ rfl rfl (load_per (w := Wh.zero) (n := 0) (heap_put4 HZ5.out))) rfl ⟨?_, HB5.out.trans (below_put4 (Nat.le_refl _) _ _ _ _)⟩
        rw [HF.out]; rfl
      · by_cases hn : n < 0
        · have HF : Hid (perV s.data.toList = ((Wh.zero, 0), 10)) := Lib.hid (by rw [HP.out, if_pos (.inr (.inr (.inr hn)))])
          clear HP
          go_wp2_with (go_at_call 44; refine (cL2 _ (HVV.out.step HB3.out)).mono ?_; rintro e w5 ⟨rfl, hb5⟩
                       clear y0 y1 y2
                       have HZ5 := Lib.hid (HZ3.out.step hb5)
                       have HN5 := Lib.hid (HN3.out.step hb5)
                       have HB5 := Lib.hid (bstep HB3.out hb5)
                       obtain ⟨y0, y1, y2⟩ := HN5.out.cells
                       obtain ⟨x0, x1, x2, x3⟩ := HZ5.out.cells
                       have xf := HZ5.out.frozen
                       clear hb5)
          refine bodyPost_ret (results_cell2 rfl _ rfl rfl (load_per (w := Wh.zero) (n := 0) (heap_put4 HZ5.out))) rfl ⟨?_, HB5.out.trans (below_put4 (Nat.le_refl _) _ _ _ _)⟩
          rw [HF.out]; rfl
        · have HF : Hid (perV s.data.toList = ((t, n), 0)) := Lib.hid (by
            rw [HP.out, if_neg]
            rintro (h | h | h | h)
            · exact h rfl
            · rw [hd] at h; cases h
            · cases h
            · exact hn h)
          clear HP
          go_wp2_with (go_at_call 44; refine (cL2 _ (HVV.out.step HB3.out)).mono ?_; rintro e w5 ⟨rfl, hb5⟩
                       clear y0 y1 y2
                       have HZ5 := Lib.hid (HZ3.out.step hb5)
                       have HN5 := Lib.hid (HN3.out.step hb5)
                       have HB5 := Lib.hid (bstep HB3.out hb5)
                       obtain ⟨y0, y1, y2⟩ := HN5.out.cells
                       obtain ⟨x0, x1, x2, x3⟩ := HZ5.out.cells
                       have xf := HZ5.out.frozen
                       clear hb5)
          refine bodyPost_ret (results_cell2 rfl _ rfl rfl (load_per (w := ⟨t.secs, t.utc, false⟩) (n := n) (heap_put4 HZ5.out))) rfl ⟨?_, HB5.out.trans (below_put4 (Nat.le_refl _) _ _ _ _)⟩
          rw [HF.out]
          have : perVal ⟨t.secs, t.utc, false⟩ n = perVal t n := by unfold perVal; rw [hd]
          rw [this]
          rfl
    · have HF : Hid (perV s.data.toList = ((Wh.zero, 0), 10)) := Lib.hid (by rw [HP.out, if_pos (.inr (.inl hd))])
      rw [hd] at cL2 y2
      clear HP
      go_wp2_with (go_at_call 44; refine (cL2 _ (HVV.out.step HB3.out)).mono ?_; rintro e w5 ⟨rfl, hb5⟩
                   clear y0 y1 y2
                   have HZ5 := Lib.hid (HZ3.out.step hb5)
                   have HN5 := Lib.hid (HN3.out.step hb5)
                   have HB5 := Lib.hid (bstep HB3.out hb5)
                   obtain ⟨y0, y1, y2⟩ := HN5.out.cells
                   obtain ⟨x0, x1, x2, x3⟩ := HZ5.out.cells
                   have xf := HZ5.out.frozen
                   clear hb5)
      refine bodyPost_ret (results_cell2 rfl _ rfl rfl (load_per (w := Wh.zero) (n := 0) (heap_put4 HZ5.out))) rfl ⟨?_, HB5.out.trans (below_put4 (Nat.le_refl _) _ _ _ _)⟩
      rw [HF.out]; rfl
  · have HF : Hid (perV s.data.toList = ((Wh.zero, 0), 10)) := Lib.hid (by rw [HP.out, if_pos (.inl (by decide))])
    clear HP
    go_wp2_with (go_at_call 44; refine (cL2 _ (HVV.out.step HB3.out)).mono ?_; rintro e w5 ⟨rfl, hb5⟩
                 clear y0 y1 y2
                 have HZ5 := Lib.hid (HZ3.out.step hb5)
                 have HN5 := Lib.hid (HN3.out.step hb5)
                 have HB5 := Lib.hid (bstep HB3.out hb5)
                 obtain ⟨y0, y1, y2⟩ := HN5.out.cells
                 obtain ⟨x0, x1, x2, x3⟩ := HZ5.out.cells
                 have xf := HZ5.out.frozen
                 clear hb5)
    refine bodyPost_ret (results_cell2 rfl _ rfl rfl (load_per (w := Wh.zero) (n := 0) (heap_put4 HZ5.out))) rfl ⟨?_, HB5.out.trans (below_put4 (Nat.le_refl _) _ _ _ _)⟩
    rw [HF.out]; rfl
end Go.Proofs.YtdilnofolnabdaaGreatDoor
