/-
  The program's own functions of layer 13: a time, read and written.
-/
import Derived.Test.YtnidkcedomhofaaGreatDoorG11
import Derived.Test.YtnidkcedomhofaaGreatDoorG12
import Derived.Test.YtnidkcedomhofaaGreatDoorG16
namespace Go.Proofs.YtnidkcedomhofaaGreatDoor
open Go.RowKit

/-- A time as the program has it. -/
def whV (w : Wh) : Value := .agg #[.int .i64 w.secs, .bool w.utc, .bool w.date]
/-- A time's variable. -/
def H3 (W : World) (g : Nat) (w : Wh) : Prop := W.heap[g]? = some (.cells #[.int .i64 w.secs, .bool w.utc, .bool w.date] 23 (0, 0))
section
variable {W W' : World} {g : Nat} {w : Wh}
theorem H3.lt (h : H3 W g w) : g < W.heap.size := by
  rcases Nat.lt_or_ge g W.heap.size with hlt | hge
  · exact hlt
  · unfold H3 at h; rw [Array.getElem?_eq_none hge] at h; cases h
theorem H3.cells (h : H3 W g w) : W.cell? ⟨g, 0, none⟩ = some (.int .i64 w.secs) ∧ W.cell? ⟨g, 1, none⟩ = some (.bool w.utc) ∧ W.cell? ⟨g, 2, none⟩ = some (.bool w.date) := by
  unfold H3 at h
  exact ⟨by simp [World.cell?, h], by simp [World.cell?, h], by simp [World.cell?, h]⟩
theorem H3.new (W : World) (w : Wh) : H3 (W.alloc (.cells #[.int .i64 w.secs, .bool w.utc, .bool w.date] 23)) W.heap.size w := heap_alloc_new W _
theorem H3.step (h : H3 W g w) (hb : Below W.heap.size W W') : H3 W' g w := (hb.block g h.lt).trans h
theorem H3.frozen (h : H3 W g w) : ∀ k, W.frozen? ⟨g, k, none⟩ = false := fun k => by
  unfold H3 at h
  simp [World.frozen?, h]
end
theorem load_wh {W : World} {g : Nat} {w : Wh} (h : H3 W g w) : (Go.loadVar 23 ⟨g, 0, none⟩).run Tryz.prog W = .ok (whV w) W := by
  obtain ⟨a0, a1, a2⟩ := h.cells
  unfold loadVar whV
  go_simp
set_option maxRecDepth 100000 in
set_option maxHeartbeats 2000000 in
theorem pTime_any (s : ByteArray) (hs : s.size ≤ 1048576) (w : World) (hv : VV w) :
    Calls Tryz.prog 75 #[.string s] w fun e w' => e = .returned (.tuple #[whV (timV s.data.toList).1, .int .i64 (timV s.data.toList).2]) ∧ Below w.heap.size w w' := by
  have ha : Below w.heap.size w (w.alloc (.cells #[.int .i64 0, .bool false, .bool false] 23)) := (Below.refl _ w).alloc (Nat.le_refl _) _
  have hz := H3.new w Wh.zero
  change H3 (w.alloc (.cells #[.int .i64 0, .bool false, .bool false] 23)) _ _ at hz
  have cr := pReadDay_any s (by omega) _ (hv.dv.step ha)
  have HE := Lib.hid (show timV s.data.toList = _ from rfl)
  have HVV := Lib.hid hv
  rcases rdDay_case s.data.toList with ⟨n, hn, e⟩ | e
  · have HT : Hid (timV s.data.toList = (⟨n * 86400, false, true⟩, 0)) := Lib.hid (by unfold timV; rw [e, if_pos rfl])
    have hb := hn.1
    have n1 : -9223372036854775808 ≤ n * 86400 ∧ n * 86400 < 9223372036854775808 := by omega
    rw [e] at cr
    clear hn e hb HE
    go_enter Tryz.func75, Tryz.ntmps75
    go_upto_region 1 with fail
    generalize w.alloc (.cells #[.int .i64 0, .bool false, .bool false] 23) = w1 at ha hz cr ⊢
    go_wp2_with (go_at_call 110; refine cr.mono ?_; rintro e w2 ⟨rfl, hb2⟩
                 have hz2 := hz.step hb2
                 obtain ⟨x0, x1, x2⟩ := hz2.cells
                 have xf := hz2.frozen
                 have HZ := Lib.hid hz2
                 have HB := Lib.hid (bstep ha hb2)
                 clear hz2)
    refine bodyPost_ret (results_cell2 rfl _ rfl rfl (load_wh (w := ⟨n * 86400, false, true⟩) (heap_put3 HZ.out))) rfl ⟨?_, HB.out.trans (below_put3 (Nat.le_refl _) _ _ _)⟩
    rw [HT.out]; rfl
  · rw [e] at cr
    have hcs := fun W => Tryz.strings_CutSuffix s ⟨#[90]⟩ W (by omega)
    change ∀ W, Calls _ _ _ W fun e w' => e = .returned (.tuple #[.string ⟨(stripZ s.data.toList).toArray⟩, .bool (endsZ s.data.toList)]) ∧ w' = W at hcs
    have hsz : (⟨(stripZ s.data.toList).toArray⟩ : ByteArray).size < 9223372036854775808 := by
      rw [← listB, mk_listV]
      have h1 := listB s
      have : (stripZ s.data.toList).length ≤ s.data.toList.length := by unfold stripZ Lib.trimSuffix; split <;> simp
      omega
    have cs := fun W (hV : DV W) => pReadStamp_any ⟨(stripZ s.data.toList).toArray⟩ hsz W hV
    rw [mk_listV] at cs
    rcases rdStamp_case (stripZ s.data.toList) with ⟨t, ht, e2⟩ | e2
    · have HT : Hid (timV s.data.toList = (⟨t, endsZ s.data.toList, false⟩, 0)) := Lib.hid (by unfold timV; rw [e, if_neg (by decide), e2, if_pos rfl])
      rw [e2] at cs
      generalize endsZ s.data.toList = u at hcs HT
      generalize (⟨(stripZ s.data.toList).toArray⟩ : ByteArray) = S at hcs cs
      clear ht e2 e hsz HE
      go_enter Tryz.func75, Tryz.ntmps75
      go_upto_region 1 with fail
      generalize w.alloc (.cells #[.int .i64 0, .bool false, .bool false] 23) = w1 at ha hz cr ⊢
      go_wp2_with (first
        | (go_at_call 110; refine cr.mono ?_; rintro e w2 ⟨rfl, hb2⟩
           have hz2 := hz.step hb2
           have HZ := Lib.hid hz2
           have HB := Lib.hid (bstep ha hb2)
           clear hz2 cr)
        | (go_at_call 111; refine (hcs _).mono ?_; rintro e w' ⟨rfl, hw⟩; subst w')
        | (go_at_call 112; refine (cs _ (HVV.out.dv.step HB.out)).mono ?_; rintro e w3 ⟨rfl, hb3⟩
           have hz3 := HZ.out.step hb3
           obtain ⟨x0, x1, x2⟩ := hz3.cells
           have xf := hz3.frozen
           have HZ3 := Lib.hid hz3
           have HB3 := Lib.hid (bstep HB.out hb3)
           clear hz3))
      refine bodyPost_ret (results_cell2 rfl _ rfl rfl (load_wh (w := ⟨t, u, false⟩) (heap_put3 HZ3.out))) rfl ⟨?_, HB3.out.trans (below_put3 (Nat.le_refl _) _ _ _)⟩
      rw [HT.out]; rfl
    · have HT : Hid (timV s.data.toList = (Wh.zero, 10)) := Lib.hid (by unfold timV; rw [e, if_neg (by decide), e2, if_neg (by decide)])
      rw [e2] at cs
      generalize endsZ s.data.toList = u at hcs
      generalize (⟨(stripZ s.data.toList).toArray⟩ : ByteArray) = S at hcs cs
      clear e2 e hsz HE
      go_enter Tryz.func75, Tryz.ntmps75
      go_upto_region 1 with fail
      generalize w.alloc (.cells #[.int .i64 0, .bool false, .bool false] 23) = w1 at ha hz cr ⊢
      go_wp2_with (first
        | (go_at_call 110; refine cr.mono ?_; rintro e w2 ⟨rfl, hb2⟩
           have hz2 := hz.step hb2
           have HZ := Lib.hid hz2
           have HB := Lib.hid (bstep ha hb2)
           clear hz2 cr)
        | (go_at_call 111; refine (hcs _).mono ?_; rintro e w' ⟨rfl, hw⟩; subst w')
        | (go_at_call 112; refine (cs _ (HVV.out.dv.step HB.out)).mono ?_; rintro e w3 ⟨rfl, hb3⟩
           have hz3 := HZ.out.step hb3
           obtain ⟨x0, x1, x2⟩ := hz3.cells
           have xf := hz3.frozen
           have HZ3 := Lib.hid hz3
           have HB3 := Lib.hid (bstep HB.out hb3)
           clear hz3))
      refine bodyPost_ret (results_cell2 rfl _ rfl rfl (load_wh (w := Wh.zero) (heap_put3 HZ3.out))) rfl ⟨?_, HB3.out.trans (below_put3 (Nat.le_refl _) _ _ _)⟩
      rw [HT.out]; rfl
theorem wh_ne {a b : Wh} (h : a ≠ b) : (¬ a.secs = b.secs) ∨ (a.secs = b.secs ∧ ¬ a.utc = b.utc) ∨ (a.secs = b.secs ∧ a.utc = b.utc ∧ ¬ a.date = b.date) := by
  obtain ⟨x, y, z⟩ := a
  obtain ⟨x', y', z'⟩ := b
  by_cases h1 : x = x'
  · by_cases h2 : y = y'
    · by_cases h3 : z = z'
      · exact absurd (by rw [h1, h2, h3]) h
      · exact .inr (.inr ⟨h1, h2, h3⟩)
    · exact .inr (.inl ⟨h1, h2⟩)
  · exact .inl h1
set_option maxRecDepth 100000 in
set_option maxHeartbeats 4000000 in
theorem pTimeText_any (t : Wh) (ht : -9223372036854775808 ≤ t.secs ∧ t.secs < 9223372036854775808) (w : World) (hv : VV w) :
    Calls Tryz.prog 38 #[whV t] w fun e w' => e = .returned (.string ⟨(timT t).toArray⟩) ∧ Below w.heap.size w w' := by
  have ha : Below w.heap.size w (w.alloc (.cells #[.int .i64 t.secs, .bool t.utc, .bool t.date] 23)) := (Below.refl _ w).alloc (Nat.le_refl _) _
  have hz := H3.new w t
  have hss : (⟨(timS t).toArray⟩ : ByteArray).size ≤ 1048576 := by
    rw [← listB, mk_listV]
    have := timS_len t
    omega
  have cT := fun W (hV : VV W) => pTime_any ⟨(timS t).toArray⟩ hss W hV
  rw [mk_listV] at cT
  have HTT : Hid (timT t = if timV (timS t) = (t, 0) then timS t else []) := Lib.hid (by unfold timT; split <;> simp_all)
  have htc : (timV (timS t)).2 = 0 ∨ timV (timS t) = (Wh.zero, 10) := (timV_case (timS t)).imp (fun h => h.1) (fun h => h)
  have cs := fun W (hV : DV W) => pStamp_any t.secs ht W hV
  have cp := fun W => parts_any t.secs ht W
  have cd := fun W (hV : DV W) => pDay_any (t.secs / 86400) (by omega) W hV
  have HVV := Lib.hid hv
  unfold whV
  obtain ⟨S, hS⟩ : ∃ S : ByteArray, (⟨(timS t).toArray⟩ : ByteArray) = S := ⟨_, rfl⟩
  rw [hS] at cT hss
  have hS0 := hS
  obtain ⟨⟨got, er⟩, hge⟩ : ∃ p, timV (timS t) = p := ⟨_, rfl⟩
  rw [hge] at cT HTT htc
  have HS := Lib.hid hS
  go_enter Tryz.func38, Tryz.ntmps38
  go_upto_region 1 with fail
  obtain ⟨w1, hw1⟩ : ∃ w1, w.alloc (.cells #[.int .i64 t.secs, .bool t.utc, .bool t.date] 23) = w1 := ⟨_, rfl⟩
  rw [hw1] at ha hz ⊢
  obtain ⟨x0, x1, x2⟩ := hz.cells
  have HZ1 := Lib.hid hz
  have HB1 := Lib.hid ha
  clear hz ha hw1 hge hS
  cases hd : t.date
  · cases hu : t.utc
    · have e3 : Hid ((⟨(stampT t.secs).toArray⟩ : ByteArray) = S) := Lib.hid (by rw [← hS0]; unfold timS; rw [hd, hu]; simp)
      rw [hd] at x2
      rw [hu] at x1
      rw [e3.out] at cs
      clear hS0 cd cp
      go_upto_region 7 with (go_at_call 72; refine (cs _ (HVV.out.dv.step HB1.out)).mono ?_; rintro e w2 ⟨rfl, hb2⟩
                             clear x0 x1 x2
                             have HZ2 := Lib.hid (HZ1.out.step hb2)
                             have HB2 := Lib.hid (bstep HB1.out hb2)
                             obtain ⟨x0, x1, x2⟩ := HZ2.out.cells
                             rw [hd] at x2
                             rw [hu] at x1
                             clear hb2)
      clear hd hu
      have HOUT : (er = 10 ∧ got = Wh.zero) ∨ (er = 0 ∧ (got = t ∨ (¬ got.secs = t.secs) ∨ (got.secs = t.secs ∧ ¬ got.utc = t.utc) ∨ (got.secs = t.secs ∧ got.utc = t.utc ∧ ¬ got.date = t.date))) := by
        rcases htc with h | h
        · refine .inr ⟨h, ?_⟩
          by_cases hg : got = t
          · exact .inl hg
          · exact .inr (wh_ne hg)
        · injection h with h1 h2
          exact .inl ⟨h2, h1⟩
      clear htc
      unfold whV at cT
      rcases HOUT with ⟨rfl, rfl⟩ | ⟨rfl, HOUT⟩
      · have HF : Hid (timT t = []) := Lib.hid (by rw [HTT.out, if_neg (by intro h; injection h with _ h; revert h; decide)])
        clear x0 x1 x2
        go_wp2_with (go_at_call 75; refine (cT _ (HVV.out.step HB2.out)).mono ?_; rintro e w3 ⟨rfl, hb3⟩)
        go_ret
        exact ⟨by rw [HF.out]; rfl, (bstep HB2.out hb3).alloc (bstep HB2.out hb3).size _⟩
      · rcases HOUT with rfl | HOUT
        · have HF : Hid (timT got = timS got) := Lib.hid (by rw [HTT.out, if_pos rfl])
          clear x0 x1 x2
          go_wp2_with (go_at_call 75; refine (cT _ (HVV.out.step HB2.out)).mono ?_; rintro e w3 ⟨rfl, hb3⟩
                       have hz3 := HZ2.out.step hb3
                       have ha3 : Below w3.heap.size w3 (w3.alloc (.cells #[.int .i64 got.secs, .bool got.utc, .bool got.date] 23)) := (Below.refl _ w3).alloc (Nat.le_refl _) _
                       obtain ⟨y0, y1, y2⟩ := (hz3.step ha3).cells
                       obtain ⟨z0, z1, z2⟩ := hz3.cells
                       obtain ⟨u0, u1, u2⟩ := (H3.new w3 got).cells
                       have HB3 := Lib.hid (bstep HB2.out hb3)
                       clear hz3 ha3 hb3)
          go_ret
          exact ⟨by rw [HF.out, HS.out]; rfl, HB3.out.alloc HB3.out.size _⟩
        · have HF : Hid (timT t = []) := Lib.hid (by
            rw [HTT.out, if_neg]
            intro h
            injection h with h _
            subst h
            rcases HOUT with h | ⟨_, h⟩ | ⟨_, _, h⟩ <;> exact h rfl)
          clear x0 x1 x2
          obtain ⟨gs, gu, gd⟩ := got
          simp only at HOUT cT
          have HNE : (¬ gs = t.secs) ∨ (gs = t.secs ∧ ¬ gu = t.utc) ∨ (gs = t.secs ∧ gu = t.utc ∧ ¬ gd = t.date) := HOUT
          clear HOUT HTT
          rcases HNE with h1 | ⟨h1, h2⟩ | ⟨h1, h2, h3⟩
          · go_wp2_with (go_at_call 75; refine (cT _ (HVV.out.step HB2.out)).mono ?_; rintro e w3 ⟨rfl, hb3⟩
                         have hz3 := HZ2.out.step hb3
                         have ha3 : Below w3.heap.size w3 (w3.alloc (.cells #[.int .i64 gs, .bool gu, .bool gd] 23)) := (Below.refl _ w3).alloc (Nat.le_refl _) _
                         obtain ⟨y0, y1, y2⟩ := (hz3.step ha3).cells
                         obtain ⟨z0, z1, z2⟩ := hz3.cells
                         obtain ⟨u0, u1, u2⟩ := (H3.new w3 ⟨gs, gu, gd⟩).cells
                         have HB3 := Lib.hid (bstep HB2.out hb3)
                         clear hz3 ha3 hb3)
            go_ret
            exact ⟨by rw [HF.out]; rfl, HB3.out.alloc HB3.out.size _⟩
          · subst h1
            go_wp2_with (go_at_call 75; refine (cT _ (HVV.out.step HB2.out)).mono ?_; rintro e w3 ⟨rfl, hb3⟩
                         have hz3 := HZ2.out.step hb3
                         have ha3 : Below w3.heap.size w3 (w3.alloc (.cells #[.int .i64 t.secs, .bool gu, .bool gd] 23)) := (Below.refl _ w3).alloc (Nat.le_refl _) _
                         obtain ⟨y0, y1, y2⟩ := (hz3.step ha3).cells
                         obtain ⟨z0, z1, z2⟩ := hz3.cells
                         obtain ⟨u0, u1, u2⟩ := (H3.new w3 ⟨t.secs, gu, gd⟩).cells
                         have HB3 := Lib.hid (bstep HB2.out hb3)
                         clear hz3 ha3 hb3)
            go_ret
            exact ⟨by rw [HF.out]; rfl, HB3.out.alloc HB3.out.size _⟩
          · subst h1
            subst h2
            go_wp2_with (go_at_call 75; refine (cT _ (HVV.out.step HB2.out)).mono ?_; rintro e w3 ⟨rfl, hb3⟩
                         have hz3 := HZ2.out.step hb3
                         have ha3 : Below w3.heap.size w3 (w3.alloc (.cells #[.int .i64 t.secs, .bool t.utc, .bool gd] 23)) := (Below.refl _ w3).alloc (Nat.le_refl _) _
                         obtain ⟨y0, y1, y2⟩ := (hz3.step ha3).cells
                         obtain ⟨z0, z1, z2⟩ := hz3.cells
                         obtain ⟨u0, u1, u2⟩ := (H3.new w3 ⟨t.secs, t.utc, gd⟩).cells
                         have HB3 := Lib.hid (bstep HB2.out hb3)
                         clear hz3 ha3 hb3)
            go_ret
            exact ⟨by rw [HF.out]; rfl, HB3.out.alloc HB3.out.size _⟩
    · have e3 : Hid ((⟨(stampT t.secs).toArray⟩ : ByteArray) ++ ⟨#[90]⟩ = S) := Lib.hid (by rw [← hS0]; unfold timS; rw [hd, hu]; exact mk_app _ [90])
      have no1 : ¬ 9223372036854775807 < (⟨(stampT t.secs).toArray⟩ : ByteArray).size + 1 := by
        have := congrArg ByteArray.size e3.out
        rw [ByteArray.size_append] at this
        omega
      rw [hd] at x2
      rw [hu] at x1
      clear hS0 cd cp
      go_upto_region 7 with (go_at_call 72; refine (cs _ (HVV.out.dv.step HB1.out)).mono ?_; rintro e w2 ⟨rfl, hb2⟩
                             clear x0 x1 x2
                             have HZ2 := Lib.hid (HZ1.out.step hb2)
                             have HB2 := Lib.hid (bstep HB1.out hb2)
                             obtain ⟨x0, x1, x2⟩ := HZ2.out.cells
                             rw [hd] at x2
                             rw [hu] at x1
                             clear hb2)
      rw [e3.out]
      clear hd hu
      have HOUT : (er = 10 ∧ got = Wh.zero) ∨ (er = 0 ∧ (got = t ∨ (¬ got.secs = t.secs) ∨ (got.secs = t.secs ∧ ¬ got.utc = t.utc) ∨ (got.secs = t.secs ∧ got.utc = t.utc ∧ ¬ got.date = t.date))) := by
        rcases htc with h | h
        · refine .inr ⟨h, ?_⟩
          by_cases hg : got = t
          · exact .inl hg
          · exact .inr (wh_ne hg)
        · injection h with h1 h2
          exact .inl ⟨h2, h1⟩
      clear htc
      unfold whV at cT
      rcases HOUT with ⟨rfl, rfl⟩ | ⟨rfl, HOUT⟩
      · have HF : Hid (timT t = []) := Lib.hid (by rw [HTT.out, if_neg (by intro h; injection h with _ h; revert h; decide)])
        clear x0 x1 x2
        go_wp2_with (go_at_call 75; refine (cT _ (HVV.out.step HB2.out)).mono ?_; rintro e w3 ⟨rfl, hb3⟩)
        go_ret
        exact ⟨by rw [HF.out]; rfl, (bstep HB2.out hb3).alloc (bstep HB2.out hb3).size _⟩
      · rcases HOUT with rfl | HOUT
        · have HF : Hid (timT got = timS got) := Lib.hid (by rw [HTT.out, if_pos rfl])
          clear x0 x1 x2
          go_wp2_with (go_at_call 75; refine (cT _ (HVV.out.step HB2.out)).mono ?_; rintro e w3 ⟨rfl, hb3⟩
                       have hz3 := HZ2.out.step hb3
                       have ha3 : Below w3.heap.size w3 (w3.alloc (.cells #[.int .i64 got.secs, .bool got.utc, .bool got.date] 23)) := (Below.refl _ w3).alloc (Nat.le_refl _) _
                       obtain ⟨y0, y1, y2⟩ := (hz3.step ha3).cells
                       obtain ⟨z0, z1, z2⟩ := hz3.cells
                       obtain ⟨u0, u1, u2⟩ := (H3.new w3 got).cells
                       have HB3 := Lib.hid (bstep HB2.out hb3)
                       clear hz3 ha3 hb3)
          go_ret
          exact ⟨by rw [HF.out, HS.out]; rfl, HB3.out.alloc HB3.out.size _⟩
        · have HF : Hid (timT t = []) := Lib.hid (by
            rw [HTT.out, if_neg]
            intro h
            injection h with h _
            subst h
            rcases HOUT with h | ⟨_, h⟩ | ⟨_, _, h⟩ <;> exact h rfl)
          clear x0 x1 x2
          obtain ⟨gs, gu, gd⟩ := got
          simp only at HOUT cT
          have HNE : (¬ gs = t.secs) ∨ (gs = t.secs ∧ ¬ gu = t.utc) ∨ (gs = t.secs ∧ gu = t.utc ∧ ¬ gd = t.date) := HOUT
          clear HOUT HTT
          rcases HNE with h1 | ⟨h1, h2⟩ | ⟨h1, h2, h3⟩
          · go_wp2_with (go_at_call 75; refine (cT _ (HVV.out.step HB2.out)).mono ?_; rintro e w3 ⟨rfl, hb3⟩
                         have hz3 := HZ2.out.step hb3
                         have ha3 : Below w3.heap.size w3 (w3.alloc (.cells #[.int .i64 gs, .bool gu, .bool gd] 23)) := (Below.refl _ w3).alloc (Nat.le_refl _) _
                         obtain ⟨y0, y1, y2⟩ := (hz3.step ha3).cells
                         obtain ⟨z0, z1, z2⟩ := hz3.cells
                         obtain ⟨u0, u1, u2⟩ := (H3.new w3 ⟨gs, gu, gd⟩).cells
                         have HB3 := Lib.hid (bstep HB2.out hb3)
                         clear hz3 ha3 hb3)
            go_ret
            exact ⟨by rw [HF.out]; rfl, HB3.out.alloc HB3.out.size _⟩
          · subst h1
            go_wp2_with (go_at_call 75; refine (cT _ (HVV.out.step HB2.out)).mono ?_; rintro e w3 ⟨rfl, hb3⟩
                         have hz3 := HZ2.out.step hb3
                         have ha3 : Below w3.heap.size w3 (w3.alloc (.cells #[.int .i64 t.secs, .bool gu, .bool gd] 23)) := (Below.refl _ w3).alloc (Nat.le_refl _) _
                         obtain ⟨y0, y1, y2⟩ := (hz3.step ha3).cells
                         obtain ⟨z0, z1, z2⟩ := hz3.cells
                         obtain ⟨u0, u1, u2⟩ := (H3.new w3 ⟨t.secs, gu, gd⟩).cells
                         have HB3 := Lib.hid (bstep HB2.out hb3)
                         clear hz3 ha3 hb3)
            go_ret
            exact ⟨by rw [HF.out]; rfl, HB3.out.alloc HB3.out.size _⟩
          · subst h1
            subst h2
            go_wp2_with (go_at_call 75; refine (cT _ (HVV.out.step HB2.out)).mono ?_; rintro e w3 ⟨rfl, hb3⟩
                         have hz3 := HZ2.out.step hb3
                         have ha3 : Below w3.heap.size w3 (w3.alloc (.cells #[.int .i64 t.secs, .bool t.utc, .bool gd] 23)) := (Below.refl _ w3).alloc (Nat.le_refl _) _
                         obtain ⟨y0, y1, y2⟩ := (hz3.step ha3).cells
                         obtain ⟨z0, z1, z2⟩ := hz3.cells
                         obtain ⟨u0, u1, u2⟩ := (H3.new w3 ⟨t.secs, t.utc, gd⟩).cells
                         have HB3 := Lib.hid (bstep HB2.out hb3)
                         clear hz3 ha3 hb3)
            go_ret
            exact ⟨by rw [HF.out]; rfl, HB3.out.alloc HB3.out.size _⟩
  · have e3 : Hid ((⟨(dayT (t.secs / 86400)).toArray⟩ : ByteArray) = S) := Lib.hid (by rw [← hS0]; unfold timS; rw [hd]; simp)
    rw [hd] at x2
    rw [e3.out] at cd
    clear hS0
    go_upto_region 7 with (first
      | (go_at_call 72; refine (cs _ (HVV.out.dv.step HB1.out)).mono ?_; rintro e w2 ⟨rfl, hb2⟩
         clear x0 x1 x2
         have HZ2 := Lib.hid (HZ1.out.step hb2)
         have HB2 := Lib.hid (bstep HB1.out hb2)
         obtain ⟨x0, x1, x2⟩ := HZ2.out.cells
         rw [hd] at x2
         clear hb2)
      | (go_at_call 73; refine (cp _).mono ?_; rintro e w' ⟨rfl, hw⟩; subst w')
      | (go_at_call 74; refine (cd _ (HVV.out.dv.step HB2.out)).mono ?_; rintro e w4 ⟨rfl, hb4⟩
         clear x0 x1 x2
         have HZ4 := HZ2.out.step hb4
         have HB4 := bstep HB2.out hb4
         clear HZ2 HB2 hb4
         have HZ2 := Lib.hid HZ4
         have HB2 := Lib.hid HB4
         obtain ⟨x0, x1, x2⟩ := HZ2.out.cells
         rw [hd] at x2
         clear HZ4 HB4))
    clear hd
    have HOUT : (er = 10 ∧ got = Wh.zero) ∨ (er = 0 ∧ (got = t ∨ (¬ got.secs = t.secs) ∨ (got.secs = t.secs ∧ ¬ got.utc = t.utc) ∨ (got.secs = t.secs ∧ got.utc = t.utc ∧ ¬ got.date = t.date))) := by
      rcases htc with h | h
      · refine .inr ⟨h, ?_⟩
        by_cases hg : got = t
        · exact .inl hg
        · exact .inr (wh_ne hg)
      · injection h with h1 h2
        exact .inl ⟨h2, h1⟩
    clear htc
    unfold whV at cT
    rcases HOUT with ⟨rfl, rfl⟩ | ⟨rfl, HOUT⟩
    · have HF : Hid (timT t = []) := Lib.hid (by rw [HTT.out, if_neg (by intro h; injection h with _ h; revert h; decide)])
      clear x0 x1 x2
      go_wp2_with (go_at_call 75; refine (cT _ (HVV.out.step HB2.out)).mono ?_; rintro e w3 ⟨rfl, hb3⟩)
      go_ret
      exact ⟨by rw [HF.out]; rfl, (bstep HB2.out hb3).alloc (bstep HB2.out hb3).size _⟩
    · rcases HOUT with rfl | HOUT
      · have HF : Hid (timT got = timS got) := Lib.hid (by rw [HTT.out, if_pos rfl])
        clear x0 x1 x2
        go_wp2_with (go_at_call 75; refine (cT _ (HVV.out.step HB2.out)).mono ?_; rintro e w3 ⟨rfl, hb3⟩
                     have hz3 := HZ2.out.step hb3
                     have ha3 : Below w3.heap.size w3 (w3.alloc (.cells #[.int .i64 got.secs, .bool got.utc, .bool got.date] 23)) := (Below.refl _ w3).alloc (Nat.le_refl _) _
                     obtain ⟨y0, y1, y2⟩ := (hz3.step ha3).cells
                     obtain ⟨z0, z1, z2⟩ := hz3.cells
                     obtain ⟨u0, u1, u2⟩ := (H3.new w3 got).cells
                     have HB3 := Lib.hid (bstep HB2.out hb3)
                     clear hz3 ha3 hb3)
        go_ret
        exact ⟨by rw [HF.out, HS.out]; rfl, HB3.out.alloc HB3.out.size _⟩
      · have HF : Hid (timT t = []) := Lib.hid (by
          rw [HTT.out, if_neg]
          intro h
          injection h with h _
          subst h
          rcases HOUT with h | ⟨_, h⟩ | ⟨_, _, h⟩ <;> exact h rfl)
        clear x0 x1 x2
        obtain ⟨gs, gu, gd⟩ := got
        simp only at HOUT cT
        have HNE : (¬ gs = t.secs) ∨ (gs = t.secs ∧ ¬ gu = t.utc) ∨ (gs = t.secs ∧ gu = t.utc ∧ ¬ gd = t.date) := HOUT
        clear HOUT HTT
        rcases HNE with h1 | ⟨h1, h2⟩ | ⟨h1, h2, h3⟩
        · go_wp2_with (go_at_call 75; refine (cT _ (HVV.out.step HB2.out)).mono ?_; rintro e w3 ⟨rfl, hb3⟩
                       have hz3 := HZ2.out.step hb3
                       have ha3 : Below w3.heap.size w3 (w3.alloc (.cells #[.int .i64 gs, .bool gu, .bool gd] 23)) := (Below.refl _ w3).alloc (Nat.le_refl _) _
                       obtain ⟨y0, y1, y2⟩ := (hz3.step ha3).cells
                       obtain ⟨z0, z1, z2⟩ := hz3.cells
                       obtain ⟨u0, u1, u2⟩ := (H3.new w3 ⟨gs, gu, gd⟩).cells
                       have HB3 := Lib.hid (bstep HB2.out hb3)
                       clear hz3 ha3 hb3)
          go_ret
          exact ⟨by rw [HF.out]; rfl, HB3.out.alloc HB3.out.size _⟩
        · subst h1
          go_wp2_with (go_at_call 75; refine (cT _ (HVV.out.step HB2.out)).mono ?_; rintro e w3 ⟨rfl, hb3⟩
                       have hz3 := HZ2.out.step hb3
                       have ha3 : Below w3.heap.size w3 (w3.alloc (.cells #[.int .i64 t.secs, .bool gu, .bool gd] 23)) := (Below.refl _ w3).alloc (Nat.le_refl _) _
                       obtain ⟨y0, y1, y2⟩ := (hz3.step ha3).cells
                       obtain ⟨z0, z1, z2⟩ := hz3.cells
                       obtain ⟨u0, u1, u2⟩ := (H3.new w3 ⟨t.secs, gu, gd⟩).cells
                       have HB3 := Lib.hid (bstep HB2.out hb3)
                       clear hz3 ha3 hb3)
          go_ret
          exact ⟨by rw [HF.out]; rfl, HB3.out.alloc HB3.out.size _⟩
        · subst h1
          subst h2
          go_wp2_with (go_at_call 75; refine (cT _ (HVV.out.step HB2.out)).mono ?_; rintro e w3 ⟨rfl, hb3⟩
                       have hz3 := HZ2.out.step hb3
                       have ha3 : Below w3.heap.size w3 (w3.alloc (.cells #[.int .i64 t.secs, .bool t.utc, .bool gd] 23)) := (Below.refl _ w3).alloc (Nat.le_refl _) _
                       obtain ⟨y0, y1, y2⟩ := (hz3.step ha3).cells
                       obtain ⟨z0, z1, z2⟩ := hz3.cells
                       obtain ⟨u0, u1, u2⟩ := (H3.new w3 ⟨t.secs, t.utc, gd⟩).cells
                       have HB3 := Lib.hid (bstep HB2.out hb3)
                       clear hz3 ha3 hb3)
          go_ret
          exact ⟨by rw [HF.out]; rfl, HB3.out.alloc HB3.out.size _⟩
end Go.Proofs.YtnidkcedomhofaaGreatDoor
