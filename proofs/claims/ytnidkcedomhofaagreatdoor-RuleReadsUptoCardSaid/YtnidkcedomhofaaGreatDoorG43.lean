/-
  The document's own answers of layer 14: a day of the week, perhaps with a number.
-/
import Derived.Test.YtnidkcedomhofaaGreatDoorG42
namespace Go.Proofs.YtnidkcedomhofaaGreatDoor
open Go.RowKit

/-- A day's variable. -/
def D2 (W : World) (g : Nat) (a b : Int) : Prop := W.heap[g]? = some (.cells #[.int .i64 a, .int .i64 b] 57 (0, 0))
def put2 (w : World) (g : Nat) (v0 v1 : Value) : World := (w.setCell ⟨g, 0, none⟩ v0).setCell ⟨g, 1, none⟩ v1
section
variable {W W' : World} {g : Nat} {a b : Int}
theorem D2.lt (h : D2 W g a b) : g < W.heap.size := by
  rcases Nat.lt_or_ge g W.heap.size with hlt | hge
  · exact hlt
  · unfold D2 at h; rw [Array.getElem?_eq_none hge] at h; cases h
theorem D2.cells (h : D2 W g a b) : W.cell? ⟨g, 0, none⟩ = some (.int .i64 a) ∧ W.cell? ⟨g, 1, none⟩ = some (.int .i64 b) := ⟨cell_of h rfl, cell_of h rfl⟩
theorem D2.new (W : World) (a b : Int) : D2 (W.alloc (.cells #[.int .i64 a, .int .i64 b] 57)) W.heap.size a b := heap_alloc_new W _
theorem D2.step (h : D2 W g a b) (hb : Below W.heap.size W W') : D2 W' g a b := (hb.block g h.lt).trans h
theorem D2.frozen (h : D2 W g a b) : ∀ k, W.frozen? ⟨g, k, none⟩ = false := fun k => by
  unfold D2 at h
  simp [World.frozen?, h]
theorem D2.put (h : D2 W g a b) (a' b' : Int) : D2 (put2 W g (.int .i64 a') (.int .i64 b')) g a' b' := by
  have h1 := heap_put (k := 0) (v := .int .i64 a') h (by simp)
  have h2 := heap_put (k := 1) (v := .int .i64 b') h1 (by simp)
  simpa [D2, put2] using h2
theorem load_wd (h : D2 W g a b) : (Go.loadVar 57 ⟨g, 0, none⟩).run Tryz.prog W = .ok (.agg #[.int .i64 a, .int .i64 b]) W := by
  obtain ⟨a0, a1⟩ := h.cells
  unfold loadVar
  go_simp
end
theorem below_put2 {B : Nat} {w : World} {g : Nat} (hg : B ≤ g) (v0 v1 : Value) : Below B w (put2 w g v0 v1) :=
  ((Below.refl B w).setCell (p := ⟨g, 0, none⟩) hg v0).setCell (p := ⟨g, 1, none⟩) hg v1
theorem placeN_len : ∀ (l : List (List UInt8)) (s : List UInt8) (k : Nat), placeN l s k ≠ -1 → s ∈ l
  | [], _, _, h => absurd rfl h
  | x :: xs, s, k, h => by
    rw [placeN] at h
    split at h
    · rename_i e; simp [e]
    · simp [placeN_len xs s (k + 1) h]
theorem dayL_len {l : List UInt8} (h : 0 ≤ dayL l) : l.length = 2 := by
  have := placeN_len dayB l 0 (by unfold dayL at h; omega)
  simp only [dayB, List.mem_cons, List.not_mem_nil, or_false] at this
  rcases this with rfl | rfl | rfl | rfl | rfl | rfl | rfl <;> rfl
def WdA (s : List UInt8) (w : World) (e : Ending) (w' : World) : Prop :=
  ∃ (n d : Int) (ok : Bool), e = .returned (.tuple #[.agg #[.int .i64 n, .int .i64 d], .bool ok]) ∧ Below w.heap.size w w' ∧ wdL s = (if ok = true then some (n, d) else none)
set_option maxRecDepth 100000 in
set_option maxHeartbeats 4000000 in
theorem refWday14_any (s : ByteArray) (hs : s.size ≤ 1048576) (w : World) : Calls Tryz.prog 58 #[.string s] w (WdA s.data.toList w) := by
  have hmx : Tryz.prog.follows .mixedOrders = true := by kernel_rfl
  have ha : Below w.heap.size w (w.alloc (.cells #[.int .i64 0, .int .i64 0] 57)) := (Below.refl _ w).alloc (Nat.le_refl _) _
  have hz := D2.new w 0 0
  have hbs := bsize s
  by_cases h2 : s.size < 2
  · have hW : wdL s.data.toList = none := by
      unfold wdL
      rw [if_pos]
      rcases Int.lt_or_le (dayL (s.data.toList.drop (s.data.toList.length - 2))) 0 with h | h
      · exact h
      · have := dayL_len h
        rw [List.length_drop] at this
        omega
    have HW := Lib.hid hW
    have h3 : (s.size : Int) < 2 := by omega
    clear hW hbs
    go_enter Tryz.func58, Tryz.ntmps58
    go_upto_region 1 with fail
    generalize w.alloc (.cells #[.int .i64 0, .int .i64 0] 57) = w1 at ha hz ⊢
    obtain ⟨x0, x1⟩ := hz.cells
    have xf := hz.frozen
    have HZ := Lib.hid hz
    have HB := Lib.hid ha
    clear hz ha
    go_wp2
    refine bodyPost_ret (results_cell2 rfl _ rfl rfl (load_wd (HZ.out.put 0 0))) rfl ⟨0, 0, false, rfl, HB.out.trans (below_put2 (Nat.le_refl _) _ _), HW.out⟩
  · obtain ⟨m, hm⟩ : ∃ m, s.size = m + 2 := ⟨s.size - 2, by omega⟩
    have hT : (s.extract m s.size).data.toList = s.data.toList.drop m := by
      rw [piece_mk]
      show ((s.data.toList.drop m).take (s.size - m)) = _
      rw [List.take_of_length_le (by rw [List.length_drop]; omega)]
    have hH : (s.extract 0 m).data.toList = s.data.toList.take m := by rw [piece_mk]; simp
    have hWl : wdL s.data.toList = if dayL (s.data.toList.drop m) < 0 then none else if m = 0 then some (0, dayL (s.data.toList.drop m)) else if eitL (s.data.toList.take m) 53 = 0 then none else some (eitL (s.data.toList.take m) 53, dayL (s.data.toList.drop m)) := by
      unfold wdL
      rw [show s.data.toList.length - 2 = m by omega]
      by_cases h0 : m = 0
      · rw [if_pos h0, if_pos (show s.data.toList.length ≤ 2 by omega)]
      · rw [if_neg h0, if_neg (show ¬ s.data.toList.length ≤ 2 by omega)]
    have hr := dayL_range (s.data.toList.drop m)
    have hsub : (s.size : Int) - 2 = (m : Int) := by omega
    have hwr : IntKind.i64.wrap (m : Int) = (m : Int) := by rw [IntKind.wrap_i64]; omega
    have hle : m ≤ s.size := by omega
    have hle2 : (m : Int) ≤ (s.size : Int) := by omega
    have hge : ¬ ((s.size : Int) < 2) := by omega
    obtain ⟨T, hTT⟩ : ∃ T, s.extract m s.size = T := ⟨_, rfl⟩
    obtain ⟨Hd, hHd⟩ : ∃ T, s.extract 0 m = T := ⟨_, rfl⟩
    have hHs : Hd.size = m := by rw [← hHd, bsize, hH, List.length_take]; omega
    rw [hHd] at hH
    rw [hTT] at hT
    have HM := Lib.hid hm
    have HWL := Lib.hid hWl
    have HH := Lib.hid hH
    have HHs := Lib.hid hHs
    have cp := refPlace_any (l := dayB) (s := T)
    rw [hT, show placeN dayB (s.data.toList.drop m) 0 = dayL (s.data.toList.drop m) from rfl] at cp
    generalize dayL (s.data.toList.drop m) = d at HWL hr cp
    clear hWl hH hT hm hbs h2 hHs
    go_enter Tryz.func58, Tryz.ntmps58
    go_upto_region 1 with fail
    generalize w.alloc (.cells #[.int .i64 0, .int .i64 0] 57) = w1 at ha hz ⊢
    go_upto_region 3 with fail
    refine wp_region_till (fun _ => True) 999 8 hmx (by kernel_rfl) ?_
    refine till_any (i := 1) _ (.string s) rfl (by kernel_rfl) (by kernel_rfl) (by kernel_rfl) (fun _ _ _ h => h) (.inl ⟨by rfl, fun w' hS => ?_⟩) ?_
    · go_simp
    try simp only [Act.put, List.setIfInBounds_toArray]
    refine till_any (i := 2) _ (.string s) rfl (by kernel_rfl) (by kernel_rfl) (by kernel_rfl) (fun _ _ _ h => h) (.inl ⟨by rfl, fun w' hS => ?_⟩) ?_
    · go_simp
    try simp only [Act.put]
    refine till_any (i := 3) _ (.int .i64 (s.size : Int)) rfl (by kernel_rfl) (by kernel_rfl) (by kernel_rfl) (fun _ _ _ h => h) (.inl ⟨by rfl, fun w' hS => ?_⟩) ?_
    · go_simp
    try simp only [Act.put]
    refine till_any (i := 4) _ (.int .i64 (m : Int)) rfl (by kernel_rfl) (by kernel_rfl) (by kernel_rfl) (fun _ _ _ h => h) (.inl ⟨by rfl, fun w' hS => ?_⟩) ?_
    · go_simp
    try simp only [Act.put]
    refine till_any (i := 5) _ (.string T) rfl (by kernel_rfl) (by kernel_rfl) (by kernel_rfl) (fun _ _ _ h => h) (.inl ⟨by rfl, fun w' hS => ?_⟩) ?_
    · go_simp
    try simp only [Act.put]
    refine till_one (i := 0) _ (by kernel_rfl) rfl rfl (fun K hK => ?_)
    go_simp
    refine (refDays14_any _).mono ?_
    rintro e w2 ⟨v, rfl, hs2, hb2⟩
    refine hK.out _ _ (fun _ h => (by cases h)) ?_
    try simp only [Act.put, List.setIfInBounds_toArray, List.set_cons_zero, List.set_cons_succ]
    clear hK K
    refine till_one (i := 6) _ (by kernel_rfl) rfl rfl (fun K hK => ?_)
    go_simp
    refine (cp v w2 hs2 (by decide)).mono ?_
    rintro e w3 ⟨rfl, hb3⟩
    refine hK.out _ _ (fun _ h => (by cases h)) ?_
    try simp only [Act.put, List.setIfInBounds_toArray, List.set_cons_zero, List.set_cons_succ]
    clear hK K
    refine till_one (i := 7) _ (by kernel_rfl) rfl rfl (fun K hK => ?_)
    go_simp
    refine hK.out _ _ (fun _ h => (by cases h)) ?_
    try simp only [Act.put, List.setIfInBounds_toArray, List.set_cons_zero, List.set_cons_succ]
    clear hK K
    refine till_done (by kernel_rfl) ?_
    have HB := Lib.hid (bstep (bstep ha.drew hb2) hb3)
    have HZ := Lib.hid (((show D2 w1.drew w.heap.size 0 0 from hz).step hb2).step hb3)
    clear ha hz hb2 hb3 hs2 cp hTT
    obtain ⟨x0, x1⟩ := HZ.out.cells
    have xf := HZ.out.frozen
    by_cases h0 : m = 0
    · have HW : Hid (wdL s.data.toList = if d < 0 then none else some (0, d)) := Lib.hid (by rw [HWL.out, if_pos h0])
      have hHe : Hd = ByteArray.empty := by
        apply ByteArray.ext
        rw [← Array.toList_inj, HH.out, h0]
        rfl
      subst hHe
      subst h0
      by_cases hd : 0 ≤ d
      · go_wp2
        refine bodyPost_ret (results_cell2 rfl _ rfl rfl (load_wd (HZ.out.put 0 d))) rfl ⟨0, d, true, rfl, HB.out.trans (below_put2 (Nat.le_refl _) _ _), by rw [HW.out, if_neg (by omega)]; rfl⟩
      · go_wp2
        refine bodyPost_ret (results_cell2 rfl _ rfl rfl (load_wd (HZ.out.put 0 d))) rfl ⟨0, d, false, rfl, HB.out.trans (below_put2 (Nat.le_refl _) _ _), by rw [HW.out, if_pos (by omega)]; rfl⟩
    · have cn := refNum1_any Hd (by have := HHs.out; omega) 53 (by omega) 
      rw [HH.out] at cn
      have HW : Hid (wdL s.data.toList = if d < 0 then none else if eitL (s.data.toList.take m) 53 = 0 then none else some (eitL (s.data.toList.take m) 53, d)) := Lib.hid (by rw [HWL.out, if_neg h0])
      generalize eitL (s.data.toList.take m) 53 = N at cn HW
      have hne : Hd.data.toList ≠ [] := by
        intro e
        have := HHs.out
        rw [bsize, e] at this
        exact h0 this.symm
      have z0 : (!Hd.toList.isEmpty) = true := by rw [Lib.toList_data]; cases hx : Hd.data.toList <;> simp_all
      have z2 : Hd.toList.isEmpty = false := by simpa using z0
      have z3 : (Hd.toList == []) = false := by rw [Lib.toList_data]; cases hx : Hd.data.toList <;> simp_all
      clear hne HH HHs HWL h0
      by_cases hd : 0 ≤ d
      · by_cases hn : N = 0
        · subst hn
          go_wp2_with (go_at_call 56; refine (cn _).mono ?_; rintro e w' ⟨rfl, hw⟩; subst w'; clear cn)
          refine bodyPost_ret (results_cell2 rfl _ rfl rfl (load_wd (HZ.out.put 0 d))) rfl ⟨0, d, false, rfl, HB.out.trans (below_put2 (Nat.le_refl _) _ _), by rw [HW.out, if_neg (by omega)]; simp⟩
        · have hnb : (N != 0) = true := by rw [bne_iff_ne]; exact hn
          have HN := Lib.hid hn
          clear hn
          go_wp2_with (go_at_call 56; refine (cn _).mono ?_; rintro e w' ⟨rfl, hw⟩; subst w'; clear cn)
          refine bodyPost_ret (results_cell2 rfl _ rfl rfl (load_wd (HZ.out.put N d))) rfl ⟨N, d, true, rfl, HB.out.trans (below_put2 (Nat.le_refl _) _ _), by rw [HW.out, if_neg (by omega), if_neg HN.out]; rfl⟩
      · go_wp2_with (go_at_call 56; refine (cn _).mono ?_; rintro e w' ⟨rfl, hw⟩; subst w'; clear cn)
        refine bodyPost_ret (results_cell2 rfl _ rfl rfl (load_wd (HZ.out.put N d))) rfl ⟨N, d, false, rfl, HB.out.trans (below_put2 (Nat.le_refl _) _ _), by rw [HW.out, if_pos (by omega)]; rfl⟩
end Go.Proofs.YtnidkcedomhofaaGreatDoor
