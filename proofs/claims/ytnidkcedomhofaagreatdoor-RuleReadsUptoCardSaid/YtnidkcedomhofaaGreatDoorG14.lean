/-
  The program's own functions of layer 10: the length of a month, by its iterator.
-/
import Derived.Test.YtnidkcedomhofaaGreatDoorG13
import Derived.Deep.QuietTactic
import Derived.BigQuiet
namespace Go.Proofs.YtnidkcedomhofaaGreatDoor
open Go.RowKit Go.Shelf
attribute [local go_sem] Oper.semAt_some

theorem load_int {w : World} {a : Addr} {x : Int} (h : w.cell? a = some (.int .i64 x)) : (Go.loadVar 3 a).run Tryz.prog w = .ok (.int .i64 x) w := by
  unfold loadVar
  go_simp
theorem results_one {P : Program} {fn : Func} {t : Tmp} {T : TypeId} (h : fn.results = #[.cell t T]) (tmps : Array Value) {w : World} {a : Addr} {v : Value} (ht : tmps.getD t undef = .pointer (some a)) (hv : (Go.loadVar T a).run P w = .ok v w) :
    (results fn tmps).run P w = .ok v w := by
  have ht2 : tmps[t]?.getD undef = .pointer (some a) := by rw [← Array.getD_eq_getD_getElem?]; exact ht
  simp [results, h, ht2, asAddr, hv]

/-- Between two rounds. -/
def InvL (m : Int) (n₀ : Nat) (w : World) (pre : List (Fin 12)) (W : World) : Prop :=
  Boxed W n₀ 3 (.int .i64 m) ∧ Boxed W (n₀ + 1) 3 (.int .i64 0) ∧ (∀ i ∈ pre, (i.val : Int) + 1 ≠ m) ∧ Below n₀ w W
/-- Behind the round that returns. -/
def OutL (y m : Int) (n₀ : Nat) (w : World) (c : Code) (pre : List (Fin 12)) (W : World) : Prop :=
  c = .ret ∧ Boxed W (n₀ + 1) 3 (.int .i64 (lenD y m)) ∧ (∃ i ∈ pre, (i.val : Int) + 1 = m) ∧ Below n₀ w W
theorem mem_mths (i : Fin 12) : i ∈ mths 12 := by
  unfold mths
  rw [List.take_of_length_le (by simp)]
  exact List.mem_finRange i
theorem no_month {y m : Int} (h : ∀ i ∈ mths (cntM y), (i.val : Int) + 1 ≠ m) : lenD y m = 0 := by
  unfold lenD
  by_cases hy : 1 ≤ y ∧ y ≤ 9999
  · by_cases hm : 1 ≤ m ∧ m ≤ 12
    · exfalso
      have hc : cntM y = 12 := by unfold cntM; rw [if_pos hy]
      refine h ⟨(m - 1).toNat, by omega⟩ (by rw [hc]; exact mem_mths _) ?_
      show (((m - 1).toNat : Nat) : Int) + 1 = m
      omega
    · rw [if_pos (by omega)]
  · rw [if_pos (by omega)]

set_option maxRecDepth 100000 in
set_option maxHeartbeats 2000000 in
theorem pLength_any (y m : Int) (_hy : -9223372036854775808 ≤ y ∧ y < 9223372036854775808) (_hm : -9223372036854775808 ≤ m ∧ m < 9223372036854775808) (w : World) (hv : DV w) :
    Calls Tryz.prog 174 #[.int .i64 y, .int .i64 m] w fun e w' => e = .returned (.int .i64 (lenD y m)) ∧ Below w.heap.size w w' := by
  have HV := Lib.hid hv.len
  clear hv
  refine (callsIn_wide (n := 3)).1 ?_
  refine callsIn_of_wp_marks Tryz.func174 rfl trivial ?_ rfl
  refine wpIn_wide.2 ?_
  simp only [Tryz.ntmps174, List.size_toArray, List.length_cons, List.length_nil, Nat.reduceAdd, Nat.reduceSub, Array.replicate_succ, Array.replicate_zero, List.push_toArray, List.append_toArray, List.nil_append, List.cons_append]
  go_wp2_with (go_at_call 133; refine ((callsIn_wide (n := 2)).1 (mthsOf_in 2 _ _)).mono ?_; rintro e w' ⟨rfl, rfl⟩)
  refine (wpIn_wide (n := 3)).1 ?_
  have hB0 : Below w.heap.size w (((w.alloc (.cells #[.int .i64 m] 3)).alloc (.cells #[.int .i64 0] 3)).alloc (.cells #[.int .i64 y] 3)) :=
    (((Below.refl _ w).alloc (Nat.le_refl _) _).alloc (by simp) _).alloc (by simp; omega) _
  have bM := ((Boxed.new w 3 (.int .i64 m)).alloc (.cells #[.int .i64 0] 3)).alloc (.cells #[.int .i64 y] 3)
  have bR := (Boxed.new (w.alloc (.cells #[.int .i64 m] 3)) 3 (.int .i64 0)).alloc (.cells #[.int .i64 y] 3)
  have bY := Boxed.new ((w.alloc (.cells #[.int .i64 m] 3)).alloc (.cells #[.int .i64 0] 3)) 3 (.int .i64 y)
  simp only [World.size_alloc] at bM bR bY
  refine wpIn_rangeFunc_ownG rfl (by omega) (gf := 155) (lb := #[.pointer (some ⟨w.heap.size + 1 + 1, 0, none⟩)]) rfl trivial (enters_of Tryz.func155 (by kernel_rfl) rfl)
    (mths_stops 2 (by omega) (w.heap.size + 1 + 1) w.heap.size y _ (by simp) bY.cell (HV.out.step hB0)) KpM.trans (kpM_put (by simp; omega) (by simp)) (Below.refl _ _) (fun _ => rfl)
    (InvL m w.heap.size w) (OutL y m w.heap.size w)
    ?own ?ownx ⟨bM, bR, by simp, hB0⟩
    (fun i => { tmps := #[.int .i64 y, .int .i64 m, undef, .pointer (some ⟨w.heap.size, 0, none⟩), .pointer (some ⟨w.heap.size + 1, 0, none⟩), .int .i64 ((i.val : Int) + 1), .int .i64 (lenD y ((i.val : Int) + 1)), .int .i64 y, .func (.func 155) #[] #[.pointer (some ⟨w.heap.size + 1 + 1, 0, none⟩)], .int .i64 ((i.val : Int) + 1), .int .i64 (lenD y ((i.val : Int) + 1)), undef, undef, undef, undef], defers := [] }) ?assign ?body ?done ?stop
  case own =>
    rintro pre X Y row ⟨h1, h2, h5, h6⟩ hg hr
    have ne : ∀ k, k ≤ w.heap.size + 1 → some k ≠ row := fun k hk e => by have := (hr _ e.symm).1; simp at this; omega
    exact ⟨h1.kept hg (ne _ (by omega)), h2.kept hg (ne _ (by omega)), h5, ownFrom_below (β := Unit) (n₀ := w.heap.size) (w₀ := w) (Nat.le_refl _) (by simp; omega) () X Y row h6 hg hr⟩
  case ownx =>
    rintro c pre X Y row ⟨h0, h2, h5, h6⟩ hg hr
    have ne : ∀ k, k ≤ w.heap.size + 1 → some k ≠ row := fun k hk e => by have := (hr _ e.symm).1; simp at this; omega
    exact ⟨h0, h2.kept hg (ne _ (by omega)), h5, ownFrom_below (β := Unit) (n₀ := w.heap.size) (w₀ := w) (Nat.le_refl _) (by simp; omega) () X Y row h6 hg hr⟩
  case assign =>
    intro l i W K hK
    gi_wp2
    exact hK
  case body =>
    rintro l pre ⟨i, hi⟩ W ⟨hM, hR, hg, hB⟩ hlt
    have cM := hM.cell
    have cR := hR.cell
    have fR := hR.frozen
    clear hB0 bM bR bY hlt
    dsimp only
    by_cases he : (i : Int) + 1 = m
    · subst he
      have HG := Lib.hid hg; clear hg
      generalize hq : lenD y ((i : Int) + 1) = q
      have HQ := Lib.hid hq; clear hq
      gi_wp2
      exact ⟨(KeepsOthers.setCell _ _ _).from _, rfl, by rw [HQ.out]; exact hR.set _, ⟨⟨i, hi⟩, by simp, rfl⟩, hB.trans (belowM_set (by omega) _ _)⟩
    · have hb : ((i : Int) + 1 == m) = false := by simp [he]
      have HG := Lib.hid hg; clear hg
      have HE := Lib.hid he; clear he
      gi_wp2
      exact ⟨(KeepsOthers.refl _).from _, ⟨Below.refl _ _, rfl⟩, hM, hR, fun j hj => by
        rcases List.mem_append.1 hj with hj | hj
        · exact HG.out j hj
        · obtain rfl : j = ⟨i, hi⟩ := by simpa using hj
          exact HE.out, hB⟩
  case done =>
    rintro D ys W hD hys ⟨hM, hR, hg, hB⟩ hK
    subst hys
    have HZ := Lib.hid (no_month hg)
    clear hB0 bM bR bY hg
    have cR := hR.cell
    have fR := hR.frozen
    go_wp2
    have hK2 : (W.setCell ⟨w.heap.size + 1, 0, none⟩ (.int .i64 0)).heap[D]? = some (.deferred (some [])) := (Below.heap_setCell W ⟨w.heap.size + 1, 0, none⟩ (.int .i64 0) D (by simp at hD ⊢; omega)).trans hK
    have hR2 := hR.set (.int .i64 0)
    have hB2 : Below w.heap.size w (W.setCell ⟨w.heap.size + 1, 0, none⟩ (.int .i64 0)) := hB.trans (belowM_set (by omega) _ _)
    generalize (W.setCell ⟨w.heap.size + 1, 0, none⟩ (.int .i64 0)) = W2 at hK2 hR2 hB2 ⊢
    refine ⟨by simp, .inl ⟨_, _, rfl, run_takeDeferred hK2, ?_⟩⟩
    have hR3 : Boxed (W2.putObj D (.deferred none)) (w.heap.size + 1) 3 (.int .i64 0) := (World.putObj_heap_other (by simp at hD; omega)).trans hR2
    exact ⟨_, results_one rfl _ rfl (load_int hR3.cell), by rw [HZ.out], hB2.trans (belowM_put (z := w.heap.size) (Nat.le_refl _) (by simp at hD; omega) W2 _ _ hK2 rfl)⟩
  case stop =>
    rintro D c pre W hD ⟨k, hk, rfl⟩ ⟨rfl, hR, hg, hB⟩ hK
    clear hB0 bM bR bY
    have cR := hR.cell
    refine wpIn_wide.2 ?_
    go_wp2
    refine ⟨by simp, .inl ⟨_, _, rfl, run_takeDeferred hK, ?_⟩⟩
    have hR3 : Boxed (W.putObj D (.deferred none)) (w.heap.size + 1) 3 (.int .i64 (lenD y m)) := (World.putObj_heap_other (by simp at hD; omega)).trans hR
    exact ⟨_, results_one rfl _ rfl (load_int hR3.cell), rfl, hB.trans (belowM_put (z := w.heap.size) (Nat.le_refl _) (by simp at hD; omega) W _ _ hK rfl)⟩

end Go.Proofs.YtnidkcedomhofaaGreatDoor

/-
  The program's own functions of layer 10: a date's day.
-/
namespace Go.Proofs.YtnidkcedomhofaaGreatDoor
open Go.RowKit Go.Shelf
attribute [local go_sem] Oper.semAt_some

/-- Between two rounds. -/
def InvY (y m n0 : Int) (H N : Nat) (w : World) (pre : List (Fin 12)) (W : World) : Prop :=
  Boxed W H 3 (.int .i64 m) ∧ Boxed W N 2 (.int .i64 (n0 + sumM y pre)) ∧ (∀ i ∈ pre, (i.val : Int) + 1 ≠ m) ∧ Below H w W
/-- Behind the round that leaves. -/
def OutY (y m n0 : Int) (H N : Nat) (w : World) (c : Code) (pre : List (Fin 12)) (W : World) : Prop :=
  c = .exit 0 ∧ Boxed W N 2 (.int .i64 (n0 + sumM y pre.dropLast)) ∧ (∃ pre0 i, pre = pre0 ++ [i] ∧ ((i : Fin 12).val : Int) + 1 = m) ∧ Below H w W

set_option maxRecDepth 100000 in
set_option maxHeartbeats 2000000 in
theorem days_in (y m d : Int) (h : dateD y m d) (w : World) (hv : DV w) :
    Calls Tryz.prog 161 #[.int .i64 y, .int .i64 m, .int .i64 d] w fun e w' => e = .returned (.tuple #[.int .i64 (numD y m d), .bool true]) ∧ Below w.heap.size w w' := by
  obtain ⟨hy, hm⟩ := lenD_range h
  have HY := Lib.hid hy
  have HM := Lib.hid hm
  have hp := lenD_pos hy hm
  unfold dateD at h
  have hd31 : d ≤ 31 := by omega
  have c1 := fun W (hV : DV W) => pLength_any y m (by omega) (by omega) W hV
  have c2 := fun W => ahead_any y (by omega) W
  have hnum : Hid (numD y m d = -719162 + aheadD y + monD (leapD y) m + (d - 1)) := Lib.hid rfl
  have ha : 0 ≤ aheadD y ∧ aheadD y ≤ 3652059 := by
    have := aheadD_le (y := 1) (z := y) (by omega)
    have := aheadD_le (y := y) (z := 10000) (by omega)
    have := aheadD_one
    have := aheadD_end
    omega
  generalize aheadD y = a at c2 hnum ha
  obtain ⟨h1, h2⟩ := h
  generalize lenD y m = q at c1 h2
  have HD := Lib.hid (And.intro ha (And.intro h1 hd31))
  have b1 : ¬ d < 1 := by omega
  have b2 : ¬ q < d := by omega
  have HVV := Lib.hid hv
  clear hv hp hy hm
  refine (callsIn_wide (n := 3)).1 ?_
  refine callsIn_of_wp_marks Tryz.func161 rfl trivial ?_ rfl
  refine wpIn_wide.2 ?_
  simp only [Tryz.ntmps161, List.size_toArray, List.length_cons, List.length_nil, Nat.reduceAdd, Nat.reduceSub, Array.replicate_succ, Array.replicate_zero, List.push_toArray, List.append_toArray, List.nil_append, List.cons_append]
  have k1 : Below w.heap.size w (w.alloc (.cells #[.int .i64 m] 3)) := (Below.refl _ w).alloc (Nat.le_refl _) _
  have bM0 := Boxed.new w 3 (.int .i64 m)
  go_wp2_with (first
    | (go_at_call 174; ((with_reducible refine (c1 _ (HVV.out.step k1)).mono ?_); rintro e w1 ⟨rfl, hb1⟩))
    | (go_at_call 132; ((with_reducible refine (c2 _).mono ?_); rintro e w' ⟨rfl, hw⟩; subst w'))
    | (go_at_call 133; refine ((callsIn_wide (n := 2)).1 (mthsOf_in 2 _ _)).mono ?_; rintro e w' ⟨rfl, rfl⟩))
  refine (wpIn_wide (n := 3)).1 ?_
  have hsz : w.heap.size + 1 ≤ w1.heap.size := by have := hb1.size; simpa using this
  have hB1 : Below w.heap.size w w1 := bstep k1 hb1
  have bM1 : Boxed w1 w.heap.size 3 (.int .i64 m) := (hb1.block w.heap.size (by simp)).trans bM0
  have hV1 := HVV.out.step hB1
  obtain ⟨n0, hn0⟩ : ∃ n0, -719162 + a + (d - 1) = n0 := ⟨_, rfl⟩
  have hn1 : -719162 ≤ n0 ∧ n0 ≤ 2932928 := by omega
  rw [hn0]
  have HN0 := Lib.hid hn0
  have HN1 := Lib.hid hn1
  have hB0 : Below w.heap.size w ((w1.alloc (.cells #[.int .i64 n0] 2)).alloc (.cells #[.int .i64 y] 3)) := (hB1.alloc (by omega) _).alloc (by simp; omega) _
  have bM := (bM1.alloc (.cells #[.int .i64 n0] 2)).alloc (.cells #[.int .i64 y] 3)
  have bN := (Boxed.new w1 2 (.int .i64 n0)).alloc (.cells #[.int .i64 y] 3)
  have bY := Boxed.new (w1.alloc (.cells #[.int .i64 n0] 2)) 3 (.int .i64 y)
  simp only [World.size_alloc] at bY
  have hLen : CellsAt ((w1.alloc (.cells #[.int .i64 n0] 2)).alloc (.cells #[.int .i64 y] 3)) 6 lensV := HVV.out.len.step hB0
  clear hn0 hn1 bM0 k1 hb1 bM1 hV1 c1 c2 b1 b2 h1 h2 ha hd31
  refine wpIn_rangeFunc_ownG rfl (by omega) (gf := 155) (lb := #[.pointer (some ⟨w1.heap.size + 1, 0, none⟩)]) rfl trivial (enters_of Tryz.func155 (by kernel_rfl) rfl)
    (mths_stops 2 (by omega) (w1.heap.size + 1) w.heap.size y _ (by simp) bY.cell hLen) KpM.trans (kpM_put (by simp; omega) (by simp)) (Below.refl _ _) (fun _ => rfl)
    (InvY y m n0 w.heap.size w1.heap.size w) (OutY y m n0 w.heap.size w1.heap.size w)
    ?own ?ownx ⟨bM, by simpa [sumM] using bN, by simp, hB0⟩
    (fun i => { tmps := #[.int .i64 y, .int .i64 m, .int .i64 d, undef, .pointer (some ⟨w.heap.size, 0, none⟩), undef, .int .i64 0, .bool false, .pointer (some ⟨w1.heap.size, 0, none⟩), .int .i64 ((i.val : Int) + 1), .int .i64 (lenD y ((i.val : Int) + 1)), .int .i64 d, .bool false, .bool false, .int .i64 d, .int .i64 y, .int .i64 m, .int .i64 q, .bool (decide (q < d)), .bool (decide (q < d)), .int .i64 y, .int .i64 a, .int .i64 (-719162 + a), .int .i64 d, .int .i64 (d - 1), .int .i64 n0, .int .i64 y, .func (.func 155) #[] #[.pointer (some ⟨w1.heap.size + 1, 0, none⟩)], .int .i64 ((i.val : Int) + 1), .int .i64 (lenD y ((i.val : Int) + 1)), undef, undef, undef, undef, undef, undef, undef], defers := [] }) ?assign ?body ?done ?stop
  case own =>
    rintro pre X Y row ⟨h1, h2, h5, h6⟩ hg hr
    have ne : ∀ k, k ≤ w1.heap.size → some k ≠ row := fun k hk e => by have := (hr _ e.symm).1; simp at this; omega
    exact ⟨h1.kept hg (ne _ (by omega)), h2.kept hg (ne _ (by omega)), h5, ownFrom_below (β := Unit) (n₀ := w.heap.size) (w₀ := w) (Nat.le_refl _) (by simp; omega) () X Y row h6 hg hr⟩
  case ownx =>
    rintro c pre X Y row ⟨h0, h2, h5, h6⟩ hg hr
    have ne : ∀ k, k ≤ w1.heap.size → some k ≠ row := fun k hk e => by have := (hr _ e.symm).1; simp at this; omega
    exact ⟨h0, h2.kept hg (ne _ (by omega)), h5, ownFrom_below (β := Unit) (n₀ := w.heap.size) (w₀ := w) (Nat.le_refl _) (by simp; omega) () X Y row h6 hg hr⟩
  case assign =>
    intro l i W K hK
    gi_wp2
    exact hK
  case body =>
    rintro l pre ⟨i, hi⟩ W ⟨hM, hR, hg, hB⟩ hlt
    have cM := hM.cell
    have cR := hR.cell
    have fR := hR.frozen
    clear hB0 bM bN bY hLen
    dsimp only
    have hs := sumM_bound (y := y) pre
    have hpl : pre.length ≤ 12 := by have := cntM_le y; omega
    have hq : 0 ≤ lenD y ((i : Int) + 1) ∧ lenD y ((i : Int) + 1) ≤ 31 := by
      unfold lenD
      repeat (first | omega | split)
    have hsn := sumM_snoc y pre ⟨i, hi⟩
    dsimp only at hsn
    by_cases he : (i : Int) + 1 = m
    · have HS := Lib.hid hsn
      have hb : ((i : Int) + 1 == m) = true := by simp [he]
      have HG := Lib.hid hg
      have HE := Lib.hid he
      clear hg he hsn hs hq hpl hlt
      gi_wp2
      exact ⟨(KeepsOthers.refl _).from _, rfl, by rw [List.dropLast_concat]; exact hR, ⟨pre, ⟨i, hi⟩, rfl, HE.out⟩, hB⟩
    · have hb : ((i : Int) + 1 == m) = false := by simp [he]
      have HG := Lib.hid hg
      have HE := Lib.hid he
      have HS := Lib.hid hsn
      have hn1 := HN1.out
      generalize lenD y ((i : Int) + 1) = z at hq HS
      generalize sumM y pre = u at hs HS cR hR
      have hrange : -9223372036854775808 ≤ n0 + u + z ∧ n0 + u + z < 9223372036854775808 := by omega
      have hassoc : n0 + u + z = n0 + (u + z) := by omega
      have HA := Lib.hid hassoc
      clear hg he hsn hs hq hpl hlt hn1 hassoc
      gi_wp2
      exact ⟨(KeepsOthers.setCell _ _ _).from _, kpM_set (by omega) (by omega), hM.other (by omega) _, by rw [HS.out, ← HA.out]; exact hR.set _, fun j hj => by
        rcases List.mem_append.1 hj with hj | hj
        · exact HG.out j hj
        · obtain rfl : j = ⟨i, hi⟩ := by simpa using hj
          exact HE.out, hB.trans (belowM_set (by omega) _ _)⟩
  case done =>
    rintro D ys W hD hys ⟨hM, hR, hg, hB⟩ hK
    exfalso
    have hy := HY.out
    have hm := HM.out
    refine hg ⟨(m - 1).toNat, by omega⟩ (by rw [hys, show cntM y = 12 by unfold cntM; rw [if_pos hy]]; exact mem_mths _) ?_
    show (((m - 1).toNat : Nat) : Int) + 1 = m
    omega
  case stop =>
    rintro D c pre W hD ⟨k, hk, rfl⟩ ⟨rfl, hR, ⟨pre0, i, hpre, him⟩, hB⟩ hK
    have hk12 : k ≤ 12 := Nat.le_trans hk (cntM_le y)
    obtain ⟨hp0, _⟩ := mths_end hk12 hpre.symm
    have hval : n0 + sumM y (mths k).dropLast = numD y m d := by
      rw [hpre, List.dropLast_concat, hp0, sumM_mths HY.out i.val (by omega), him, hnum.out, ← HN0.out]
      omega
    rw [hval] at hR
    clear hB0 bM bN bY hLen hpre hval hp0 hk hk12
    have cR := hR.cell
    refine wpIn_wide.2 (wp_exit ?_)
    go_wp2
    refine ⟨by simp, .inl ⟨_, _, rfl, run_takeDeferred hK, ?_⟩⟩
    exact ⟨_, results_tmp2 rfl _ _ _, rfl, hB.trans (belowM_put (z := w.heap.size) (Nat.le_refl _) (by simp at hD; omega) W _ _ hK rfl)⟩

set_option maxRecDepth 100000 in
set_option maxHeartbeats 2000000 in
theorem pDays_any (y m d : Int) (hy : -9223372036854775808 ≤ y ∧ y < 9223372036854775808) (hm : -9223372036854775808 ≤ m ∧ m < 9223372036854775808) (_hd : -9223372036854775808 ≤ d ∧ d < 9223372036854775808) (w : World) (hv : DV w) :
    Calls Tryz.prog 161 #[.int .i64 y, .int .i64 m, .int .i64 d] w fun e w' => e = .returned (.tuple #[.int .i64 (daysV y m d).1, .bool (daysV y m d).2]) ∧ Below w.heap.size w w' := by
  by_cases h : dateD y m d
  · rw [daysV_ok h]; exact days_in y m d h w hv
  · have HB := Lib.hid (daysV_bad h)
    have k1 : Below w.heap.size w (w.alloc (.cells #[.int .i64 m] 3)) := (Below.refl _ w).alloc (Nat.le_refl _) _
    by_cases h1 : d < 1
    · clear h
      go_enter Tryz.func161, Tryz.ntmps161
      go_wp2
      go_ret2
      exact ⟨by rw [HB.out]; rfl, k1⟩
    · have h2 : lenD y m < d := by unfold dateD at h; omega
      have c1 := fun W (hV : DV W) => pLength_any y m hy hm W hV
      generalize lenD y m = q at c1 h2
      clear h
      go_enter Tryz.func161, Tryz.ntmps161
      go_wp2_with (go_at_call 174; ((with_reducible refine (c1 _ (hv.step k1)).mono ?_); rintro e w1 ⟨rfl, hb1⟩))
      go_ret2
      exact ⟨by rw [HB.out]; rfl, bstep k1 hb1⟩

end Go.Proofs.YtnidkcedomhofaaGreatDoor
