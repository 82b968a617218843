/-
  The program's own functions of layer 10: the length of a month, by its iterator.
-/
import Derived.Test.YtdilnofolnabdaaDoorDateIter
import Derived.Deep.QuietTactic
import Derived.BigQuiet
namespace Go.Proofs.YtdilnofolnabdaaDoor
open Go.RowKit Go.Shelf
attribute [local go_sem] Oper.semAt_some

theorem load_int {w : World} {a : Addr} {x : Int} (h : w.cell? a = some (.int .i64 x)) : (Go.loadVar 3 a).run Tryd.prog w = .ok (.int .i64 x) w := by
  unfold loadVar
  go_simp
theorem results_one {P : Program} {fn : Func} {t : Tmp} {T : TypeId} (h : fn.results = #[.cell t T]) (tmps : Array Value) {w : World} {a : Addr} {v : Value} (ht : tmps.getD t undef = .pointer (some a)) (hv : (Go.loadVar T a).run P w = .ok v w) :
    (results fn tmps).run P w = .ok v w := by
  have ht2 : tmps[t]?.getD undef = .pointer (some a) := by rw [← Array.getD_eq_getD_getElem?]; exact ht
  simp [results, h, ht2, asAddr, hv]

/-- Between two rounds. -/
def InvL (m : Int) (n₀ : Nat) (w : World) (pre : List (Fin 12)) (W : World) : Prop :=
  Boxed W n₀ 3 (.int .i64 m) ∧ Boxed W (n₀ + 1) 3 (.int .i64 0) ∧ (∀ i ∈ pre, (i.val : Int) + 1 ≠ m) ∧ Below n₀ w W
/-- Behind the round that returns. -/
def OutL (y m : Int) (n₀ : Nat) (w : World) (c : Code) (pre : List (Fin 12)) (W : World) : Prop :=
  c = .ret ∧ Boxed W (n₀ + 1) 3 (.int .i64 (lenD y m)) ∧ (∃ i ∈ pre, (i.val : Int) + 1 = m) ∧ Below n₀ w W
theorem mem_mths (i : Fin 12) : i ∈ mths 12 := by
  unfold mths
  rw [List.take_of_length_le (by simp)]
  exact List.mem_finRange i
theorem no_month {y m : Int} (h : ∀ i ∈ mths (cntM y), (i.val : Int) + 1 ≠ m) : lenD y m = 0 := by
  unfold lenD
  by_cases hy : 1 ≤ y ∧ y ≤ 9999
  · by_cases hm : 1 ≤ m ∧ m ≤ 12
    · exfalso
      have hc : cntM y = 12 := by unfold cntM; rw [if_pos hy]
      refine h ⟨(m - 1).toNat, by omega⟩ (by rw [hc]; exact mem_mths _) ?_
      show (((m - 1).toNat : Nat) : Int) + 1 = m
      omega
    · rw [if_pos (by omega)]
  · rw [if_pos (by omega)]

set_option maxRecDepth 100000 in
set_option maxHeartbeats 2000000 in
theorem pLength_any (y m : Int) (_hy : -9223372036854775808 ≤ y ∧ y < 9223372036854775808) (_hm : -9223372036854775808 ≤ m ∧ m < 9223372036854775808) (w : World) (hv : DV w) :
    Calls Tryd.prog 91 #[.int .i64 y, .int .i64 m] w fun e w' => e = .returned (.int .i64 (lenD y m)) ∧ Below w.heap.size w w' := by
  have HV := Lib.hid hv.len
  clear hv
  refine (callsIn_wide (n := 3)).1 ?_
  refine callsIn_of_wp_marks Tryd.func91 rfl trivial ?_ rfl
  refine wpIn_wide.2 ?_
  simp only [Tryd.ntmps91, List.size_toArray, List.length_cons, List.length_nil, Nat.reduceAdd, Nat.reduceSub, Array.replicate_succ, Array.replicate_zero, List.push_toArray, List.append_toArray, List.nil_append, List.cons_append]
  go_wp2_with (go_at_call 87; refine ((callsIn_wide (n := 2)).1 (mthsOf_in 2 _ _)).mono ?_; rintro e w' ⟨rfl, rfl⟩)
  refine (wpIn_wide (n := 3)).1 ?_
  have hB0 : Below w.heap.size w (((w.alloc (.cells #[.int .i64 m] 3)).alloc (.cells #[.int .i64 0] 3)).alloc (.cells #[.int .i64 y] 3)) :=
    (((Below.refl _ w).alloc (Nat.le_refl _) _).alloc (by simp) _).alloc (by simp; omega) _
  have bM := ((Boxed.new w 3 (.int .i64 m)).alloc (.cells #[.int .i64 0] 3)).alloc (.cells #[.int .i64 y] 3)
  have bR := (Boxed.new (w.alloc (.cells #[.int .i64 m] 3)) 3 (.int .i64 0)).alloc (.cells #[.int .i64 y] 3)
  have bY := Boxed.new ((w.alloc (.cells #[.int .i64 m] 3)).alloc (.cells #[.int .i64 0] 3)) 3 (.int .i64 y)
  simp only [World.size_alloc] at bM bR bY
  refine wpIn_rangeFunc_ownG rfl (by omega) (gf := 101) (lb := #[.pointer (some ⟨w.heap.size + 1 + 1, 0, none⟩)]) rfl trivial (enters_of Tryd.func101 (by kernel_rfl) rfl)
    (mths_stops 2 (by omega) (w.heap.size + 1 + 1) w.heap.size y _ (by simp) bY.cell (HV.out.step hB0)) KpM.trans (kpM_put (by simp; omega) (by simp)) (Below.refl _ _) (fun _ => rfl)
    (InvL m w.heap.size w) (OutL y m w.heap.size w)
    ?own ?ownx ⟨bM, bR, by simp, hB0⟩
    (fun i => { tmps := #[.int .i64 y, .int .i64 m, undef, .pointer (some ⟨w.heap.size, 0, none⟩), .pointer (some ⟨w.heap.size + 1, 0, none⟩), .int .i64 ((i.val : Int) + 1), .int .i64 (lenD y ((i.val : Int) + 1)), .int .i64 y, .func (.func 101) #[] #[.pointer (some ⟨w.heap.size + 1 + 1, 0, none⟩)], .int .i64 ((i.val : Int) + 1), .int .i64 (lenD y ((i.val : Int) + 1)), undef, undef, undef, undef], defers := [] }) ?assign ?body ?done ?stop
  case own =>
    rintro pre X Y row ⟨h1, h2, h5, h6⟩ hg hr
    have ne : ∀ k, k ≤ w.heap.size + 1 → some k ≠ row := fun k hk e => by have := (hr _ e.symm).1; simp at this; omega
    exact ⟨h1.kept hg (ne _ (by omega)), h2.kept hg (ne _ (by omega)), h5, ownFrom_below (β := Unit) (n₀ := w.heap.size) (w₀ := w) (Nat.le_refl _) (by simp; omega) () X Y row h6 hg hr⟩
  case ownx =>
    rintro c pre X Y row ⟨h0, h2, h5, h6⟩ hg hr
    have ne : ∀ k, k ≤ w.heap.size + 1 → some k ≠ row := fun k hk e => by have := (hr _ e.symm).1; simp at this; omega
    exact ⟨h0, h2.kept hg (ne _ (by omega)), h5, ownFrom_below (β := Unit) (n₀ := w.heap.size) (w₀ := w) (Nat.le_refl _) (by simp; omega) () X Y row h6 hg hr⟩
  case assign =>
    intro l i W K hK
    gi_wp2
    exact hK
  case body =>
    rintro l pre ⟨i, hi⟩ W ⟨hM, hR, hg, hB⟩ hlt
    have cM := hM.cell
    have cR := hR.cell
    have fR := hR.frozen
    clear hB0 bM bR bY hlt
    dsimp only
    by_cases he : (i : Int) + 1 = m
    · subst he
      have HG := Lib.hid hg; clear hg
      generalize hq : lenD y ((i : Int) + 1) = q
      have HQ := Lib.hid hq; clear hq
      gi_wp2
      exact ⟨(KeepsOthers.setCell _ _ _).from _, rfl, by rw [HQ.out]; exact hR.set _, ⟨⟨i, hi⟩, by simp, rfl⟩, hB.trans (belowM_set (by omega) _ _)⟩
    · have hb : ((i : Int) + 1 == m) = false := by simp [he]
      have HG := Lib.hid hg; clear hg
      have HE := Lib.hid he; clear he
      gi_wp2
      exact ⟨(KeepsOthers.refl _).from _, ⟨Below.refl _ _, rfl⟩, hM, hR, fun j hj => by
        rcases List.mem_append.1 hj with hj | hj
        · exact HG.out j hj
        · obtain rfl : j = ⟨i, hi⟩ := by simpa using hj
          exact HE.out, hB⟩
  case done =>
    rintro D ys W hD hys ⟨hM, hR, hg, hB⟩ hK
    subst hys
    have HZ := Lib.hid (no_month hg)
    clear hB0 bM bR bY hg
    have cR := hR.cell
    have fR := hR.frozen
    go_wp2
    have hK2 : (W.setCell ⟨w.heap.size + 1, 0, none⟩ (.int .i64 0)).heap[D]? = some (.deferred (some [])) := (Below.heap_setCell W ⟨w.heap.size + 1, 0, none⟩ (.int .i64 0) D (by simp at hD ⊢; omega)).trans hK
    have hR2 := hR.set (.int .i64 0)
    have hB2 : Below w.heap.size w (W.setCell ⟨w.heap.size + 1, 0, none⟩ (.int .i64 0)) := hB.trans (belowM_set (by omega) _ _)
    generalize (W.setCell ⟨w.heap.size + 1, 0, none⟩ (.int .i64 0)) = W2 at hK2 hR2 hB2 ⊢
    refine ⟨by simp, .inl ⟨_, _, rfl, run_takeDeferred hK2, ?_⟩⟩
    have hR3 : Boxed (W2.putObj D (.deferred none)) (w.heap.size + 1) 3 (.int .i64 0) := (World.putObj_heap_other (by simp at hD; omega)).trans hR2
    exact ⟨_, results_one rfl _ rfl (load_int hR3.cell), by rw [HZ.out], hB2.trans (belowM_put (z := w.heap.size) (Nat.le_refl _) (by simp at hD; omega) W2 _ _ hK2 rfl)⟩
  case stop =>
    rintro D c pre W hD ⟨k, hk, rfl⟩ ⟨rfl, hR, hg, hB⟩ hK
    clear hB0 bM bR bY
    have cR := hR.cell
    refine wpIn_wide.2 ?_
    go_wp2
    refine ⟨by simp, .inl ⟨_, _, rfl, run_takeDeferred hK, ?_⟩⟩
    have hR3 : Boxed (W.putObj D (.deferred none)) (w.heap.size + 1) 3 (.int .i64 (lenD y m)) := (World.putObj_heap_other (by simp at hD; omega)).trans hR
    exact ⟨_, results_one rfl _ rfl (load_int hR3.cell), rfl, hB.trans (belowM_put (z := w.heap.size) (Nat.le_refl _) (by simp at hD; omega) W _ _ hK rfl)⟩

end Go.Proofs.YtdilnofolnabdaaDoor
