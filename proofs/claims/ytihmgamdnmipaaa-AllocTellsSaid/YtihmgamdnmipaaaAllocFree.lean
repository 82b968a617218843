/-
  How many blocks are free, as the program counts them.
-/
import Derived.Test.YtihmgamdnmipaaaAllocIter
namespace Go.Proofs.Ytihmgamdnmipaaa
open Go.RowKit Go.Shelf
attribute [local go_sem] Oper.semAt_some

theorem below_setF {n₀ B : Nat} (hn : n₀ ≤ B) (W : World) (u : Value) : Below n₀ W (W.setCell ⟨B, 0, none⟩ u) := (Below.refl n₀ W).setCell (p := ⟨B, 0, none⟩) hn u
theorem kpF_set {n₀ Bs B : Nat} {W : World} {u : Value} (hn : n₀ ≤ B) (hs : Bs ≠ B) : KpF n₀ Bs W (W.setCell ⟨B, 0, none⟩ u) :=
  ⟨below_setF hn W u, Below.heap_setCell W ⟨B, 0, none⟩ u Bs hs⟩

/-- Between two rounds: so many were counted. -/
def InvF (w : World) (pre : List Nat) (W : World) : Prop := Boxed W w.heap.size 3 (.int .i64 (pre.length : Nat)) ∧ Below w.heap.size w W
def NoF (_ : Code) (_ : List Nat) (_ : World) : Prop := False
set_option maxRecDepth 100000 in
set_option maxHeartbeats 2000000 in
theorem freeA_any (A : Option Addr) (n c : Nat) (img : List ByteArray) (w : World) (h : Reads w w.heap.size 1 A n (encS img)) (hf : MapP img) :
    Calls Try.prog 24 #[.slice A n c] w fun e w' => e = .returned (.int .i64 ((freeA img).length : Nat)) ∧ Below w.heap.size w w' := by
  have hlen : (freeA img).length ≤ 512 := Nat.le_trans (freeTo_len _) hf.1.2
  refine (callsIn_wide (n := 3)).1 ?_
  refine callsIn_of_wp_marks Try.func24 rfl trivial ?_ rfl
  refine wpIn_wide.2 ?_
  simp only [Try.ntmps24, List.size_toArray, List.length_cons, List.length_nil, Nat.reduceAdd, Nat.reduceSub, Array.replicate_succ, Array.replicate_zero, List.push_toArray, List.append_toArray, List.nil_append, List.cons_append]
  go_wp2_with (go_at_call 53; refine ((callsIn_wide (n := 2)).1 (freeFn_in 2 _ _ _ _)).mono ?_; rintro e w' ⟨rfl, rfl⟩)
  refine (wpIn_wide (n := 3)).1 ?_
  have hB0 : Below w.heap.size w ((w.alloc (.cells #[.int .i64 0] 3)).alloc (.cells #[.slice A n c] 22)) := ((Below.refl _ w).alloc (Nat.le_refl _) _).alloc (by simp) _
  have bT := (Boxed.new w 3 (.int .i64 0)).alloc (.cells #[.slice A n c] 22)
  have bS := Boxed.new (w.alloc (.cells #[.int .i64 0] 3)) 22 (.slice A n c)
  simp only [World.size_alloc] at bT bS
  refine wpIn_rangeFunc_ownG rfl (by omega) (gf := 74) (lb := #[.pointer (some ⟨w.heap.size + 1, 0, none⟩)]) rfl trivial (enters_of Try.func74 (by kernel_rfl) rfl)
    (free_stops 2 (by omega) (w.heap.size + 1) w.heap.size A n c img hf _ (by simp; omega) (by simp) bS.cell (h.below hB0)) KpF.trans (kpF_put (by simp; omega) (by simp)) (Below.refl _ _) (fun _ => rfl)
    (InvF w) NoF
    ?own ?ownx ⟨bT, hB0⟩
    (fun i => { tmps := #[.slice A n c, undef, .int .i64 0, .pointer (some ⟨w.heap.size, 0, none⟩), .slice A n c, .func (.func 74) #[] #[.pointer (some ⟨w.heap.size + 1, 0, none⟩)], .int .i64 (i : Int), undef, undef, undef], defers := [] }) ?assign ?body ?done ?stop
  case own =>
    rintro pre X Y row ⟨h1, h2⟩ hg hr
    have ne : ∀ k, k ≤ w.heap.size → some k ≠ row := fun k hk e => by have := (hr _ e.symm).1; simp at this; omega
    exact ⟨h1.kept hg (ne _ (by omega)), ownFrom_below (β := Unit) (n₀ := w.heap.size) (w₀ := w) (Nat.le_refl _) (by simp; omega) () X Y row h2 hg hr⟩
  case ownx =>
    rintro c pre X Y row h0 hg hr
    exact h0.elim
  case assign =>
    intro l i W K hK
    gi_wp2
    simp [encsFree]
    exact hK
  case body =>
    rintro l pre i W ⟨hT, hB⟩ hlt
    have cT := hT.cell
    have fT := hT.frozen
    have hp : pre.length ≤ 512 := by omega
    have HP : Hid ((pre ++ [i]).length = pre.length + 1) := Lib.hid (by simp)
    have HI : Hid (InvF w (pre ++ [i]) (W.setCell ⟨w.heap.size, 0, none⟩ (.int .i64 ((pre.length : Int) + 1)))) := Lib.hid ⟨by rw [HP.out]; simpa using hT.set (.int .i64 ((pre.length : Int) + 1)), hB.trans (below_setF (Nat.le_refl _) W _)⟩
    clear hB0 bT bS hB hT hlt
    generalize pre.length = q at cT hp HI
    gi_wp2
    exact ⟨(KeepsOthers.setCell _ _ _).from _, kpF_set (Nat.le_refl _) (by omega), HI.out⟩
  case done =>
    rintro D ys W hD rfl ⟨hT, hB⟩ hK
    have cT := hT.cell
    clear hB0 bT bS
    go_wp2
    refine ⟨by simp, .inl ⟨_, _, rfl, run_takeDeferred (show W.heap[D]? = some (.deferred (some [])) from hK), ?_⟩⟩
    refine ⟨_, results_tmp rfl _ _ _, ?_, hB.trans (belowF_put (z := w.heap.size) (Nat.le_refl _) (by simp at hD; omega) W _ _ hK rfl)⟩
    rfl
  case stop =>
    rintro D c pre W hD _ h0 hK
    exact h0.elim

end Go.Proofs.Ytihmgamdnmipaaa
