/-
  The program's Read: its iterator backwards over the cache, left by a label at the first write that counts: for every device that memory can hold, every place.
-/
import Derived.RangeFuncNested
import Derived.RangeFuncBound
import Derived.RangeFuncCalls
import Derived.RangeFuncLeaves
import Derived.RangeFuncBox
import Derived.Shelf.Abstract
import Derived.Shelf.RegionOpen
import Derived.OwnWalkIn
import Derived.TacticsInMore
import Derived.RegionIn
import Derived.LoopNIn
import Derived.LoopIn
import Derived.Test.YtlpijikhbjkmfaaG14
import Derived.Deep.RegionHeld
import Derived.StillTail
import Derived.OrdersIn
import Derived.CallsIn
import Derived.Test.YtlpijikhbjkmfaaG02
namespace Go.Proofs.Ytlpijikhbjkmfaa
open Go.RowKit Go.Shelf
attribute [local go_sem] Oper.semAt_some

/-- The first k of m. -/
def upN (m k : Nat) : List (Fin m) := (List.finRange m).take k
theorem upN_succ (m k : Nat) (h : k < m) : upN m (k + 1) = upN m k ++ [⟨k, h⟩] := by
  unfold upN
  rw [List.take_succ_eq_append_getElem (by simpa using h)]; simp
theorem upN_length (m k : Nat) (h : k ≤ m) : (upN m k).length = k := by simp [upN]; omega
theorem mem_upN {m : Nat} : ∀ (k : Nat), k ≤ m → ∀ (i : Nat) (h : i < m), i < k → (⟨i, h⟩ : Fin m) ∈ upN m k
  | 0, _, _, _, hi => by omega
  | k + 1, hk, i, h, hi => by
    rw [upN_succ m k (by omega)]
    rcases Nat.lt_or_ge i k with h1 | h1
    · exact List.mem_append_left _ (mem_upN k (by omega) i h h1)
    · obtain rfl : i = k := by omega
      simp
theorem split_upN {m k : Nat} {pre0 : List (Fin m)} {i : Fin m} (hk : k ≤ m) (h : upN m k = pre0 ++ [i]) : k = i.val + 1 ∧ pre0 = upN m i.val := by
  cases k with
  | zero => have := congrArg List.length h; simp [upN] at this
  | succ j =>
    rw [upN_succ m j (by omega)] at h
    obtain ⟨h1, h2⟩ := List.append_inj' h rfl
    have : (⟨j, by omega⟩ : Fin m) = i := by simpa using h2
    subst this
    exact ⟨rfl, h1.symm⟩

/-- What is handed out as the t-th: the place counted from the end, and the write there. -/
abbrev encsBack (cs : List (Int × ByteArray)) (m : Nat) (t : Fin m) : Array Value := #[.int .i64 ((m - 1 - t.val : Nat) : Int), .agg #[.int .i64 (wAt cs (m - 1 - t.val)), .string (wDat cs (m - 1 - t.val))]]
/-- What a round keeps: what lay below n₀, and the iterator's box. -/
structure KpB (n₀ Bs : Nat) (A B : World) : Prop where
  below : Below n₀ A B
  bs : B.heap[Bs]? = A.heap[Bs]?
theorem KpB.trans {n₀ Bs : Nat} {A B C : World} (h : KpB n₀ Bs A B) (k : KpB n₀ Bs B C) : KpB n₀ Bs A C := ⟨h.below.trans k.below, k.bs.trans h.bs⟩
theorem KpB.refl {n₀ Bs : Nat} (A : World) : KpB n₀ Bs A A := ⟨Below.refl _ _, rfl⟩
theorem putB_below {n₀ z l : Nat} (hn : n₀ ≤ z) (hl : z ≤ l) (W : World) (o o' : Obj) (ho : W.heap[l]? = some o) : Below n₀ W (W.putObj l o') :=
  (Below.refl n₀ W).grown (grownBy_putObj' W l o') (by have := (Array.getElem?_eq_some_iff.1 ho).1; omega) fun j ej => by cases ej; omega
theorem kpB_put {n₀ Bs z : Nat} (hn : n₀ ≤ z) (hs : Bs < z) (W : World) (l : Nat) (o o' : Obj) (hl : z ≤ l) (ho : W.heap[l]? = some o) (_hc : o.isCells = false) (_hw : o.isWalk = false) : KpB n₀ Bs W (W.putObj l o') :=
  ⟨(Below.refl n₀ W).trans (putB_below hn hl W o o' ho), World.putObj_heap_other (by omega)⟩

set_option maxRecDepth 100000 in
set_option maxHeartbeats 1000000 in
theorem back1_in (F : Fence) (n : Nat) (h6 : F.fn 88) (hro : F.round = none) (hn : 1 ≤ n) (l Bs n₀ : Nat) (cs : List (Int × ByteArray)) (m c' : Nat) (A' : Option Addr) (hm : m ≤ 9223372036854775807) (J Jx : List (Fin m) → World → Prop)
    (hY : ∀ (pre : List (Fin m)) (t : Fin m) (W : World), J pre W → pre.length < m → YieldAt F (n - 1) Try.prog l (encsBack cs m t) W fun e W' =>
      (e = .returned (.bool true) ∧ J (pre ++ [t]) W' ∧ KpB n₀ Bs W W') ∨ (e = .returned (.bool false) ∧ Jx (pre ++ [t]) W'))
    (W : World) (hBs : W.cell? ⟨Bs, 0, none⟩ = some (.slice A' m c')) (hcs : Reads W n₀ 2 A' m (encW cs)) (h0 : J [] W) :
    CallsIn F n Try.prog 88 #[.func (.yield l) #[] #[], .pointer (some ⟨Bs, 0, none⟩)] W fun e W' => (∃ v, e = .returned v) ∧
      ((∃ ys, ys = upN m m ∧ J ys W') ∨ (∃ pre, (∃ k, k ≤ m ∧ pre = upN m k) ∧ Jx pre W')) := by
  refine callsIn_of_wp Try.func88 rfl h6 ?_ hro
  simp only [Try.ntmps88, List.size_toArray, List.length_cons, List.length_nil, Nat.reduceAdd, Nat.reduceSub, Array.replicate_succ, Array.replicate_zero, List.push_toArray, List.append_toArray, List.nil_append, List.cons_append]
  gi_wp2
  gi_loopw [3] (fun p wr => ∃ k : Nat, p = .int .i64 ((m : Int) - 1 - (k : Int)) ∧ k ≤ m ∧ J (upN m k) wr ∧ wr.cell? ⟨Bs, 0, none⟩ = some (.slice A' m c') ∧ Reads wr n₀ 2 A' m (encW cs)) (fun p _ => (intOf p + 1).toNat)
  case atStart => exact ⟨0, by simp, by omega, by simpa [upN] using h0, hBs, hcs⟩
  case round =>
    obtain ⟨k, rfl, hk, hJ, hcb, hR⟩ := hrel
    by_cases h : k < m
    · obtain ⟨q, hq⟩ : ∃ q : Nat, q = m - 1 - k := ⟨_, rfl⟩
      have hqm : q < m := by omega
      obtain ⟨b2, o2, rfl, _, g2, f2⟩ := hR.wr hqm
      obtain ⟨fn, tmps, assign, body, hy, hRR⟩ := hY (upN m k) ⟨k, h⟩ wr hJ (by rw [upN_length m k (by omega)]; exact h)
      dsimp only [encsBack] at hy
      rw [← hq] at hy
      have hpi : (m : Int) - 1 - (k : Int) = (q : Int) := by omega
      rw [hpi]
      have HQ := Lib.hid hq; clear hq hpi
      have HR := Lib.hid hR; clear hR
      generalize wAt cs q = x at g2 hy
      generalize wDat cs q = s at f2 hy
      have hq0 : (0 : Int) ≤ (q : Int) := by omega
      have hqi : (q : Int) < (m : Int) := by omega
      gi_wp2
      refine hRR.mono ?_
      rintro e W3 (⟨rfl, hJ3, hk3⟩ | ⟨rfl, hJx3⟩)
      · have hcb3 := (World.cell?_of_block hk3.bs).trans hcb
        have HJ := Lib.hid hJ3; clear hJ3
        have HR3 := Lib.hid (HR.out.below hk3.below)
        gi_wp2
        go_roundw
        case rel => exact ⟨k + 1, congrArg (Value.int .i64) (by have := HQ.out; omega), by omega, by rw [upN_succ m k h]; exact HJ.out, hcb3, HR3.out⟩
        case measure => simp [intOf]
      · gi_wp2
        refine bodyPost_ret (results_none rfl _ _ _) rfl ?_
        exact ⟨⟨_, rfl⟩, .inr ⟨_, ⟨k + 1, by omega, (upN_succ m k h).symm⟩, hJx3⟩⟩
    · have hmk : k = m := by omega
      subst hmk
      have hpi : (k : Int) - 1 - (k : Int) = -1 := by omega
      rw [hpi]
      gi_wp2
      go_end0
      exact ⟨⟨_, rfl⟩, .inl ⟨_, rfl, hJ⟩⟩

set_option maxHeartbeats 1000000 in
theorem back_in (F : Fence) (n : Nat) (h5 : F.fn 71) (hro : F.round = none) (A' : Option Addr) (m c' : Nat) (w : World) :
    CallsIn F n Try.prog 71 #[.slice A' m c'] w fun e w' => e = .returned (.func (.func 88) #[] #[.pointer (some ⟨w.heap.size, 0, none⟩)]) ∧ w' = w.alloc (.cells #[.slice A' m c'] 23) := by
  refine callsIn_of_wp Try.func71 rfl h5 ?_ hro
  simp only [Try.ntmps71, List.size_toArray, List.length_cons, List.length_nil, Nat.reduceAdd, Nat.reduceSub, Array.replicate_succ, Array.replicate_zero, List.push_toArray, List.append_toArray, List.nil_append, List.cons_append]
  gi_wp2
  go_ret
  exact ⟨rfl, rfl⟩

theorem back_stops (F : Fence) (n : Nat) (h6 : F.fn 88) (hro : F.round = none) (hn : 1 ≤ n) (Bs n₀ : Nat) (cs : List (Int × ByteArray)) (m c' : Nat) (A' : Option Addr) (hm : m ≤ 9223372036854775807) (w : World) (hBs : Bs < w.heap.size) (hn₀ : n₀ ≤ w.heap.size)
    (hcb : w.cell? ⟨Bs, 0, none⟩ = some (.slice A' m c')) (hcs : Reads w n₀ 2 A' m (encW cs)) :
    SeqStopsK F n Try.prog 88 #[.pointer (some ⟨Bs, 0, none⟩)] (fun t : Fin m => encsBack cs m t) (KpB n₀ Bs) (fun ys => ys = upN m m) (fun pre => ∃ k, k ≤ m ∧ pre = upN m k) m w := fun l J Jx W hW _ _ hY h0 =>
  back1_in F n h6 hro hn l Bs n₀ cs m c' A' hm J Jx hY W ((hW.cell (p := ⟨Bs, 0, none⟩) hBs).trans hcb) (hcs.below (hW.mono hn₀)) h0

set_option maxRecDepth 100000 in
set_option maxHeartbeats 2000000 in
theorem read_dead (A A' : Option Addr) (n c m c' : Nat) (l : Int) (i : Int) (w : World) :
    Calls Try.prog 53 #[.agg #[.slice A n c, .slice A' m c', .int .i64 l, .bool true], .int .i64 i] w fun e w' => e = .returned (.tuple #[.string ⟨#[]⟩, .int .i64 17]) ∧ Below w.heap.size w w' := by
  go_enter Try.func53, Try.ntmps53
  go_wp2
  go_step3
  go_wp2
  rw [Exit.noGoto_ret]
  go_ret2
  exact ⟨rfl, alloc2_below _ _ _⟩

set_option maxRecDepth 100000 in
set_option maxHeartbeats 2000000 in
theorem read_place (A A' : Option Addr) (n c m c' : Nat) (l : Int) (i : Int) (w : World) (h : ¬ (0 ≤ i ∧ i < (n : Int))) :
    Calls Try.prog 53 #[.agg #[.slice A n c, .slice A' m c', .int .i64 l, .bool false], .int .i64 i] w fun e w' => e = .returned (.tuple #[.string ⟨#[]⟩, .int .i64 15]) ∧ Below w.heap.size w w' := by
  have c1 := fun W => isBlock_any A A' n c m c' l false i W
  rw [decide_eq_false h] at c1
  clear h
  go_enter Try.func53, Try.ntmps53
  go_wp2
  go_step3
  go_wp2_with (go_at_call 66; refine (c1 _).mono ?_; rintro e w1 ⟨rfl, hb1⟩)
  rw [Exit.noGoto_ret]
  go_ret2
  exact ⟨rfl, (alloc2_below _ _ _).trans (hb1.mono (by simp; omega))⟩

/-- Between two rounds. -/
def BackInv (cs : List (Int × ByteArray)) (m : Nat) (i : Int) (s0 : ByteArray) (Ib Sb : Nat) (w : World) (pre : List (Fin m)) (W : World) : Prop :=
  Boxed W Ib 3 (.int .i64 i) ∧ Boxed W Sb 9 (.string s0) ∧ Sb + 2 ≤ W.heap.size ∧ (∀ t ∈ pre, wAt cs (m - 1 - t.val) ≠ i) ∧ Below w.heap.size w W
/-- Which write was found. -/
def Found (cs : List (Int × ByteArray)) (m : Nat) (i : Int) (pre : List (Fin m)) (s : ByteArray) : Prop :=
  ∃ pre0 t, pre = pre0 ++ [t] ∧ (∀ y ∈ pre0, wAt cs (m - 1 - y.val) ≠ i) ∧ wAt cs (m - 1 - t.val) = i ∧ wDat cs (m - 1 - t.val) = s
/-- Behind the round that leaves. -/
def BackOut (cs : List (Int × ByteArray)) (m : Nat) (i : Int) (Sb : Nat) (w : World) (c : Code) (pre : List (Fin m)) (W : World) : Prop :=
  c = .exit 0 ∧ ∃ s, Boxed W Sb 9 (.string s) ∧ Found cs m i pre s ∧ Below w.heap.size w W

theorem back_none {cs : List (Int × ByteArray)} {m : Nat} {i : Int} {s : ByteArray} (hl : cs.length = m) (h : ∀ t ∈ upN m m, wAt cs (m - 1 - t.val) ≠ i) : lastTo cs i s = s := by
  refine lastTo_none cs i s fun p hp => ?_
  obtain ⟨q, hq, e⟩ := List.mem_iff_getElem.1 hp
  have h1 := wr_get (cs := cs) (k := q) hq
  rw [List.getElem?_eq_getElem hq, e] at h1
  injection h1 with h1
  rw [h1]
  have h2 := h ⟨m - 1 - q, by omega⟩ (mem_upN m (Nat.le_refl _) (m - 1 - q) (by omega) (by omega))
  rw [show m - 1 - (m - 1 - q) = q by omega] at h2
  exact h2
theorem back_found {cs : List (Int × ByteArray)} {m k : Nat} {i : Int} {s s0 : ByteArray} (hl : cs.length = m) (hk : k ≤ m) (h : Found cs m i (upN m k) s) : lastTo cs i s0 = s := by
  obtain ⟨pre0, t, hpre, hne, hat, hs⟩ := h
  obtain ⟨rfl, rfl⟩ := split_upN hk hpre
  have ht := t.isLt
  have hsplit : cs = cs.take (m - 1 - t.val + 1) ++ cs.drop (m - 1 - t.val + 1) := (List.take_append_drop _ _).symm
  rw [hsplit, lastTo_app, lastTo_step (by omega), if_pos hat, hs]
  refine lastTo_none _ i s fun p hp => ?_
  obtain ⟨q, hq, e⟩ := List.mem_iff_getElem.1 hp
  rw [List.length_drop] at hq
  have h1 := wr_get (cs := cs) (k := m - 1 - t.val + 1 + q) (by omega)
  rw [List.getElem_drop] at e
  rw [List.getElem?_eq_getElem (by omega), e] at h1
  injection h1 with h1
  rw [h1]
  have h2 := hne ⟨m - 1 - (m - 1 - t.val + 1 + q), by omega⟩ (mem_upN t.val (by omega) _ (by omega) (by omega))
  rw [show m - 1 - (m - 1 - (m - 1 - t.val + 1 + q)) = m - 1 - t.val + 1 + q by omega] at h2
  exact h2

set_option maxRecDepth 100000 in
set_option maxHeartbeats 4000000 in
theorem read_yes (A A' : Option Addr) (n c m c' : Nat) (d : D) (l : Int) (j : Nat) (w : World) (h : Dv w w.heap.size A n A' m d) (hj : j < n) :
    Calls Try.prog 53 #[.agg #[.slice A n c, .slice A' m c', .int .i64 l, .bool false], .int .i64 j] w fun e w' => e = .returned (.tuple #[.string (lastTo d.cs (j : Int) (blk d.bs j)), .int .i64 0]) ∧ Below w.heap.size w w' := by
  have hm63 : m ≤ 9223372036854775807 := by have := h.hm; omega
  have c1 := fun W => isBlock_any A A' n c m c' l false (j : Int) W
  rw [decide_eq_true ⟨by omega, by omega⟩] at c1
  have H := Lib.hid h; clear h
  refine (callsIn_wide (n := 3)).1 ?_
  refine callsIn_of_wp_marks Try.func53 rfl trivial ?_ rfl
  refine wpIn_wide.2 ?_
  simp only [Try.ntmps53, List.size_toArray, List.length_cons, List.length_nil, Nat.reduceAdd, Nat.reduceSub, Array.replicate_succ, Array.replicate_zero, List.push_toArray, List.append_toArray, List.nil_append, List.cons_append]
  go_wp2
  go_step3
  go_wp2_with fail
  refine (c1 _).mono ?_
  rintro e w5 ⟨rfl, hb5⟩
  have k5 := ((B4.new w (.slice A n c) (.slice A' m c') (.int .i64 l) (.bool false)).alloc (.cells #[.int .i64 (j : Int)] 3)).step hb5
  have i0 : Boxed ((w.alloc (.cells #[.slice A n c, .slice A' m c', .int .i64 l, .bool false] 25)).alloc (.cells #[.int .i64 (j : Int)] 3)) (w.heap.size + 1) 3 (.int .i64 (j : Int)) := by simpa using Boxed.new (w.alloc (.cells #[.slice A n c, .slice A' m c', .int .i64 l, .bool false] 25)) 3 (.int .i64 (j : Int))
  have i5 : Boxed w5 (w.heap.size + 1) 3 (.int .i64 (j : Int)) := (hb5.block (w.heap.size + 1) (by simp)).trans i0
  have hB5 : Below w.heap.size w w5 := (alloc2_below w _ _).trans (hb5.mono (by simp; omega))
  have hz5 : w.heap.size + 1 < w5.heap.size := i5.lt
  have hy5 : w.heap.size < w5.heap.size := by omega
  obtain ⟨b0, o0, rfl, hb0, g0⟩ := (H.out.bs.below hB5).str hj
  generalize hs0 : blk d.bs j = s0 at g0
  have S0 := Lib.hid hs0; clear hs0
  have HB5 := Lib.hid hB5
  have I5 := Lib.hid i5
  have hjn : (j : Int) < (n : Int) := by omega
  obtain ⟨x0, x1, x2, x3, xf⟩ := k5.cells
  have ic := i5.cell
  clear k5 i5 i0 hB5 hb5 c1
  go_wp2_with fail
  go_step3
  go_wp2_with (go_at_call 71; refine ((callsIn_wide (n := 2)).1 (back_in Fence.wide 2 trivial rfl _ _ _ _)).mono ?_; rintro e w' ⟨rfl, rfl⟩)
  refine (wpIn_wide (n := 3)).1 ?_
  have hB0 : Below w.heap.size w ((w5.alloc (.cells #[.string s0] 9)).alloc (.cells #[.slice A' m c'] 23)) := (HB5.out.alloc (by omega) _).alloc (by simp; omega) _
  have bI := (I5.out.alloc (.cells #[.string s0] 9)).alloc (.cells #[.slice A' m c'] 23)
  have bS := (Boxed.new w5 9 (.string s0)).alloc (.cells #[.slice A' m c'] 23)
  have bB := Boxed.new (w5.alloc (.cells #[.string s0] 9)) 23 (.slice A' m c')
  simp only [World.size_alloc] at bB
  have hcr : Reads ((w5.alloc (.cells #[.string s0] 9)).alloc (.cells #[.slice A' m c'] 23)) w.heap.size 2 A' m (encW d.cs) := H.out.cs.below hB0
  refine wpIn_rangeFunc_ownH rfl (by omega) (gf := 88) (lb := #[.pointer (some ⟨w5.heap.size + 1, 0, none⟩)]) rfl trivial (enters_of Try.func88 (by kernel_rfl) rfl)
    (back_stops Fence.wide 2 trivial rfl (by omega) (w5.heap.size + 1) w.heap.size d.cs m c' A' hm63 _ (by simp) (by simp; omega) bB.cell hcr) KpB.trans (kpB_put (by simp; omega) (by simp)) (Below.refl _ _) (fun _ => rfl)
    (BackInv d.cs m (j : Int) s0 (w.heap.size + 1) w5.heap.size w) (BackOut d.cs m (j : Int) w5.heap.size w)
    ?own ?ownx ⟨bI, bS, by simp, by simp, hB0⟩
    (fun t a' W => ∃ B, w5.heap.size + 2 ≤ B ∧ W.heap[B]? = some (.cells #[.int .i64 (wAt d.cs (m - 1 - t.val)), .string (wDat d.cs (m - 1 - t.val))] 53 (0, 0)) ∧ a' = { tmps := #[.agg #[.slice (some ⟨b0, o0, none⟩) n c, .slice A' m c', .int .i64 l, .bool false], .int .i64 (j : Int), .pointer (some ⟨w.heap.size, 0, none⟩), .pointer (some ⟨w.heap.size + 1, 0, none⟩), .string ⟨#[]⟩, .int .i64 0, .pointer (some ⟨w5.heap.size, 0, none⟩), undef, .pointer (some ⟨B, 0, none⟩), .pointer (some ⟨w.heap.size, 3, none⟩), .bool false, .agg #[.slice (some ⟨b0, o0, none⟩) n c, .slice A' m c', .int .i64 l, .bool false], .int .i64 (j : Int), .bool true, .bool false, .pointer (some ⟨w.heap.size, 0, none⟩), .slice (some ⟨b0, o0, none⟩) n c, .int .i64 (j : Int), .pointer (some ⟨b0, o0 + j, none⟩), .string s0, .pointer (some ⟨w.heap.size, 1, none⟩), .slice A' m c', .func (.func 88) #[] #[.pointer (some ⟨w5.heap.size + 1, 0, none⟩)], .int .i64 ((m - 1 - t.val : Nat) : Int), .agg #[.int .i64 (wAt d.cs (m - 1 - t.val)), .string (wDat d.cs (m - 1 - t.val))], undef, undef, undef, undef, undef, undef, undef], defers := [] }) ?ax ?assign ?body ?done ?stop
  case own =>
    rintro pre X Y row ⟨h1, h2, h3, h4, h5⟩ hg hr
    have ne : ∀ k, k ≤ w5.heap.size → some k ≠ row := fun k hk e => by have := (hr _ e.symm).1; simp at this; omega
    exact ⟨h1.kept hg (ne _ (by omega)), h2.kept hg (ne _ (by omega)), Nat.le_trans h3 hg.size, h4, ownFrom_below (β := Unit) (n₀ := w.heap.size) (w₀ := w) (Nat.le_refl _) (by simp; omega) () X Y row h5 hg hr⟩
  case ownx =>
    rintro c pre X Y row ⟨h0, s, h2, h4, h5⟩ hg hr
    have ne : ∀ k, k ≤ w5.heap.size → some k ≠ row := fun k hk e => by have := (hr _ e.symm).1; simp at this; omega
    exact ⟨h0, s, h2.kept hg (ne _ (by omega)), h4, ownFrom_below (β := Unit) (n₀ := w.heap.size) (w₀ := w) (Nat.le_refl _) (by simp; omega) () X Y row h5 hg hr⟩
  case ax =>
    rintro t a' _ X Y row ⟨B, h1, h2, h3⟩ hg hr
    have hlt : B < X.heap.size := (Array.getElem?_eq_some_iff.1 h2).1
    refine ⟨B, h1, (hg.block B hlt fun e => ?_).trans h2, h3⟩
    obtain ⟨_, o, ho, hoc⟩ := hr B e.symm
    rw [h2] at ho
    injection ho with ho
    rw [← ho] at hoc
    cases hoc
  case assign =>
    rintro l pre t W K ⟨h1, h2, h3, h4, h5⟩ hK
    dsimp only [encsBack]
    gi_wp2
    refine hK _ _ ((KeepsOthers.alloc _ _).from _) ⟨(Below.refl _ _).alloc (by omega) _, Below.heap_alloc _ _ _ (by omega)⟩ ⟨h1.alloc _, h2.alloc _, by simp; omega, h4, h5.alloc (by omega) _⟩ ⟨W.heap.size, h3, heap_alloc_new W _, rfl⟩
  case body =>
    rintro l pre t a' W hl _ ⟨hI, hS, hz, hg, hB⟩ ⟨B, hBB, hBh, rfl⟩ hlt
    have v0 : W.cell? ⟨B, 0, none⟩ = some (.int .i64 (wAt d.cs (m - 1 - t.val))) := by simp [World.cell?, hBh]
    have v1 : W.cell? ⟨B, 1, none⟩ = some (.string (wDat d.cs (m - 1 - t.val))) := by simp [World.cell?, hBh]
    have ic2 := hI.cell
    have cS := hS.cell
    have fS := hS.frozen
    clear hB0 bI bS bB hcr x0 x1 x2 x3 xf ic hBh g0
    by_cases hx : wAt d.cs (m - 1 - t.val) = (j : Int)
    · have hF : Hid (Found d.cs m (j : Int) (pre ++ [t]) (wDat d.cs (m - 1 - t.val))) := Lib.hid ⟨pre, t, rfl, hg, hx, rfl⟩
      have ht : (wAt d.cs (m - 1 - t.val) == (j : Int)) = true := by simpa using hx
      clear hx hg
      generalize wDat d.cs (m - 1 - t.val) = dat at v1 hF ⊢
      generalize wAt d.cs (m - 1 - t.val) = x at v0 ht ⊢
      gi_wp2
      exact ⟨(KeepsOthers.setCell _ _ _).from _, rfl, dat, hS.set _, hF.out, hB.setCell (by simp; omega) _⟩
    · have hG : Hid (∀ y ∈ pre ++ [t], wAt d.cs (m - 1 - y.val) ≠ (j : Int)) := Lib.hid (by
        intro y hy
        rcases List.mem_append.1 hy with hy | hy
        · exact hg y hy
        · obtain rfl : y = t := by simpa using hy
          exact hx)
      have ht : (wAt d.cs (m - 1 - t.val) == (j : Int)) = false := by rw [beq_eq_false_iff_ne]; exact hx
      clear hx hg
      generalize wDat d.cs (m - 1 - t.val) = dat at v1 ⊢
      generalize wAt d.cs (m - 1 - t.val) = x at v0 ht ⊢
      gi_wp2
      exact ⟨KeepsFrom.refl _ _, KpB.refl _, hI, hS, hz, hG.out, hB⟩
  case done =>
    rintro D ys W hD rfl ⟨hI, hS, hz, hg, hB⟩ hK
    have cS := hS.cell
    clear hB0 bI bS bB
    have R := Lib.hid (back_none (s := s0) H.out.cs.lenW hg)
    go_wp2
    rw [Exit.noGoto_ret]
    refine ⟨by simp, .inl ⟨_, _, rfl, run_takeDeferred (show W.heap[D]? = some (.deferred (some [])) from hK), ?_⟩⟩
    refine ⟨_, results_tmp2 rfl _ _ _, ?_, hB.trans (belowK_b (w := w) (Nat.le_refl _) W D _ _ (by simp at hD; omega) hK rfl rfl)⟩
    rw [S0.out, R.out]
    rfl
  case stop =>
    rintro D c pre W hD ⟨k, hk, rfl⟩ ⟨rfl, s, hS, hl, hB⟩ hK
    have cS := hS.cell
    clear hB0 bI bS bB
    refine wpIn_wide.2 (wp_exit ?_)
    have R := Lib.hid (back_found (s0 := s0) H.out.cs.lenW hk hl)
    go_wp2
    rw [Exit.noGoto_ret]
    refine ⟨by simp, .inl ⟨_, _, rfl, run_takeDeferred (show W.heap[D]? = some (.deferred (some [])) from hK), ?_⟩⟩
    refine ⟨_, results_tmp2 rfl _ _ _, ?_, hB.trans (belowK_b (w := w) (Nat.le_refl _) W D _ _ (by simp at hD; omega) hK rfl rfl)⟩
    rw [S0.out, R.out]
    rfl

theorem blk_readD {d : D} {j : Nat} : d.bs.getD ((j : Int).toNat) ⟨#[]⟩ = blk d.bs j := rfl

theorem read_any (A A' : Option Addr) (n c m c' : Nat) (d : D) (i : Int) (w : World) (h : Dv w w.heap.size A n A' m d) :
    Calls Try.prog 53 #[.agg #[.slice A n c, .slice A' m c', .int .i64 d.left, .bool d.dead], .int .i64 i] w fun e w' => e = .returned (.tuple #[.string (readD d i).1, .int .i64 (readD d i).2]) ∧ Below w.heap.size w w' := by
  have hat := at_n h.bs.lenS i
  obtain ⟨bs, cs, l, b⟩ := d
  dsimp only at hat ⊢
  cases b
  case true => exact read_dead A A' n c m c' l i w
  by_cases hi : 0 ≤ i ∧ i < (n : Int)
  case neg =>
    have e : readD ⟨bs, cs, l, false⟩ i = (⟨#[]⟩, 15) := by
      unfold readD
      rw [if_neg Bool.false_ne_true, if_neg (fun hh => hi (hat.1 hh))]
    rw [e]
    exact read_place A A' n c m c' l i w hi
  obtain ⟨j, rfl⟩ : ∃ j : Nat, i = j := ⟨i.toNat, by omega⟩
  have e : readD ⟨bs, cs, l, false⟩ (j : Int) = (lastTo cs (j : Int) (blk bs j), 0) := by
    unfold readD
    rw [if_neg Bool.false_ne_true, if_pos (hat.2 hi)]
    rfl
  rw [e]
  exact read_yes A A' n c m c' ⟨bs, cs, l, false⟩ l j w h (by omega)

theorem refRead_any (A A' : Option Addr) (n c m c' : Nat) (d : D) (i : Int) (w : World) (h : Dv w w.heap.size A n A' m d) :
    Calls Try.prog 35 #[.agg #[.slice A n c, .slice A' m c', .int .i64 d.left, .bool d.dead], .int .i64 i] w fun e w' => e = .returned (.tuple #[.string (readD d i).1, .int .i64 (readD d i).2]) ∧ Below w.heap.size w w' := by
  have hat := at_n h.bs.lenS i
  obtain ⟨bs, cs, l, b⟩ := d
  dsimp only at hat ⊢
  cases b
  case true => exact refRead_dead A A' n c m c' l i w
  by_cases hi : 0 ≤ i ∧ i < (n : Int)
  case neg =>
    have e : readD ⟨bs, cs, l, false⟩ i = (⟨#[]⟩, 15) := by
      unfold readD
      rw [if_neg Bool.false_ne_true, if_neg (fun hh => hi (hat.1 hh))]
    rw [e]
    exact refRead_place A A' n c m c' l i w hi
  obtain ⟨j, rfl⟩ : ∃ j : Nat, i = j := ⟨i.toNat, by omega⟩
  have e : readD ⟨bs, cs, l, false⟩ (j : Int) = (lastTo cs (j : Int) (blk bs j), 0) := by
    unfold readD
    rw [if_neg Bool.false_ne_true, if_pos (hat.2 hi)]
    rfl
  rw [e]
  exact refRead_yes A A' n c m c' ⟨bs, cs, l, false⟩ l j w h (by omega)

end Go.Proofs.Ytlpijikhbjkmfaa

/-
  A region that draws its order, in which loads stand beside calls and the cells that they load are stored at its end: a condition on the world that has to hold only till a given operation is carried out.
-/
namespace Go.Proofs.Ytlpijikhbjkmfaa

section
variable {P : Program} {ops : Array Oper} {Q : Exit → Act → World → Prop} {md : Region.Mode} {S : World → Prop} {k : Nat}

/-- Each waits for the next one. -/
def waitsPath (md : Region.Mode) (ops : Array Oper) : List Nat → Bool
  | x :: y :: t => Region.waitsFor md ops x y && waitsPath md ops (y :: t)
  | _ => true
/-- What a carried out operation waits for is carried out. -/
def Closed (md : Region.Mode) (ops : Array Oper) (listed : Array Bool) : Prop :=
  ∀ j oj, ops[j]? = some oj → listed.getD j false = true → ∀ e ∈ oj.after, Region.binds md e = true → listed.getD e.on false = true
theorem closed_none (n : Nat) : Closed md ops (Array.replicate n false) := fun j oj _ hl => by rw [getD_replicate_false] at hl; cases hl
theorem closed_set {j : Nat} {listed : Array Bool} (h : Closed md ops listed) (hj : j ∈ Region.ready md ops listed) : Closed md ops (listed.setIfInBounds j true) := by
  obtain ⟨_, oj, hoj, hall⟩ := mem_ready.1 hj
  intro i oi hi hl e he hb
  by_cases hij : j = i
  · subst hij
    obtain rfl : oj = oi := Option.some.inj (hoj.symm.trans hi)
    exact getD_set_true (hall e he hb)
  · rw [getD_set_ne false hij] at hl
    exact getD_set_true (h i oi hi hl e he hb)
theorem path_last {listed : Array Bool} (hc : Closed md ops listed) : ∀ (p : List Nat) (x i : Nat), waitsPath md ops (x :: p) = true →
    (∀ ox, ops[x]? = some ox → ∀ e ∈ ox.after, Region.binds md e = true → listed.getD e.on false = true) → (x :: p).getLast? = some i → p ≠ [] → listed.getD i false = true
  | [], _, _, _, _, _, hne => absurd rfl hne
  | y :: t, x, i, hp, hx, hl, _ => by
    simp only [waitsPath, Bool.and_eq_true] at hp
    obtain ⟨ox, hox, e, he, hb, hon⟩ := Region.waitsFor_spec hp.1
    have hy := hx ox hox e he hb
    rw [hon] at hy
    rcases t with _ | ⟨z, t⟩
    · simp at hl
      rw [← hl]; exact hy
    · exact path_last hc (z :: t) y i hp.2 (fun oy hoy => hc y oy hoy hy) (by simpa using hl) (by simp)
theorem not_yet {listed : Array Bool} (hc : Closed md ops listed) {p : List Nat} {i : Nat} (hp : waitsPath md ops (k :: p) = true) (hl : (k :: p).getLast? = some i) (hne : p ≠ []) (hi : listed.getD i true = false) : k ∉ Region.ready md ops listed := by
  intro hr
  obtain ⟨_, ok, hok, hall⟩ := mem_ready.1 hr
  have := path_last hc p k i hp (fun ox hox => by rw [hok] at hox; injection hox with hox; subst hox; exact hall) hl hne
  rw [getD_both hi] at this
  cases this

/-- Whatever order is picked from here on; S holds behind each operation, till k is carried out. -/
def wpTill (P : Program) (md : Region.Mode) (ops : Array Oper) (Q : Exit → Act → World → Prop) (S : World → Prop) (k : Nat) : Nat → Array Bool → Act → World → Prop
  | 0, listed, a, w => Region.ready md ops listed = [] ∧ Q .normal a w
  | f + 1, listed, a, w => (Region.ready md ops listed = [] → Q .normal a w) ∧
    ∀ i ∈ Region.ready md ops listed, wpOp P ops Q i (fun a' w' => (i ≠ k → listed.getD k true = false → S w') ∧ wpTill P md ops Q S k f (listed.setIfInBounds i true) a' w') a w
theorem wpAny_of_till : ∀ (f : Nat) (listed : Array Bool) (a : Act) (w : World), wpTill P md ops Q S k f listed a w → wpAny P md ops Q f listed a w
  | 0, _, _, _, h => h
  | f + 1, _, _, _, h => ⟨h.1, fun i hi => wpOp_mono (fun a' w' h' => wpAny_of_till f _ a' w' h'.2) (h.2 i hi)⟩
theorem till_first {i : Nat} {oi : Oper} {v : Value} {p : List Nat} (hi : ops[i]? = some oi) (hsel : ∀ (j : Nat) (o : Oper) cs b, ops[j]? = some o → o.op ≠ .select cs b)
    (hQ : ∀ c a w, Q (.panic c) (a.put oi.dst v) w → Q (.panic c) a w) (hik : i ≠ k) (hp : waitsPath md ops (k :: p) = true) (hpl : (k :: p).getLast? = some i) (hpn : p ≠ []) :
    ∀ (f : Nat) (listed : Array Bool) (a : Act) (w : World), Closed md ops listed → listed.getD k true = false →
      (∀ j oj, ops[j]? = some oj → j ≠ i → listed.getD j true = false → (∀ e ∈ oj.after, Region.binds md e = true → e.on ≠ i) → oi.apart ops oj = true) →
      i ∈ Region.ready md ops listed → YieldsIf P ops S oi v a → S w →
      wpTill P md ops Q S k f (listed.setIfInBounds i true) (a.put oi.dst v) w → wpTill P md ops Q S k (f + 1) listed a w := by
  intro f
  induction f with
  | zero =>
    intro listed a w _ _ _ hr hy hS H
    refine ⟨fun h => (by rw [h] at hr; cases hr), fun j hj => ?_⟩
    by_cases hji : j = i
    · subst hji
      exact hy.wpOp hi hS ⟨fun _ _ => hS, H⟩
    · have := ready_mono hj hji
      rw [H.1] at this
      cases this
  | succ f ih =>
    intro listed a w hc hk hfree hr hy hS H
    have hun := (mem_ready.1 hr).1
    refine ⟨fun h => (by rw [h] at hr; cases hr), fun j hj => ?_⟩
    by_cases hji : j = i
    · subst hji
      exact hy.wpOp hi hS ⟨fun _ _ => hS, H⟩
    have hjk : j ≠ k := fun e => not_yet hc hp hpl hpn hun (e ▸ hj)
    obtain ⟨hjun, oj, hoj, hall⟩ := mem_ready.1 hj
    have hnot : ∀ e ∈ oj.after, Region.binds md e = true → e.on ≠ i := fun e he hb heq => by
      have h1 := hall e he hb
      rw [heq, getD_both hun] at h1
      cases h1
    refine wpOp_mono (fun a' w' h3 => ?_) (wpOp_putIf hoj (hfree j oj hoj hji hjun hnot) (fun cs b => hsel i oi cs b hi) (fun cs b => hsel j oj cs b hoj) hQ hy (H.2 j (ready_mono hj hji)))
    have hS' : S w' := h3.2.1 hjk (by rw [getD_set_ne true hik]; exact hk)
    refine ⟨fun _ _ => hS', ih (listed.setIfInBounds j true) a' w' (closed_set hc hj) (by rw [getD_set_ne true hjk]; exact hk) (fun q oq hq hqi hqun hno => ?_) (ready_mono hr (Ne.symm hji)) h3.1 hS' ?_⟩
    · by_cases hjq : j = q
      · subst hjq
        exact hfree j oq hq hqi hjun hno
      · rw [getD_set_ne true hjq] at hqun
        exact hfree q oq hq hqi hqun hno
    · rw [Array.setIfInBounds_comm _ _ hji]
      exact h3.2.2

/-- The same, where what is carried out is closed. -/
def TillC (P : Program) (md : Region.Mode) (ops : Array Oper) (Q : Exit → Act → World → Prop) (S : World → Prop) (k f : Nat) (listed : Array Bool) (a : Act) (w : World) : Prop :=
  Closed md ops listed → wpTill P md ops Q S k f listed a w
/-- Taken first: what yields its value in every world that meets S. -/
theorem till_take {i : Nat} (oi : Oper) (v : Value) (p : List Nat) {f : Nat} {listed : Array Bool} {a : Act} {w : World} (hi : ops[i]? = some oi) (hs : Region.noSelect ops = true) (hf : Region.free md ops listed i = true)
    (hr : (Region.ready md ops listed).contains i = true) (hp : (waitsPath md ops (k :: p) && decide ((k :: p).getLast? = some i) && !p.isEmpty && decide (i ≠ k) && !listed.getD k true) = true)
    (hQ : ∀ c a w, Q (.panic c) (a.put oi.dst v) w → Q (.panic c) a w) (hy : YieldsIf P ops S oi v a) (hS : S w)
    (h : TillC P md ops Q S k f (listed.setIfInBounds i true) (a.put oi.dst v) w) : TillC P md ops Q S k (f + 1) listed a w := fun hc => by
  simp only [Bool.and_eq_true, decide_eq_true_eq, Bool.not_eq_true', List.isEmpty_eq_false_iff] at hp
  have hr' : i ∈ Region.ready md ops listed := by simpa using hr
  exact till_first hi (Region.noSelect_spec hs) hQ hp.1.2 hp.1.1.1.1 hp.1.1.1.2 hp.1.1.2 f listed a w hc hp.2 (Region.free_spec hi hf) hr' hy hS (h (closed_set hc hr'))
/-- One alone comes up. -/
theorem till_one {i : Nat} (o : Oper) {f : Nat} {listed : Array Bool} {a : Act} {w : World} (hr : Region.ready md ops listed = [i]) (ho : ops[i]? = some o) (hg : o.guard = none)
    (h : ∀ K : Act → World → Prop, Shut (∀ a' w', (i ≠ k → listed.getD k true = false → S w') → TillC P md ops Q S k f (listed.setIfInBounds i true) a' w' → K a' w') → Oper.wp P o a w K Q) : TillC P md ops Q S k (f + 1) listed a w := fun hc => by
  refine ⟨fun h0 => (by rw [hr] at h0; cases h0), fun j hj => ?_⟩
  have hj' := hj
  rw [hr] at hj'
  obtain rfl : j = i := by simpa using hj'
  unfold wpOp
  simp only [ho]
  have hw : Region.wanted o (yielded ops a.tmps) = true := by simp [Region.wanted, hg]
  rw [if_pos hw]
  exact .inl (h _ fun a' w' hS hT => ⟨hS, hT (closed_set hc hj)⟩)
theorem till_done {f : Nat} {listed : Array Bool} {a : Act} {w : World} (hr : Region.ready md ops listed = []) (h : Q .normal a w) : TillC P md ops Q S k f listed a w := fun _ => by
  cases f with
  | zero => exact ⟨hr, h⟩
  | succ f => exact ⟨fun _ => h, by rw [hr]; simp⟩
theorem wp_region_till (S : World → Prop) (k n : Nat) {id : Nat} {a : Act} {w : World} (hm : P.follows .mixedOrders = true) (hn : ops.size = n)
    (h : TillC P .any ops Q S k n (Array.replicate n false) a w.drew) : (Code.region id ops true).wp P Q a w := by
  subst hn
  exact wp_region_any hm (wpAny_of_till _ _ _ _ (h (closed_none _)))
end

end Go.Proofs.Ytlpijikhbjkmfaa

/-
  A region that draws its order, inside a round of a range over a function: what is shown outside holds there.
-/
namespace Go.Proofs.Ytlpijikhbjkmfaa
open Go.RowKit

section
variable {P : Program} {ops : Array Oper} {Q : Exit → Act → World → Prop} {md : Region.Mode} {l n : Nat}

theorem rows_in {row : String} {args : Array Value} {w : World} {R : Value → World → Prop} (h : Rows P row args w R) : RowsIn (Fence.wide.inRound l) n P row args w R := fun c cs _ =>
  let ⟨v, w', r, s⟩ := h c cs; ⟨v, w', r, stepsIn_wide.2 s⟩
theorem op_round {o : Oper} {a : Act} {w : World} {K : Act → World → Prop} (hd : ∀ c, o.op ≠ .defer c) (h : Oper.wp P o a w K Q) : Oper.wpIn (Fence.wide.inRound l) n P o a w K Q := by
  refine ⟨fun _ _ => trivial, ?_⟩
  rw [Oper.semAt_eq _ _ _ hd]
  unfold Oper.wp at h
  generalize (execOp a.eval o).run P w = r at h ⊢
  cases r with
  | ok x w' =>
    cases x with
    | value v => exact h
    | skip => exact h
    | defer d => exact h
    | enter f args => exact ⟨fun hh => (by cases hh), CallsIn.inRound l (callsIn_wide.2 (Calls.mono h fun e w'' he => (by cases e <;> exact he)))⟩
    | row r args => exact ⟨fun hh => (by cases hh), rows_in h⟩
    | _ => exact h.elim
  | halt x w' => cases x <;> exact h

/-- No operation of the region puts off a call. -/
def noDefer (ops : Array Oper) : Bool := ops.all fun o => match o.op with
  | .defer _ => false
  | _ => true
theorem noDefer_spec (h : noDefer ops = true) {i : Nat} {o : Oper} (ho : ops[i]? = some o) : ∀ c, o.op ≠ .defer c := fun c e => by
  unfold noDefer at h
  rw [Array.all_eq_true] at h
  obtain ⟨hi, e2⟩ := Array.getElem?_eq_some_iff.1 ho
  have := h i hi
  rw [e2, e] at this
  cases this
theorem any_round (hd : noDefer ops = true) (hQ : ¬ LetsOut Q) : ∀ (f : Nat) (listed : Array Bool) (a : Act) (w : World), wpAny P md ops Q f listed a w → wpAnyIn (Fence.wide.inRound l) n P md ops Q f listed a w
  | 0, _, _, _, h => h
  | f + 1, listed, a, w, h => ⟨h.1, fun i hi => by
    have h2 := h.2 i hi
    unfold wpOp at h2
    unfold wpOpIn
    cases ho : ops[i]? with
    | none => rw [ho] at h2; exact any_round hd hQ f _ a w h2
    | some o =>
      rw [ho] at h2
      dsimp only at h2 ⊢
      by_cases hw : Region.wanted o (yielded ops a.tmps) = true
      · rw [if_pos hw] at h2 ⊢
        rcases h2 with h2 | h2
        · exact Oper.wpIn_mono (fun a' w' => any_round hd hQ f _ a' w') (op_round (noDefer_spec hd ho) h2)
        · exact absurd h2.2 hQ
      · rw [if_neg hw] at h2 ⊢
        exact ⟨fun _ _ => trivial, any_round hd hQ f _ _ w h2⟩⟩
theorem wpIn_region_till (S : World → Prop) (k q : Nat) {id : Nat} {a : Act} {w : World} (hm : P.follows .mixedOrders = true) (hd : noDefer ops = true) (hQ : ¬ LetsOut Q) (hn : ops.size = q)
    (h : TillC P .any ops Q S k q (Array.replicate q false) a w.drew) : (Code.region id ops true).wpIn (Fence.wide.inRound l) n P Q a w := by
  subst hn
  exact wpIn_region_any hm (any_round hd hQ _ _ _ _ (wpAny_of_till _ _ _ _ (h (closed_none _))))
end

/-- append as one operation of a region. -/
theorem op_append_reads {P : Program} (w : World) {o : Oper} {a : Act} {K : Act → World → Prop} {Q : Exit → Act → World → Prop} (s x : Operand) (t : TypeId)
    (ho : o.op = .call { callee := .builtin .append, args := #[s, x], argTypes := #[t, t] })
    (base : Nat) (e : TypeId) (i : TypeInfo) (z : Value) (size bytes : Nat) (ht : P.underlying t = some (.slice e)) (hi : P.info? e = some i) (hz : i.zero = some z)
    (hsize : i.size = size) (hby : i.bytes = bytes) (hzs : z.cells.size = size) (hsz : 0 < size) (v : Value) (n : Nat) (xs : List Value) (hs : a.eval s = v) (hown : w.ownsRow base e size v n xs)
    (B : Nat) (A : Option Addr) (m c : Nat) (news : List Value) (hx : a.eval x = .slice A m c) (hr : Reads w B size A m news) (h1 : ∀ u ∈ news, u.oneCell' = true) (h63 : n + m ≤ maxLen) (hbytes : (n + m) * bytes ≤ 140737488355328) (hbase : base ≤ w.heap.size)
    (h : ∀ A2 c2 w', w'.ownsRow base e size (.slice A2 (n + m) c2) (n + m) (xs ++ news) → w.grownBy w' v.ownBlock → ((Value.slice A2 (n + m) c2).ownBlock = v.ownBlock ∨ (Value.slice A2 (n + m) c2).ownBlock = some w.heap.size) → K (a.put o.dst (.slice A2 (n + m) c2)) w') :
    Oper.wp P o a w K Q := by
  obtain ⟨A2, c2, w', hrun, h2, h3, h4⟩ := run_append_reads (P := P) w base t o.type e i z size bytes ht hi hz hsize hby hzs hsz v n xs hown B A m c news hr h1 h63 hbytes hbase
  unfold Oper.wp execOp
  simp only [ho, resolve, invoke, builtin, Sem.run_bind, Sem.run_pure, Result.andThen_ok, List.map_toArray, List.map_cons, List.map_nil, hs, hx, hrun]
  exact h A2 c2 w' h2 h3 h4

end Go.Proofs.Ytlpijikhbjkmfaa
