/-
  The program's Read: its iterator backwards over the cache, left by a label at the first write that counts: for every device that memory can hold, every place.
-/
import Derived.RangeFuncNested
import Derived.RangeFuncBound
import Derived.RangeFuncCalls
import Derived.RangeFuncLeaves
import Derived.RangeFuncBox
import Derived.Shelf.Abstract
import Derived.Shelf.RegionOpen
import Derived.OwnWalkIn
import Derived.TacticsInMore
import Derived.RegionIn
import Derived.LoopNIn
import Derived.LoopIn
import Derived.Test.YtmkhffopmohdhaaDevRefRead
namespace Go.Proofs.Ytmkhffopmohdhaa
open Go.RowKit Go.Shelf
attribute [local go_sem] Oper.semAt_some

/-- The first k of m. -/
def upN (m k : Nat) : List (Fin m) := (List.finRange m).take k
theorem upN_succ (m k : Nat) (h : k < m) : upN m (k + 1) = upN m k ++ [⟨k, h⟩] := by
  unfold upN
  rw [List.take_succ_eq_append_getElem (by simpa using h)]; simp
theorem upN_length (m k : Nat) (h : k ≤ m) : (upN m k).length = k := by simp [upN]; omega
theorem mem_upN {m : Nat} : ∀ (k : Nat), k ≤ m → ∀ (i : Nat) (h : i < m), i < k → (⟨i, h⟩ : Fin m) ∈ upN m k
  | 0, _, _, _, hi => by omega
  | k + 1, hk, i, h, hi => by
    rw [upN_succ m k (by omega)]
    rcases Nat.lt_or_ge i k with h1 | h1
    · exact List.mem_append_left _ (mem_upN k (by omega) i h h1)
    · obtain rfl : i = k := by omega
      simp
theorem split_upN {m k : Nat} {pre0 : List (Fin m)} {i : Fin m} (hk : k ≤ m) (h : upN m k = pre0 ++ [i]) : k = i.val + 1 ∧ pre0 = upN m i.val := by
  cases k with
  | zero => have := congrArg List.length h; simp [upN] at this
  | succ j =>
    rw [upN_succ m j (by omega)] at h
    obtain ⟨h1, h2⟩ := List.append_inj' h rfl
    have : (⟨j, by omega⟩ : Fin m) = i := by simpa using h2
    subst this
    exact ⟨rfl, h1.symm⟩

/-- What is handed out as the t-th: the place counted from the end, and the write there. -/
abbrev encsBack (cs : List (Int × ByteArray)) (m : Nat) (t : Fin m) : Array Value := #[.int .i64 ((m - 1 - t.val : Nat) : Int), .agg #[.int .i64 (wAt cs (m - 1 - t.val)), .string (wDat cs (m - 1 - t.val))]]
/-- What a round keeps: what lay below n₀, and the iterator's box. -/
structure KpB (n₀ Bs : Nat) (A B : World) : Prop where
  below : Below n₀ A B
  bs : B.heap[Bs]? = A.heap[Bs]?
theorem KpB.trans {n₀ Bs : Nat} {A B C : World} (h : KpB n₀ Bs A B) (k : KpB n₀ Bs B C) : KpB n₀ Bs A C := ⟨h.below.trans k.below, k.bs.trans h.bs⟩
theorem KpB.refl {n₀ Bs : Nat} (A : World) : KpB n₀ Bs A A := ⟨Below.refl _ _, rfl⟩
theorem putB_below {n₀ z l : Nat} (hn : n₀ ≤ z) (hl : z ≤ l) (W : World) (o o' : Obj) (ho : W.heap[l]? = some o) : Below n₀ W (W.putObj l o') :=
  (Below.refl n₀ W).grown (grownBy_putObj' W l o') (by have := (Array.getElem?_eq_some_iff.1 ho).1; omega) fun j ej => by cases ej; omega
theorem kpB_put {n₀ Bs z : Nat} (hn : n₀ ≤ z) (hs : Bs < z) (W : World) (l : Nat) (o o' : Obj) (hl : z ≤ l) (ho : W.heap[l]? = some o) (_hc : o.isCells = false) (_hw : o.isWalk = false) : KpB n₀ Bs W (W.putObj l o') :=
  ⟨(Below.refl n₀ W).trans (putB_below hn hl W o o' ho), World.putObj_heap_other (by omega)⟩

set_option maxRecDepth 100000 in
set_option maxHeartbeats 1000000 in
theorem back1_in (F : Fence) (n : Nat) (h6 : F.fn 47) (hro : F.round = none) (hn : 1 ≤ n) (l Bs n₀ : Nat) (cs : List (Int × ByteArray)) (m c' : Nat) (A' : Option Addr) (hm : m ≤ 9223372036854775807) (J Jx : List (Fin m) → World → Prop)
    (hY : ∀ (pre : List (Fin m)) (t : Fin m) (W : World), J pre W → pre.length < m → YieldAt F (n - 1) Try.prog l (encsBack cs m t) W fun e W' =>
      (e = .returned (.bool true) ∧ J (pre ++ [t]) W' ∧ KpB n₀ Bs W W') ∨ (e = .returned (.bool false) ∧ Jx (pre ++ [t]) W'))
    (W : World) (hBs : W.cell? ⟨Bs, 0, none⟩ = some (.slice A' m c')) (hcs : Reads W n₀ 2 A' m (encW cs)) (h0 : J [] W) :
    CallsIn F n Try.prog 47 #[.func (.yield l) #[] #[], .pointer (some ⟨Bs, 0, none⟩)] W fun e W' => (∃ v, e = .returned v) ∧
      ((∃ ys, ys = upN m m ∧ J ys W') ∨ (∃ pre, (∃ k, k ≤ m ∧ pre = upN m k) ∧ Jx pre W')) := by
  refine callsIn_of_wp Try.func47 rfl h6 ?_ hro
  simp only [Try.ntmps47, List.size_toArray, List.length_cons, List.length_nil, Nat.reduceAdd, Nat.reduceSub, Array.replicate_succ, Array.replicate_zero, List.push_toArray, List.append_toArray, List.nil_append, List.cons_append]
  gi_wp2
  gi_loopw [3] (fun p wr => ∃ k : Nat, p = .int .i64 ((m : Int) - 1 - (k : Int)) ∧ k ≤ m ∧ J (upN m k) wr ∧ wr.cell? ⟨Bs, 0, none⟩ = some (.slice A' m c') ∧ Reads wr n₀ 2 A' m (encW cs)) (fun p _ => (intOf p + 1).toNat)
  case atStart => exact ⟨0, by simp, by omega, by simpa [upN] using h0, hBs, hcs⟩
  case round =>
    obtain ⟨k, rfl, hk, hJ, hcb, hR⟩ := hrel
    by_cases h : k < m
    · obtain ⟨q, hq⟩ : ∃ q : Nat, q = m - 1 - k := ⟨_, rfl⟩
      have hqm : q < m := by omega
      obtain ⟨b2, o2, rfl, _, g2, f2⟩ := hR.wr hqm
      obtain ⟨fn, tmps, assign, body, hy, hRR⟩ := hY (upN m k) ⟨k, h⟩ wr hJ (by rw [upN_length m k (by omega)]; exact h)
      dsimp only [encsBack] at hy
      rw [← hq] at hy
      have hpi : (m : Int) - 1 - (k : Int) = (q : Int) := by omega
      rw [hpi]
      have HQ := Lib.hid hq; clear hq hpi
      have HR := Lib.hid hR; clear hR
      generalize wAt cs q = x at g2 hy
      generalize wDat cs q = s at f2 hy
      have hq0 : (0 : Int) ≤ (q : Int) := by omega
      have hqi : (q : Int) < (m : Int) := by omega
      gi_wp2
      refine hRR.mono ?_
      rintro e W3 (⟨rfl, hJ3, hk3⟩ | ⟨rfl, hJx3⟩)
      · have hcb3 := (World.cell?_of_block hk3.bs).trans hcb
        have HJ := Lib.hid hJ3; clear hJ3
        have HR3 := Lib.hid (HR.out.below hk3.below)
        gi_wp2
        go_roundw
        case rel => exact ⟨k + 1, congrArg (Value.int .i64) (by have := HQ.out; omega), by omega, by rw [upN_succ m k h]; exact HJ.out, hcb3, HR3.out⟩
        case measure => simp [intOf]
      · gi_wp2
        refine bodyPost_ret (results_none rfl _ _ _) rfl ?_
        exact ⟨⟨_, rfl⟩, .inr ⟨_, ⟨k + 1, by omega, (upN_succ m k h).symm⟩, hJx3⟩⟩
    · have hmk : k = m := by omega
      subst hmk
      have hpi : (k : Int) - 1 - (k : Int) = -1 := by omega
      rw [hpi]
      gi_wp2
      go_end0
      exact ⟨⟨_, rfl⟩, .inl ⟨_, rfl, hJ⟩⟩

set_option maxHeartbeats 1000000 in
theorem back_in (F : Fence) (n : Nat) (h5 : F.fn 38) (hro : F.round = none) (A' : Option Addr) (m c' : Nat) (w : World) :
    CallsIn F n Try.prog 38 #[.slice A' m c'] w fun e w' => e = .returned (.func (.func 47) #[] #[.pointer (some ⟨w.heap.size, 0, none⟩)]) ∧ w' = w.alloc (.cells #[.slice A' m c'] 24) := by
  refine callsIn_of_wp Try.func38 rfl h5 ?_ hro
  simp only [Try.ntmps38, List.size_toArray, List.length_cons, List.length_nil, Nat.reduceAdd, Nat.reduceSub, Array.replicate_succ, Array.replicate_zero, List.push_toArray, List.append_toArray, List.nil_append, List.cons_append]
  gi_wp2
  go_ret
  exact ⟨rfl, rfl⟩

theorem back_stops (F : Fence) (n : Nat) (h6 : F.fn 47) (hro : F.round = none) (hn : 1 ≤ n) (Bs n₀ : Nat) (cs : List (Int × ByteArray)) (m c' : Nat) (A' : Option Addr) (hm : m ≤ 9223372036854775807) (w : World) (hBs : Bs < w.heap.size) (hn₀ : n₀ ≤ w.heap.size)
    (hcb : w.cell? ⟨Bs, 0, none⟩ = some (.slice A' m c')) (hcs : Reads w n₀ 2 A' m (encW cs)) :
    SeqStopsK F n Try.prog 47 #[.pointer (some ⟨Bs, 0, none⟩)] (fun t : Fin m => encsBack cs m t) (KpB n₀ Bs) (fun ys => ys = upN m m) (fun pre => ∃ k, k ≤ m ∧ pre = upN m k) m w := fun l J Jx W hW _ _ hY h0 =>
  back1_in F n h6 hro hn l Bs n₀ cs m c' A' hm J Jx hY W ((hW.cell (p := ⟨Bs, 0, none⟩) hBs).trans hcb) (hcs.below (hW.mono hn₀)) h0

set_option maxRecDepth 100000 in
set_option maxHeartbeats 2000000 in
theorem read_dead (A A' : Option Addr) (n c m c' : Nat) (l : Int) (i : Int) (w : World) :
    Calls Try.prog 22 #[.agg #[.slice A n c, .slice A' m c', .int .i64 l, .bool true], .int .i64 i] w fun e w' => e = .returned (.tuple #[.string ⟨#[]⟩, .int .i64 17]) ∧ Below w.heap.size w w' := by
  go_enter Try.func22, Try.ntmps22
  go_wp2
  go_step3
  go_wp2
  rw [Exit.noGoto_ret]
  go_ret2
  exact ⟨rfl, alloc2_below _ _ _⟩

set_option maxRecDepth 100000 in
set_option maxHeartbeats 2000000 in
theorem read_place (A A' : Option Addr) (n c m c' : Nat) (l : Int) (i : Int) (w : World) (h : ¬ (0 ≤ i ∧ i < (n : Int))) :
    Calls Try.prog 22 #[.agg #[.slice A n c, .slice A' m c', .int .i64 l, .bool false], .int .i64 i] w fun e w' => e = .returned (.tuple #[.string ⟨#[]⟩, .int .i64 15]) ∧ Below w.heap.size w w' := by
  have c1 := fun W => isBlock_any A A' n c m c' l false i W
  rw [decide_eq_false h] at c1
  clear h
  go_enter Try.func22, Try.ntmps22
  go_wp2
  go_step3
  go_wp2_with (go_at_call 37; refine (c1 _).mono ?_; rintro e w1 ⟨rfl, hb1⟩)
  rw [Exit.noGoto_ret]
  go_ret2
  exact ⟨rfl, (alloc2_below _ _ _).trans (hb1.mono (by simp; omega))⟩

/-- Between two rounds. -/
def BackInv (cs : List (Int × ByteArray)) (m : Nat) (i : Int) (s0 : ByteArray) (Ib Sb : Nat) (w : World) (pre : List (Fin m)) (W : World) : Prop :=
  Boxed W Ib 3 (.int .i64 i) ∧ Boxed W Sb 9 (.string s0) ∧ Sb + 2 ≤ W.heap.size ∧ (∀ t ∈ pre, wAt cs (m - 1 - t.val) ≠ i) ∧ Below w.heap.size w W
/-- Which write was found. -/
def Found (cs : List (Int × ByteArray)) (m : Nat) (i : Int) (pre : List (Fin m)) (s : ByteArray) : Prop :=
  ∃ pre0 t, pre = pre0 ++ [t] ∧ (∀ y ∈ pre0, wAt cs (m - 1 - y.val) ≠ i) ∧ wAt cs (m - 1 - t.val) = i ∧ wDat cs (m - 1 - t.val) = s
/-- Behind the round that leaves. -/
def BackOut (cs : List (Int × ByteArray)) (m : Nat) (i : Int) (Sb : Nat) (w : World) (c : Code) (pre : List (Fin m)) (W : World) : Prop :=
  c = .exit 0 ∧ ∃ s, Boxed W Sb 9 (.string s) ∧ Found cs m i pre s ∧ Below w.heap.size w W

theorem back_none {cs : List (Int × ByteArray)} {m : Nat} {i : Int} {s : ByteArray} (hl : cs.length = m) (h : ∀ t ∈ upN m m, wAt cs (m - 1 - t.val) ≠ i) : lastTo cs i s = s := by
  refine lastTo_none cs i s fun p hp => ?_
  obtain ⟨q, hq, e⟩ := List.mem_iff_getElem.1 hp
  have h1 := wr_get (cs := cs) (k := q) hq
  rw [List.getElem?_eq_getElem hq, e] at h1
  injection h1 with h1
  rw [h1]
  have h2 := h ⟨m - 1 - q, by omega⟩ (mem_upN m (Nat.le_refl _) (m - 1 - q) (by omega) (by omega))
  rw [show m - 1 - (m - 1 - q) = q by omega] at h2
  exact h2
theorem back_found {cs : List (Int × ByteArray)} {m k : Nat} {i : Int} {s s0 : ByteArray} (hl : cs.length = m) (hk : k ≤ m) (h : Found cs m i (upN m k) s) : lastTo cs i s0 = s := by
  obtain ⟨pre0, t, hpre, hne, hat, hs⟩ := h
  obtain ⟨rfl, rfl⟩ := split_upN hk hpre
  have ht := t.isLt
  have hsplit : cs = cs.take (m - 1 - t.val + 1) ++ cs.drop (m - 1 - t.val + 1) := (List.take_append_drop _ _).symm
  rw [hsplit, lastTo_app, lastTo_step (by omega), if_pos hat, hs]
  refine lastTo_none _ i s fun p hp => ?_
  obtain ⟨q, hq, e⟩ := List.mem_iff_getElem.1 hp
  rw [List.length_drop] at hq
  have h1 := wr_get (cs := cs) (k := m - 1 - t.val + 1 + q) (by omega)
  rw [List.getElem_drop] at e
  rw [List.getElem?_eq_getElem (by omega), e] at h1
  injection h1 with h1
  rw [h1]
  have h2 := hne ⟨m - 1 - (m - 1 - t.val + 1 + q), by omega⟩ (mem_upN t.val (by omega) _ (by omega) (by omega))
  rw [show m - 1 - (m - 1 - (m - 1 - t.val + 1 + q)) = m - 1 - t.val + 1 + q by omega] at h2
  exact h2

set_option maxRecDepth 100000 in
set_option maxHeartbeats 4000000 in
theorem read_yes (A A' : Option Addr) (n c m c' : Nat) (d : D) (l : Int) (j : Nat) (w : World) (h : Dv w w.heap.size A n A' m d) (hj : j < n) :
    Calls Try.prog 22 #[.agg #[.slice A n c, .slice A' m c', .int .i64 l, .bool false], .int .i64 j] w fun e w' => e = .returned (.tuple #[.string (lastTo d.cs (j : Int) (blk d.bs j)), .int .i64 0]) ∧ Below w.heap.size w w' := by
  have hm63 : m ≤ 9223372036854775807 := by have := h.hm; omega
  have c1 := fun W => isBlock_any A A' n c m c' l false (j : Int) W
  rw [decide_eq_true ⟨by omega, by omega⟩] at c1
  have H := Lib.hid h; clear h
  refine (callsIn_wide (n := 3)).1 ?_
  refine callsIn_of_wp_marks Try.func22 rfl trivial ?_ rfl
  refine wpIn_wide.2 ?_
  simp only [Try.ntmps22, List.size_toArray, List.length_cons, List.length_nil, Nat.reduceAdd, Nat.reduceSub, Array.replicate_succ, Array.replicate_zero, List.push_toArray, List.append_toArray, List.nil_append, List.cons_append]
  go_wp2
  go_step3
  go_wp2_with fail
  refine (c1 _).mono ?_
  rintro e w5 ⟨rfl, hb5⟩
  have k5 := ((B4.new w (.slice A n c) (.slice A' m c') (.int .i64 l) (.bool false)).alloc (.cells #[.int .i64 (j : Int)] 3)).step hb5
  have i0 : Boxed ((w.alloc (.cells #[.slice A n c, .slice A' m c', .int .i64 l, .bool false] 26)).alloc (.cells #[.int .i64 (j : Int)] 3)) (w.heap.size + 1) 3 (.int .i64 (j : Int)) := by simpa using Boxed.new (w.alloc (.cells #[.slice A n c, .slice A' m c', .int .i64 l, .bool false] 26)) 3 (.int .i64 (j : Int))
  have i5 : Boxed w5 (w.heap.size + 1) 3 (.int .i64 (j : Int)) := (hb5.block (w.heap.size + 1) (by simp)).trans i0
  have hB5 : Below w.heap.size w w5 := (alloc2_below w _ _).trans (hb5.mono (by simp; omega))
  have hz5 : w.heap.size + 1 < w5.heap.size := i5.lt
  have hy5 : w.heap.size < w5.heap.size := by omega
  obtain ⟨b0, o0, rfl, hb0, g0⟩ := (H.out.bs.below hB5).str hj
  generalize hs0 : blk d.bs j = s0 at g0
  have S0 := Lib.hid hs0; clear hs0
  have HB5 := Lib.hid hB5
  have I5 := Lib.hid i5
  have hjn : (j : Int) < (n : Int) := by omega
  obtain ⟨x0, x1, x2, x3, xf⟩ := k5.cells
  have ic := i5.cell
  clear k5 i5 i0 hB5 hb5 c1
  go_wp2_with fail
  go_step3
  go_wp2_with (go_at_call 38; refine ((callsIn_wide (n := 2)).1 (back_in Fence.wide 2 trivial rfl _ _ _ _)).mono ?_; rintro e w' ⟨rfl, rfl⟩)
  refine (wpIn_wide (n := 3)).1 ?_
  have hB0 : Below w.heap.size w ((w5.alloc (.cells #[.string s0] 9)).alloc (.cells #[.slice A' m c'] 24)) := (HB5.out.alloc (by omega) _).alloc (by simp; omega) _
  have bI := (I5.out.alloc (.cells #[.string s0] 9)).alloc (.cells #[.slice A' m c'] 24)
  have bS := (Boxed.new w5 9 (.string s0)).alloc (.cells #[.slice A' m c'] 24)
  have bB := Boxed.new (w5.alloc (.cells #[.string s0] 9)) 24 (.slice A' m c')
  simp only [World.size_alloc] at bB
  have hcr : Reads ((w5.alloc (.cells #[.string s0] 9)).alloc (.cells #[.slice A' m c'] 24)) w.heap.size 2 A' m (encW d.cs) := H.out.cs.below hB0
  refine wpIn_rangeFunc_ownH rfl (by omega) (gf := 47) (lb := #[.pointer (some ⟨w5.heap.size + 1, 0, none⟩)]) rfl trivial (enters_of Try.func47 (by kernel_rfl) rfl)
    (back_stops Fence.wide 2 trivial rfl (by omega) (w5.heap.size + 1) w.heap.size d.cs m c' A' hm63 _ (by simp) (by simp; omega) bB.cell hcr) KpB.trans (kpB_put (by simp; omega) (by simp)) (Below.refl _ _) (fun _ => rfl)
    (BackInv d.cs m (j : Int) s0 (w.heap.size + 1) w5.heap.size w) (BackOut d.cs m (j : Int) w5.heap.size w)
    ?own ?ownx ⟨bI, bS, by simp, by simp, hB0⟩
    (fun t a' W => ∃ B, w5.heap.size + 2 ≤ B ∧ W.heap[B]? = some (.cells #[.int .i64 (wAt d.cs (m - 1 - t.val)), .string (wDat d.cs (m - 1 - t.val))] 51 (0, 0)) ∧ a' = { tmps := #[.agg #[.slice (some ⟨b0, o0, none⟩) n c, .slice A' m c', .int .i64 l, .bool false], .int .i64 (j : Int), .pointer (some ⟨w.heap.size, 0, none⟩), .pointer (some ⟨w.heap.size + 1, 0, none⟩), .string ⟨#[]⟩, .int .i64 0, .pointer (some ⟨w5.heap.size, 0, none⟩), undef, .pointer (some ⟨B, 0, none⟩), .pointer (some ⟨w.heap.size, 3, none⟩), .bool false, .agg #[.slice (some ⟨b0, o0, none⟩) n c, .slice A' m c', .int .i64 l, .bool false], .int .i64 (j : Int), .bool true, .bool false, .pointer (some ⟨w.heap.size, 0, none⟩), .slice (some ⟨b0, o0, none⟩) n c, .int .i64 (j : Int), .pointer (some ⟨b0, o0 + j, none⟩), .string s0, .pointer (some ⟨w.heap.size, 1, none⟩), .slice A' m c', .func (.func 47) #[] #[.pointer (some ⟨w5.heap.size + 1, 0, none⟩)], .int .i64 ((m - 1 - t.val : Nat) : Int), .agg #[.int .i64 (wAt d.cs (m - 1 - t.val)), .string (wDat d.cs (m - 1 - t.val))], undef, undef, undef, undef, undef, undef, undef], defers := [] }) ?ax ?assign ?body ?done ?stop
  case own =>
    rintro pre X Y row ⟨h1, h2, h3, h4, h5⟩ hg hr
    have ne : ∀ k, k ≤ w5.heap.size → some k ≠ row := fun k hk e => by have := (hr _ e.symm).1; simp at this; omega
    exact ⟨h1.kept hg (ne _ (by omega)), h2.kept hg (ne _ (by omega)), Nat.le_trans h3 hg.size, h4, ownFrom_below (β := Unit) (n₀ := w.heap.size) (w₀ := w) (Nat.le_refl _) (by simp; omega) () X Y row h5 hg hr⟩
  case ownx =>
    rintro c pre X Y row ⟨h0, s, h2, h4, h5⟩ hg hr
    have ne : ∀ k, k ≤ w5.heap.size → some k ≠ row := fun k hk e => by have := (hr _ e.symm).1; simp at this; omega
    exact ⟨h0, s, h2.kept hg (ne _ (by omega)), h4, ownFrom_below (β := Unit) (n₀ := w.heap.size) (w₀ := w) (Nat.le_refl _) (by simp; omega) () X Y row h5 hg hr⟩
  case ax =>
    rintro t a' _ X Y row ⟨B, h1, h2, h3⟩ hg hr
    have hlt : B < X.heap.size := (Array.getElem?_eq_some_iff.1 h2).1
    refine ⟨B, h1, (hg.block B hlt fun e => ?_).trans h2, h3⟩
    obtain ⟨_, o, ho, hoc⟩ := hr B e.symm
    rw [h2] at ho
    injection ho with ho
    rw [← ho] at hoc
    cases hoc
  case assign =>
    rintro l pre t W K ⟨h1, h2, h3, h4, h5⟩ hK
    dsimp only [encsBack]
    gi_wp2
    refine hK _ _ ((KeepsOthers.alloc _ _).from _) ⟨(Below.refl _ _).alloc (by omega) _, Below.heap_alloc _ _ _ (by omega)⟩ ⟨h1.alloc _, h2.alloc _, by simp; omega, h4, h5.alloc (by omega) _⟩ ⟨W.heap.size, h3, heap_alloc_new W _, rfl⟩
  case body =>
    rintro l pre t a' W hl _ ⟨hI, hS, hz, hg, hB⟩ ⟨B, hBB, hBh, rfl⟩ hlt
    have v0 : W.cell? ⟨B, 0, none⟩ = some (.int .i64 (wAt d.cs (m - 1 - t.val))) := by simp [World.cell?, hBh]
    have v1 : W.cell? ⟨B, 1, none⟩ = some (.string (wDat d.cs (m - 1 - t.val))) := by simp [World.cell?, hBh]
    have ic2 := hI.cell
    have cS := hS.cell
    have fS := hS.frozen
    clear hB0 bI bS bB hcr x0 x1 x2 x3 xf ic hBh g0
    by_cases hx : wAt d.cs (m - 1 - t.val) = (j : Int)
    · have hF : Hid (Found d.cs m (j : Int) (pre ++ [t]) (wDat d.cs (m - 1 - t.val))) := Lib.hid ⟨pre, t, rfl, hg, hx, rfl⟩
      have ht : (wAt d.cs (m - 1 - t.val) == (j : Int)) = true := by simpa using hx
      clear hx hg
      generalize wDat d.cs (m - 1 - t.val) = dat at v1 hF ⊢
      generalize wAt d.cs (m - 1 - t.val) = x at v0 ht ⊢
      gi_wp2
      exact ⟨(KeepsOthers.setCell _ _ _).from _, rfl, dat, hS.set _, hF.out, hB.setCell (by simp; omega) _⟩
    · have hG : Hid (∀ y ∈ pre ++ [t], wAt d.cs (m - 1 - y.val) ≠ (j : Int)) := Lib.hid (by
        intro y hy
        rcases List.mem_append.1 hy with hy | hy
        · exact hg y hy
        · obtain rfl : y = t := by simpa using hy
          exact hx)
      have ht : (wAt d.cs (m - 1 - t.val) == (j : Int)) = false := by rw [beq_eq_false_iff_ne]; exact hx
      clear hx hg
      generalize wDat d.cs (m - 1 - t.val) = dat at v1 ⊢
      generalize wAt d.cs (m - 1 - t.val) = x at v0 ht ⊢
      gi_wp2
      exact ⟨KeepsFrom.refl _ _, KpB.refl _, hI, hS, hz, hG.out, hB⟩
  case done =>
    rintro D ys W hD rfl ⟨hI, hS, hz, hg, hB⟩ hK
    have cS := hS.cell
    clear hB0 bI bS bB
    have R := Lib.hid (back_none (s := s0) H.out.cs.lenW hg)
    go_wp2
    rw [Exit.noGoto_ret]
    refine ⟨by simp, .inl ⟨_, _, rfl, run_takeDeferred (show W.heap[D]? = some (.deferred (some [])) from hK), ?_⟩⟩
    refine ⟨_, results_tmp2 rfl _ _ _, ?_, hB.trans (belowK_b (w := w) (Nat.le_refl _) W D _ _ (by simp at hD; omega) hK rfl rfl)⟩
    rw [S0.out, R.out]
    rfl
  case stop =>
    rintro D c pre W hD ⟨k, hk, rfl⟩ ⟨rfl, s, hS, hl, hB⟩ hK
    have cS := hS.cell
    clear hB0 bI bS bB
    refine wpIn_wide.2 (wp_exit ?_)
    have R := Lib.hid (back_found (s0 := s0) H.out.cs.lenW hk hl)
    go_wp2
    rw [Exit.noGoto_ret]
    refine ⟨by simp, .inl ⟨_, _, rfl, run_takeDeferred (show W.heap[D]? = some (.deferred (some [])) from hK), ?_⟩⟩
    refine ⟨_, results_tmp2 rfl _ _ _, ?_, hB.trans (belowK_b (w := w) (Nat.le_refl _) W D _ _ (by simp at hD; omega) hK rfl rfl)⟩
    rw [S0.out, R.out]
    rfl

theorem blk_readD {d : D} {j : Nat} : d.bs.getD ((j : Int).toNat) ⟨#[]⟩ = blk d.bs j := rfl

theorem read_any (A A' : Option Addr) (n c m c' : Nat) (d : D) (i : Int) (w : World) (h : Dv w w.heap.size A n A' m d) :
    Calls Try.prog 22 #[.agg #[.slice A n c, .slice A' m c', .int .i64 d.left, .bool d.dead], .int .i64 i] w fun e w' => e = .returned (.tuple #[.string (readD d i).1, .int .i64 (readD d i).2]) ∧ Below w.heap.size w w' := by
  have hat := at_n h.bs.lenS i
  obtain ⟨bs, cs, l, b⟩ := d
  dsimp only at hat ⊢
  cases b
  case true => exact read_dead A A' n c m c' l i w
  by_cases hi : 0 ≤ i ∧ i < (n : Int)
  case neg =>
    have e : readD ⟨bs, cs, l, false⟩ i = (⟨#[]⟩, 15) := by
      unfold readD
      rw [if_neg Bool.false_ne_true, if_neg (fun hh => hi (hat.1 hh))]
    rw [e]
    exact read_place A A' n c m c' l i w hi
  obtain ⟨j, rfl⟩ : ∃ j : Nat, i = j := ⟨i.toNat, by omega⟩
  have e : readD ⟨bs, cs, l, false⟩ (j : Int) = (lastTo cs (j : Int) (blk bs j), 0) := by
    unfold readD
    rw [if_neg Bool.false_ne_true, if_pos (hat.2 hi)]
    rfl
  rw [e]
  exact read_yes A A' n c m c' ⟨bs, cs, l, false⟩ l j w h (by omega)

theorem refRead_any (A A' : Option Addr) (n c m c' : Nat) (d : D) (i : Int) (w : World) (h : Dv w w.heap.size A n A' m d) :
    Calls Try.prog 23 #[.agg #[.slice A n c, .slice A' m c', .int .i64 d.left, .bool d.dead], .int .i64 i] w fun e w' => e = .returned (.tuple #[.string (readD d i).1, .int .i64 (readD d i).2]) ∧ Below w.heap.size w w' := by
  have hat := at_n h.bs.lenS i
  obtain ⟨bs, cs, l, b⟩ := d
  dsimp only at hat ⊢
  cases b
  case true => exact refRead_dead A A' n c m c' l i w
  by_cases hi : 0 ≤ i ∧ i < (n : Int)
  case neg =>
    have e : readD ⟨bs, cs, l, false⟩ i = (⟨#[]⟩, 15) := by
      unfold readD
      rw [if_neg Bool.false_ne_true, if_neg (fun hh => hi (hat.1 hh))]
    rw [e]
    exact refRead_place A A' n c m c' l i w hi
  obtain ⟨j, rfl⟩ : ∃ j : Nat, i = j := ⟨i.toNat, by omega⟩
  have e : readD ⟨bs, cs, l, false⟩ (j : Int) = (lastTo cs (j : Int) (blk bs j), 0) := by
    unfold readD
    rw [if_neg Bool.false_ne_true, if_pos (hat.2 hi)]
    rfl
  rw [e]
  exact refRead_yes A A' n c m c' ⟨bs, cs, l, false⟩ l j w h (by omega)

end Go.Proofs.Ytmkhffopmohdhaa
