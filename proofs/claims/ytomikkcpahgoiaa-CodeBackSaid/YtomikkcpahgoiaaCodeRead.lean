/-
  Numbers as the program reads them: its iterator over the bytes from a place on, and the loop that leaves it by a label: for every text and every place.
-/
import Derived.RangeFuncNested
import Derived.RangeFuncBound
import Derived.RangeFuncCalls
import Derived.RangeFuncLeaves
import Derived.RangeFuncBox
import Derived.Shelf.Abstract
import Derived.Shelf.RegionOpen
import Derived.WalkKit
import Derived.OwnWalkIn
import Derived.TacticsInMore
import Derived.RegionIn
import Derived.Deep.QuietTactic
import Derived.BigQuiet
import Derived.LoopNIn
import Derived.LoopIn
import Derived.Maps.AppendAt
import Derived.Lib.Hide
import Derived.Test.YtomikkcpahgoiaaProg
import Derived.Test.YtomikkcpahgoiaaCodeReadMath
namespace Go.Proofs.Ytomikkcpahgoiaa
open Go.RowKit Go.Shelf
attribute [local go_sem] Oper.semAt_some

/-- What is handed out: how many came ahead (fewer than the text is long), and the byte there. -/
abbrev encsAt (s : ByteArray) (a : Nat) (i : Fin s.size) : Array Value := #[.int .i64 (i.val : Int), .int .u8 ((byteAt s a i.val).toNat : Int)]
/-- What a round keeps: what lay below n₀, and the two boxes of the iterator. -/
structure KpR (n₀ Bs Ba : Nat) (A B : World) : Prop where
  below : Below n₀ A B
  bs : B.heap[Bs]? = A.heap[Bs]?
  ba : B.heap[Ba]? = A.heap[Ba]?
theorem KpR.trans {n₀ Bs Ba : Nat} {A B C : World} (h : KpR n₀ Bs Ba A B) (k : KpR n₀ Bs Ba B C) : KpR n₀ Bs Ba A C := ⟨h.below.trans k.below, k.bs.trans h.bs, k.ba.trans h.ba⟩
theorem belowK_put {n₀ z l : Nat} (hn : n₀ ≤ z) (hl : z ≤ l) (W : World) (o o' : Obj) (ho : W.heap[l]? = some o) (_hc : o.isCells = false) : Below n₀ W (W.putObj l o') :=
  (Below.refl n₀ W).grown (grownBy_putObj' W l o') (by have := (Array.getElem?_eq_some_iff.1 ho).1; omega) fun j ej => by cases ej; omega
theorem kpR_put {n₀ Bs Ba z : Nat} (hn : n₀ ≤ z) (hs : Bs < z) (ha : Ba < z) (W : World) (l : Nat) (o o' : Obj) (hl : z ≤ l) (ho : W.heap[l]? = some o) (hc : o.isCells = false) (_hw : o.isWalk = false) : KpR n₀ Bs Ba W (W.putObj l o') :=
  ⟨(Below.refl n₀ W).trans (belowK_put hn hl W o o' ho hc),  World.putObj_heap_other (by omega), World.putObj_heap_other (by omega)⟩

set_option maxRecDepth 100000 in
set_option maxHeartbeats 1000000 in
theorem groups1_in (F : Fence) (n : Nat) (h6 : F.fn 26) (hro : F.round = none) (hn : 1 ≤ n) (l Bs Ba n₀ : Nat) (s : ByteArray) (hs : s.size ≤ maxLen) (a : Nat) (ha : a ≤ s.size) (J Jx : List (Fin s.size) → World → Prop)
    (hY : ∀ (pre : List (Fin s.size)) (i : Fin s.size) (W : World), J pre W → pre.length < s.size - a → YieldAt F (n - 1) Try.prog l (encsAt s a i) W fun e W' =>
      (e = .returned (.bool true) ∧ J (pre ++ [i]) W' ∧ KpR n₀ Bs Ba W W') ∨ (e = .returned (.bool false) ∧ Jx (pre ++ [i]) W'))
    (W : World) (hBs : W.cell? ⟨Bs, 0, none⟩ = some (.string s)) (hBa : W.cell? ⟨Ba, 0, none⟩ = some (.int .i64 a)) (h0 : J [] W) :
    CallsIn F n Try.prog 26 #[.func (.yield l) #[] #[], .pointer (some ⟨Bs, 0, none⟩), .pointer (some ⟨Ba, 0, none⟩)] W fun e W' => (∃ v, e = .returned v) ∧
      ((∃ ys, ys = upto s (s.size - a) ∧ J ys W') ∨ (∃ pre, (∃ k, k ≤ s.size - a ∧ pre = upto s k) ∧ Jx pre W')) := by
  unfold maxLen at hs
  refine callsIn_of_wp Try.func26 rfl h6 ?_ hro
  simp only [Try.ntmps26, List.size_toArray, List.length_cons, List.length_nil, Nat.reduceAdd, Nat.reduceSub, Array.replicate_succ, Array.replicate_zero, List.push_toArray, List.append_toArray, List.nil_append, List.cons_append]
  gi_wp2
  gi_loopw [9] (fun p wr => ∃ k : Nat, p = .int .i64 k ∧ k ≤ s.size - a ∧ J (upto s k) wr ∧ wr.cell? ⟨Bs, 0, none⟩ = some (.string s) ∧ wr.cell? ⟨Ba, 0, none⟩ = some (.int .i64 a)) (fun p _ => s.size - (intOf p).toNat)
  case atStart => exact ⟨0, rfl, by omega, by simpa [upto] using h0, hBs, hBa⟩
  case round =>
    obtain ⟨k, rfl, hk, hJ, hcs, hca⟩ := hrel
    by_cases h : k < s.size - a
    · have hlt : a + k < s.size := by omega
      have hks : k < s.size := by omega
      have hd : (k : Int) < (s.size : Int) - a := by omega
      obtain ⟨fn, tmps, assign, body, hy, hR⟩ := hY (upto s k) ⟨k, hks⟩ wr hJ (by rw [upto_length s k (by omega)]; exact h)
      dsimp only [encsAt] at hy
      rw [byteAt_in hlt] at hy
      gi_wp2
      refine hR.mono ?_
      rintro e W3 (⟨rfl, hJ3, hk3⟩ | ⟨rfl, hJx3⟩)
      · have hcs3 := (World.cell?_of_block hk3.bs).trans hcs
        have hca3 := (World.cell?_of_block hk3.ba).trans hca
        have HJ := Lib.hid hJ3; clear hJ3
        gi_wp2
        go_roundw
        case rel => exact ⟨k + 1, by go_num, by omega, by rw [upto_succ s k hks]; exact HJ.out, hcs3, hca3⟩
        case measure => simp [intOf]; omega
      · gi_wp2
        refine bodyPost_ret (results_none rfl _ _ _) rfl ?_
        exact ⟨⟨_, rfl⟩, .inr ⟨_, ⟨k + 1, by omega, (upto_succ s k hks).symm⟩, hJx3⟩⟩
    · have hd : (s.size : Int) - a ≤ (k : Int) := by omega
      gi_wp2
      go_end0
      obtain rfl : k = s.size - a := by omega
      exact ⟨⟨_, rfl⟩, .inl ⟨_, rfl, hJ⟩⟩

set_option maxHeartbeats 1000000 in
theorem groups_in (F : Fence) (n : Nat) (h5 : F.fn 22) (hro : F.round = none) (s : ByteArray) (a : Int) (w : World) :
    CallsIn F n Try.prog 22 #[.string s, .int .i64 a] w fun e w' => e = .returned (.func (.func 26) #[] #[.pointer (some ⟨w.heap.size, 0, none⟩), .pointer (some ⟨w.heap.size + 1, 0, none⟩)]) ∧ w' = (w.alloc (.cells #[.string s] 9)).alloc (.cells #[.int .i64 a] 3) := by
  refine callsIn_of_wp Try.func22 rfl h5 ?_ hro
  simp only [Try.ntmps22, List.size_toArray, List.length_cons, List.length_nil, Nat.reduceAdd, Nat.reduceSub, Array.replicate_succ, Array.replicate_zero, List.push_toArray, List.append_toArray, List.nil_append, List.cons_append]
  gi_wp2
  go_ret
  exact ⟨rfl, rfl⟩

theorem groups_stops (F : Fence) (n : Nat) (h6 : F.fn 26) (hro : F.round = none) (hn : 1 ≤ n) (Bs Ba n₀ : Nat) (s : ByteArray) (hs : s.size ≤ maxLen) (a : Nat) (ha : a ≤ s.size) (w : World) (hBs : Bs < w.heap.size) (hBa : Ba < w.heap.size)
    (hcs : w.cell? ⟨Bs, 0, none⟩ = some (.string s)) (hca : w.cell? ⟨Ba, 0, none⟩ = some (.int .i64 a)) :
    SeqStopsK F n Try.prog 26 #[.pointer (some ⟨Bs, 0, none⟩), .pointer (some ⟨Ba, 0, none⟩)] (fun i : Fin s.size => encsAt s a i) (KpR n₀ Bs Ba) (fun ys => ys = upto s (s.size - a)) (fun pre => ∃ k, k ≤ s.size - a ∧ pre = upto s k) (s.size - a) w := fun l J Jx W hW _ _ hY h0 =>
  groups1_in F n h6 hro hn l Bs Ba n₀ s hs a ha J Jx hY W ((hW.cell (p := ⟨Bs, 0, none⟩) hBs).trans hcs) ((hW.cell (p := ⟨Ba, 0, none⟩) hBa).trans hca) h0

theorem kpR_set {n₀ Bs Ba B : Nat} {W : World} {u : Value} (hn : n₀ ≤ B) (hs : Bs ≠ B) (ha : Ba ≠ B) : KpR n₀ Bs Ba W (W.setCell ⟨B, 0, none⟩ u).drew :=
  ⟨((Below.refl n₀ W).setCell (p := ⟨B, 0, none⟩) hn u).drew, Below.heap_setCell W ⟨B, 0, none⟩ u Bs hs, Below.heap_setCell W ⟨B, 0, none⟩ u Ba ha⟩
theorem kpR_set' {n₀ Bs Ba B : Nat} {W : World} {u : Value} (hn : n₀ ≤ B) (hs : Bs ≠ B) (ha : Ba ≠ B) : KpR n₀ Bs Ba W (W.setCell ⟨B, 0, none⟩ u) :=
  ⟨(Below.refl n₀ W).setCell (p := ⟨B, 0, none⟩) hn u, Below.heap_setCell W ⟨B, 0, none⟩ u Bs hs, Below.heap_setCell W ⟨B, 0, none⟩ u Ba ha⟩
theorem below_set {n₀ B : Nat} (hn : n₀ ≤ B) (W : World) (u : Value) : Below n₀ W (W.setCell ⟨B, 0, none⟩ u) := (Below.refl n₀ W).setCell (p := ⟨B, 0, none⟩) hn u
theorem drawn_below {B : Nat} (w : World) (n : Nat) : Below B w (w.drewN n) := ⟨rfl, rfl, rfl, Nat.le_refl _, fun _ _ => rfl⟩
/-- Between two rounds. -/
def InvAt (s : ByteArray) (a n₀ : Nat) (w : World) (pre : List (Fin s.size)) (W : World) : Prop :=
  Boxed W n₀ 3 (.int .i64 a) ∧ Boxed W (n₀ + 1) 22 (.int .u64 (accI s a pre)) ∧ Boxed W (n₀ + 1 + 1) 3 (.int .i64 0) ∧ Boxed W (n₀ + 1 + 1 + 1) 23 (.int .i64 11) ∧ (∀ i ∈ pre, goesAt s a i.val) ∧ Below n₀ w W
/-- Behind the round that leaves. -/
def OutAt (s : ByteArray) (a n₀ : Nat) (w : World) (c : Code) (pre : List (Fin s.size)) (W : World) : Prop :=
  c = .exit 0 ∧ ∃ endv ev, Boxed W (n₀ + 1) 22 (.int .u64 (accI s a pre)) ∧ Boxed W (n₀ + 1 + 1) 3 (.int .i64 endv) ∧ Boxed W (n₀ + 1 + 1 + 1) 23 (.int .i64 ev) ∧ leftAt s a pre endv ev ∧ Below n₀ w W

set_option maxHeartbeats 1000000 in
theorem readNumber_place (s : ByteArray) (a : Int) (w : World) (hs : s.size ≤ maxLen) (h : a < 0 ∨ (s.size : Int) < a) :
    Calls Try.prog 7 #[.string s, .int .i64 a] w fun e w' => e = .returned (.tuple #[.int .u64 0, .int .i64 0, .int .i64 15]) ∧ Below w.heap.size w w' := by
  unfold maxLen at hs
  rcases h with h | h
  · go_enter Try.func7, Try.ntmps7
    go_wp2
    go_step3
    go_wp2
    rw [Exit.noGoto_ret]
    go_ret3
    exact ⟨rfl, (Below.refl _ _).alloc (Nat.le_refl _) _⟩
  · have h0 : ¬ a < 0 := by omega
    go_enter Try.func7, Try.ntmps7
    go_wp2
    go_step3
    go_wp2
    rw [Exit.noGoto_ret]
    go_ret3
    exact ⟨rfl, (Below.refl _ _).alloc (Nat.le_refl _) _⟩

set_option maxRecDepth 100000 in
set_option maxHeartbeats 2000000 in
theorem readNumber_in (s : ByteArray) (hs : s.size ≤ 1125899906842624) (a : Nat) (ha : a ≤ s.size) (w : World) :
    Calls Try.prog 7 #[.string s, .int .i64 a] w fun e W' => e = .returned (.tuple #[.int .u64 (rdN s a).1, .int .i64 (rdN s a).2.1, .int .i64 (rdN s a).2.2]) ∧ Below w.heap.size w W' := by
  have hd0 : decide ((a : Int) < 0) = false := by simp
  have hd1 : decide (s.size < a) = false := by simp; omega
  refine (callsIn_wide (n := 3)).1 ?_
  refine callsIn_of_wp_marks Try.func7 rfl trivial ?_ rfl
  refine wpIn_wide.2 ?_
  simp only [Try.ntmps7, List.size_toArray, List.length_cons, List.length_nil, Nat.reduceAdd, Nat.reduceSub, Array.replicate_succ, Array.replicate_zero, List.push_toArray, List.append_toArray, List.nil_append, List.cons_append]
  go_wp2
  go_step3
  go_wp2
  go_step3
  go_wp2_with (go_at_call 22; refine ((callsIn_wide (n := 2)).1 (groups_in Fence.wide 2 trivial rfl _ _ _)).mono ?_; rintro e w' ⟨rfl, rfl⟩)
  refine (wpIn_wide (n := 3)).1 ?_
  have hB0 : Below w.heap.size w ((((((w.alloc (.cells #[.int .i64 a] 3)).alloc (.cells #[.int .u64 0] 22)).alloc (.cells #[.int .i64 0] 3)).alloc (.cells #[.int .i64 11] 23)).alloc (.cells #[.string s] 9)).alloc (.cells #[.int .i64 a] 3)) :=
    ((((((Below.refl _ w).alloc (Nat.le_refl _) _).alloc (by simp) _).alloc (by simp; omega) _).alloc (by simp; omega) _).alloc (by simp; omega) _).alloc (by simp; omega) _
  have bT := (((((Boxed.new w 3 (.int .i64 a)).alloc (.cells #[.int .u64 0] 22)).alloc (.cells #[.int .i64 0] 3)).alloc (.cells #[.int .i64 11] 23)).alloc (.cells #[.string s] 9)).alloc (.cells #[.int .i64 a] 3)
  have bN := ((((Boxed.new (w.alloc (.cells #[.int .i64 a] 3)) 22 (.int .u64 0)).alloc (.cells #[.int .i64 0] 3)).alloc (.cells #[.int .i64 11] 23)).alloc (.cells #[.string s] 9)).alloc (.cells #[.int .i64 a] 3)
  have bD := (((Boxed.new ((w.alloc (.cells #[.int .i64 a] 3)).alloc (.cells #[.int .u64 0] 22)) 3 (.int .i64 0)).alloc (.cells #[.int .i64 11] 23)).alloc (.cells #[.string s] 9)).alloc (.cells #[.int .i64 a] 3)
  have bE := ((Boxed.new (((w.alloc (.cells #[.int .i64 a] 3)).alloc (.cells #[.int .u64 0] 22)).alloc (.cells #[.int .i64 0] 3)) 23 (.int .i64 11)).alloc (.cells #[.string s] 9)).alloc (.cells #[.int .i64 a] 3)
  have bS := (Boxed.new ((((w.alloc (.cells #[.int .i64 a] 3)).alloc (.cells #[.int .u64 0] 22)).alloc (.cells #[.int .i64 0] 3)).alloc (.cells #[.int .i64 11] 23)) 9 (.string s)).alloc (.cells #[.int .i64 a] 3)
  have bA := Boxed.new (((((w.alloc (.cells #[.int .i64 a] 3)).alloc (.cells #[.int .u64 0] 22)).alloc (.cells #[.int .i64 0] 3)).alloc (.cells #[.int .i64 11] 23)).alloc (.cells #[.string s] 9)) 3 (.int .i64 a)
  simp only [World.size_alloc] at bT bN bD bE bS bA
  refine wpIn_rangeFunc_ownG rfl (by omega) (gf := 26) (lb := #[.pointer (some ⟨w.heap.size + 1 + 1 + 1 + 1, 0, none⟩), .pointer (some ⟨w.heap.size + 1 + 1 + 1 + 1 + 1, 0, none⟩)]) rfl trivial (enters_of Try.func26 (by kernel_rfl) rfl)
    (groups_stops Fence.wide 2 trivial rfl (by omega) (w.heap.size + 1 + 1 + 1 + 1) (w.heap.size + 1 + 1 + 1 + 1 + 1) w.heap.size s (by unfold maxLen; omega) a ha _ (by simp) (by simp) bS.cell bA.cell) KpR.trans (kpR_put (by simp; omega) (by simp) (by simp)) (Below.refl _ _) (fun _ => rfl)
    (InvAt s a w.heap.size w) (OutAt s a w.heap.size w)
    ?own ?ownx ⟨bT, bN, bD, bE, by simp, hB0⟩
    (fun i => { tmps := #[.string s, .int .i64 a, undef, .pointer (some ⟨w.heap.size, 0, none⟩), .int .u64 0, .int .i64 0, .int .i64 0, .pointer (some ⟨w.heap.size + 1, 0, none⟩), .pointer (some ⟨w.heap.size + 1 + 1, 0, none⟩), .pointer (some ⟨w.heap.size + 1 + 1 + 1, 0, none⟩), .int .i64 (i.val : Int), .int .u8 ((byteAt s a i.val).toNat : Int),
      .int .i64 a, .bool false, .bool false, .int .i64 a, .string s, .int .i64 s.size, .bool false, .bool false, .string s, .int .i64 a, .func (.func 26) #[] #[.pointer (some ⟨w.heap.size + 1 + 1 + 1 + 1, 0, none⟩), .pointer (some ⟨w.heap.size + 1 + 1 + 1 + 1 + 1, 0, none⟩)], .int .i64 (i.val : Int), .int .u8 ((byteAt s a i.val).toNat : Int),
      undef, undef, undef, undef, undef, undef, undef, undef, undef, undef, undef, undef, undef, undef, undef, undef, undef, undef, undef, undef, undef, undef, undef, undef, undef, undef, undef, undef, undef, undef, undef, undef, undef], defers := [] }) ?assign ?body ?done ?stop
  case own =>
    rintro pre X Y row ⟨h1, h2, h3, h4, h5, h6⟩ hg hr
    have ne : ∀ k, k ≤ w.heap.size + 1 + 1 + 1 → some k ≠ row := fun k hk e => by have := (hr _ e.symm).1; simp at this; omega
    exact ⟨h1.kept hg (ne _ (by omega)), h2.kept hg (ne _ (by omega)), h3.kept hg (ne _ (by omega)), h4.kept hg (ne _ (by omega)), h5, ownFrom_below (β := Unit) (n₀ := w.heap.size) (w₀ := w) (Nat.le_refl _) (by simp; omega) () X Y row h6 hg hr⟩
  case ownx =>
    rintro c pre X Y row ⟨h0, e1, e2, h2, h3, h4, h5, h6⟩ hg hr
    have ne : ∀ k, k ≤ w.heap.size + 1 + 1 + 1 → some k ≠ row := fun k hk e => by have := (hr _ e.symm).1; simp at this; omega
    exact ⟨h0, e1, e2, h2.kept hg (ne _ (by omega)), h3.kept hg (ne _ (by omega)), h4.kept hg (ne _ (by omega)), h5, ownFrom_below (β := Unit) (n₀ := w.heap.size) (w₀ := w) (Nat.le_refl _) (by simp; omega) () X Y row h6 hg hr⟩
  case assign =>
    intro l i W K hK
    gi_wp2
    exact hK
  case body =>
    rintro l pre ⟨i, hi⟩ W ⟨hT, hN, hD, hE, hg, hB⟩ hlt
    have cT := hT.cell
    have cN := hN.cell
    have fN := hN.frozen
    have cb := (byteAt s a i).toNat_lt
    clear hB0 bT bN bD bE bS bA
    have hmx : Try.prog.follows .mixedOrders = true := by kernel_rfl
    dsimp only
    have h7 : Hid (IntKind.i64.wrap (7 * (i : Int)) = 7 * (i : Int)) := Lib.hid (IntWalk.i64_in _ (by omega))
    have hX : Hid (IntKind.u64.wrap (bits .andNot .u8 ((byteAt s a i).toNat : Int) 128) = bits .andNot .u8 ((byteAt s a i).toNat : Int) 128) := Lib.hid (IntWalk.u64_in _ (by have := bits_lo_u8 .andNot ((byteAt s a i).toNat : Int) 128; have := bits_hi_u8 .andNot ((byteAt s a i).toNat : Int) 128; omega))
    have hsh : Hid (∀ W : World, (Op.shift .shl .u64 (bits .andNot .u8 ((byteAt s a i).toNat : Int) 128) .i64 (7 * (i : Int))).run Try.prog W = .ok (.int .u64 (IntKind.u64.wrap (bits .andNot .u8 ((byteAt s a i).toNat : Int) 128 * 2 ^ (min (7 * i) 64)))) W) := Lib.hid (fun W => by
      unfold Op.shift
      rw [if_neg (by omega), show min (7 * (i : Int)).toNat IntKind.u64.bits = min (7 * i) 64 by rw [show (7 * (i : Int)).toNat = 7 * i by omega]; rfl]
      rfl)
    gi_wp2
    replace h7 := h7.out
    replace hX := hX.out
    replace hsh := hsh.out
    have hacc : accI s a (pre ++ [⟨i, hi⟩]) = bits .or .u64 (accI s a pre) (IntKind.u64.wrap (bits .andNot .u8 ((byteAt s a i).toNat : Int) 128 * 2 ^ min (7 * i) 64)) := by simp [accI]
    have HACC := Lib.hid hacc; clear hacc
    refine wpIn_mono (Q := fun e a' w' => e = .normal ∧ w' = (W.setCell ⟨w.heap.size + 1, 0, none⟩ (.int .u64 (accI s a (pre ++ [⟨i, hi⟩])))).drew ∧ a' = { tmps := #[.string s, .int .i64 a, undef, .pointer (some ⟨w.heap.size, 0, none⟩), .int .u64 0, .int .i64 0, .int .i64 0, .pointer (some ⟨w.heap.size + 1, 0, none⟩), .pointer (some ⟨w.heap.size + 1 + 1, 0, none⟩), .pointer (some ⟨w.heap.size + 1 + 1 + 1, 0, none⟩), .int .i64 (i : Int), .int .u8 ((byteAt s a i).toNat : Int),
          .int .i64 a, .bool false, .bool false, .int .i64 a, .string s, .int .i64 s.size, .bool false, .bool false, .string s, .int .i64 a, .func (.func 26) #[] #[.pointer (some ⟨w.heap.size + 1 + 1 + 1 + 1, 0, none⟩), .pointer (some ⟨w.heap.size + 1 + 1 + 1 + 1 + 1, 0, none⟩)], .int .i64 (i : Int), .int .u8 ((byteAt s a i).toNat : Int),
          .int .u64 (accI s a pre), .int .u8 ((byteAt s a i).toNat : Int), .int .u8 (bits .andNot .u8 ((byteAt s a i).toNat : Int) 128), .int .u64 (bits .andNot .u8 ((byteAt s a i).toNat : Int) 128), .int .i64 (i : Int), .int .i64 (7 * (i : Int)),
          .int .u64 (IntKind.u64.wrap (bits .andNot .u8 ((byteAt s a i).toNat : Int) 128 * 2 ^ min (7 * i) 64)), .int .u64 (accI s a (pre ++ [⟨i, hi⟩])), undef, undef, undef, undef, undef, undef, undef, undef, undef, undef, undef, undef, undef, undef, undef, undef, undef, undef, undef, undef, undef, undef, undef, undef, undef], defers := [] }) ?_ ?_
    · gi_region_with_o (fail)
      all_goals exact ⟨rfl, by rw [HACC.out], by rw [HACC.out]⟩
    · clear h7 hX hsh HACC
      rintro e a' w' ⟨rfl, rfl, hact⟩
      dsimp only at hact
      have hk1 : KeepsOthers W (W.setCell ⟨w.heap.size + 1, 0, none⟩ (.int .u64 (accI s a (pre ++ [⟨i, hi⟩])))).drew := (KeepsOthers.setCell _ _ _).trans (KeepsOthers.drew _)
      have hkp1 : KpR w.heap.size (w.heap.size + 1 + 1 + 1 + 1) (w.heap.size + 1 + 1 + 1 + 1 + 1) W (W.setCell ⟨w.heap.size + 1, 0, none⟩ (.int .u64 (accI s a (pre ++ [⟨i, hi⟩])))).drew := kpR_set (by omega) (by omega) (by omega)
      have hT1 : Boxed (W.setCell ⟨w.heap.size + 1, 0, none⟩ (.int .u64 (accI s a (pre ++ [⟨i, hi⟩])))).drew w.heap.size 3 (.int .i64 a) := hT.other (by omega) _
      have hN1 : Boxed (W.setCell ⟨w.heap.size + 1, 0, none⟩ (.int .u64 (accI s a (pre ++ [⟨i, hi⟩])))).drew (w.heap.size + 1) 22 (.int .u64 (accI s a (pre ++ [⟨i, hi⟩]))) := hN.set _
      have hD1 : Boxed (W.setCell ⟨w.heap.size + 1, 0, none⟩ (.int .u64 (accI s a (pre ++ [⟨i, hi⟩])))).drew (w.heap.size + 1 + 1) 3 (.int .i64 0) := hD.other (by omega) _
      have hE1 : Boxed (W.setCell ⟨w.heap.size + 1, 0, none⟩ (.int .u64 (accI s a (pre ++ [⟨i, hi⟩])))).drew (w.heap.size + 1 + 1 + 1) 23 (.int .i64 11) := hE.other (by omega) _
      generalize (W.setCell ⟨w.heap.size + 1, 0, none⟩ (.int .u64 (accI s a (pre ++ [⟨i, hi⟩])))).drew = W1 at hk1 hkp1 hT1 hN1 hD1 hE1 ⊢
      have hB1 := hB.trans hkp1.below
      subst hact
      have cT1 := hT1.cell
      have cD1 := hD1.cell
      have fD1 := hD1.frozen
      have cE1 := hE1.cell
      have fE1 := hE1.frozen
      clear hT hN hD hE cT cN fN
      have hsz : (a : Int) + (i : Int) + 1 ≤ 9223372036854775807 := by omega
      by_cases hbad : badAt s a i
      · have hl : Hid (leftAt s a (pre ++ [⟨i, hi⟩]) 0 10) := Lib.hid ⟨pre, ⟨i, hi⟩, rfl, hg, .inl ⟨hbad, rfl, rfl⟩⟩
        rcases hbad with ⟨h9, hc⟩ | ⟨h0, hc⟩
        · have h9t : ((i : Int) == 9) = true := by simp; omega
          have hc1 : 1 < ((byteAt s a i).toNat : Int) := by omega
          clear h9 hc hlt hg
          gi_wp2
          exact ⟨(hk1.trans (KeepsOthers.setCell _ _ _)).from _, rfl, 0, 10, hN1.other (by omega) _, hD1.other (by omega) _, hE1.set _, hl.out, hB1.trans (below_set (by omega) _ _)⟩
        · have hc0 : (((byteAt s a i).toNat : Int) == 0) = true := by simp [hc]
          have hc1 : ¬ 1 < ((byteAt s a i).toNat : Int) := by omega
          have hi0 : 0 < i := by omega
          have HC := Lib.hid hc; clear hc
          clear hlt hg
          by_cases h9 : i = 9
          · have h9t : ((i : Int) == 9) = true := by simp; omega
            clear h9
            gi_wp2
            exact ⟨(hk1.trans (KeepsOthers.setCell _ _ _)).from _, rfl, 0, 10, hN1.other (by omega) _, hD1.other (by omega) _, hE1.set _, hl.out, hB1.trans (below_set (by omega) _ _)⟩
          · have h9t : ((i : Int) == 9) = false := by simp; omega
            gi_wp2
            exact ⟨(hk1.trans (KeepsOthers.setCell _ _ _)).from _, rfl, 0, 10, hN1.other (by omega) _, hD1.other (by omega) _, hE1.set _, hl.out, hB1.trans (below_set (by omega) _ _)⟩
      · have HBAD := Lib.hid hbad; clear hbad
        by_cases hlo : (byteAt s a i).toNat < 128
        · have HS := Lib.hid hs
          clear hs
          have hl : Hid (leftAt s a (pre ++ [⟨i, hi⟩]) ((a : Int) + i + 1) 0) := Lib.hid ⟨pre, ⟨i, hi⟩, rfl, hg, .inr ⟨HBAD.out, hlo, rfl, rfl⟩⟩
          clear hlt hg
          have hlo' : ((byteAt s a i).toNat : Int) < 128 := by omega
          by_cases h9 : i = 9
          · have hc0 : (((byteAt s a i).toNat : Int) == 0) = false := by
              have := HBAD.out; unfold badAt at this; simp; omega
            have hc1 : ¬ 1 < ((byteAt s a i).toNat : Int) := by
              have := HBAD.out; unfold badAt at this; omega
            have hi0 : 0 < i := by omega
            have h9t : ((i : Int) == 9) = true := by simp; omega
            clear h9
            gi_wp2
            exact ⟨((hk1.trans (KeepsOthers.setCell _ _ _)).trans (KeepsOthers.setCell _ _ _)).from _, rfl, _, 0, (hN1.other (by omega) _).other (by omega) _, (hD1.set _).other (by omega) _, (hE1.other (by omega) _).set _, hl.out, (hB1.trans (below_set (by omega) _ _)).trans (below_set (by omega) _ _)⟩
          · have h9t : ((i : Int) == 9) = false := by simp; omega
            by_cases hi0 : 0 < i
            · have hc0 : (((byteAt s a i).toNat : Int) == 0) = false := by
                have := HBAD.out; unfold badAt at this; simp; omega
              gi_wp2
              exact ⟨((hk1.trans (KeepsOthers.setCell _ _ _)).trans (KeepsOthers.setCell _ _ _)).from _, rfl, _, 0, (hN1.other (by omega) _).other (by omega) _, (hD1.set _).other (by omega) _, (hE1.other (by omega) _).set _, hl.out, (hB1.trans (below_set (by omega) _ _)).trans (below_set (by omega) _ _)⟩
            · have hi0' : decide (0 < i) = false := by simpa using hi0
              gi_wp2
              exact ⟨((hk1.trans (KeepsOthers.setCell _ _ _)).trans (KeepsOthers.setCell _ _ _)).from _, rfl, _, 0, (hN1.other (by omega) _).other (by omega) _, (hD1.set _).other (by omega) _, (hE1.other (by omega) _).set _, hl.out, (hB1.trans (below_set (by omega) _ _)).trans (below_set (by omega) _ _)⟩
        · have hgo : Hid (∀ j ∈ pre ++ [⟨i, hi⟩], goesAt s a j.val) := Lib.hid (by
            intro j hj
            rcases List.mem_append.1 hj with hj | hj
            · exact hg j hj
            · obtain rfl : j = ⟨i, hi⟩ := by simpa using hj
              exact ⟨HBAD.out, hlo⟩)
          clear hlt hg
          have h9t : ((i : Int) == 9) = false := by
            have := HBAD.out; unfold badAt at this; simp; omega
          have hc0 : (((byteAt s a i).toNat : Int) == 0) = false := by simp; omega
          have hlo' : decide (((byteAt s a i).toNat : Int) < 128) = false := by simp; omega
          by_cases hi0 : 0 < i
          · gi_wp2
            exact ⟨hk1.from _, hkp1, hT1, hN1, hD1, hE1, hgo.out, hB1⟩
          · have hi0' : decide (0 < i) = false := by simpa using hi0
            gi_wp2
            exact ⟨hk1.from _, hkp1, hT1, hN1, hD1, hE1, hgo.out, hB1⟩
  case done =>
    rintro D ys W hD rfl ⟨hT, hN, hD0, hE, hg, hB⟩ hK
    clear hB0 bT bN bD bE bS bA
    have cE := hE.cell
    go_wp2
    go_quiet (fail)
    go_wp2
    rw [Exit.noGoto_ret]
    refine ⟨by simp, .inl ⟨_, _, rfl, run_takeDeferred (show (W.drewN nq).heap[D]? = some (.deferred (some [])) from hK), ?_⟩⟩
    refine ⟨_, results_tmp3 rfl _ _ _, ?_, (hB.trans (drawn_below W nq)).trans (belowK_b (w := w) (Nat.le_refl _) (W.drewN nq) D _ _ (by simp at hD; omega) hK rfl rfl)⟩
    rw [end_short ha hg]
    rfl
  case stop =>
    rintro D c pre W hD ⟨k, hk, rfl⟩ ⟨rfl, endv, ev, hN, hD0, hE, hl, hB⟩ hK
    clear hB0 bT bN bD bE bS bA
    have cE := hE.cell
    have cN := hN.cell
    have cD := hD0.cell
    refine wpIn_wide.2 (wp_exit ?_)
    obtain ⟨pre0, i, hpre, hg, hcase⟩ := hl
    rcases hcase with ⟨hbad, rfl, rfl⟩ | ⟨hbad, hlo, rfl, rfl⟩
    · go_wp2
      go_quiet (fail)
      go_wp2
      rw [Exit.noGoto_ret]
      refine ⟨by simp, .inl ⟨_, _, rfl, run_takeDeferred (show (W.drewN nq).heap[D]? = some (.deferred (some [])) from hK), ?_⟩⟩
      refine ⟨_, results_tmp3 rfl _ _ _, ?_, (hB.trans (drawn_below W nq)).trans (belowK_b (w := w) (Nat.le_refl _) (W.drewN nq) D _ _ (by simp at hD; omega) hK rfl rfl)⟩
      rw [(end_left ha hk hpre hg).1 hbad]
      rfl
    · go_wp2
      go_quiet (fail)
      go_wp2
      rw [Exit.noGoto_ret]
      refine ⟨by simp, .inl ⟨_, _, rfl, run_takeDeferred (show (W.drewN nq).heap[D]? = some (.deferred (some [])) from hK), ?_⟩⟩
      refine ⟨_, results_tmp3 rfl _ _ _, ?_, (hB.trans (drawn_below W nq)).trans (belowK_b (w := w) (Nat.le_refl _) (W.drewN nq) D _ _ (by simp at hD; omega) hK rfl rfl)⟩
      obtain ⟨n, hn, hr⟩ := (end_left ha hk hpre hg).2 hbad hlo
      rw [hr, ← hn, hpre]
      rfl

theorem readNumber_any (s : ByteArray) (a : Int) (w : World) (hs : s.size ≤ 1125899906842624) :
    Calls Try.prog 7 #[.string s, .int .i64 a] w fun e w' => e = .returned (.tuple #[.int .u64 (rdN s a).1, .int .i64 (rdN s a).2.1, .int .i64 (rdN s a).2.2]) ∧ Below w.heap.size w w' := by
  by_cases h : a < 0 ∨ (s.size : Int) < a
  · rw [rdN_place h]; exact readNumber_place s a w (by unfold maxLen; omega) h
  · obtain ⟨n, rfl⟩ : ∃ n : Nat, a = n := ⟨a.toNat, by omega⟩
    exact readNumber_in s hs n (by omega) w

end Go.Proofs.Ytomikkcpahgoiaa
