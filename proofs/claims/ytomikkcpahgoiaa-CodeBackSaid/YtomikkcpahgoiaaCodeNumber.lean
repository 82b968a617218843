/-
  Numbers as the program writes them: its iterator over groups of seven bits, and the loop that collects them: for every number of 64 bits.
-/
import Derived.RangeFuncNested
import Derived.RangeFuncBound
import Derived.RangeFuncCalls
import Derived.RangeFuncLeaves
import Derived.RangeFuncBox
import Derived.Shelf.Abstract
import Derived.Shelf.RegionOpen
import Derived.WalkKit
import Derived.OwnWalkIn
import Derived.TacticsInMore
import Derived.LoopNIn
import Derived.LoopIn
import Derived.Maps.AppendAt
import Derived.Lib.Hide
import Derived.Test.YtomikkcpahgoiaaProg
import Derived.Test.YtomikkcpahgoiaaCodeMath
namespace Go.Proofs.Ytomikkcpahgoiaa
open Go.RowKit Go.Shelf
attribute [local go_sem] Oper.semAt_some

set_option maxRecDepth 100000 in
set_option maxHeartbeats 1000000 in
/-- The groups, one after another: for every loop body that keeps what lay below n₀. -/
theorem split1_in (F : Fence) (n : Nat) (h6 : F.fn 28) (hro : F.round = none) (hn : 1 ≤ n) (l Bn n₀ : Nat) (x : Nat) (hx : x < 18446744073709551616) (J Jx : List UInt8 → World → Prop)
    (hY : ∀ (pre : List UInt8) (c : UInt8) (W : World), J pre W → pre.length < (enc x).length → YieldAt F (n - 1) Try.prog l #[.int .u8 (c.toNat : Int)] W fun e W' =>
      (e = .returned (.bool true) ∧ J (pre ++ [c]) W' ∧ Below n₀ W W') ∨ (e = .returned (.bool false) ∧ Jx (pre ++ [c]) W'))
    (W : World) (hBn : W.cell? ⟨Bn, 0, none⟩ = some (.int .u64 x)) (h0 : J [] W) :
    CallsIn F n Try.prog 28 #[.func (.yield l) #[] #[], .pointer (some ⟨Bn, 0, none⟩)] W fun e W' => (∃ v, e = .returned v) ∧
      ((∃ ys, ys = enc x ∧ J ys W') ∨ (∃ pre, pre <+: enc x ∧ Jx pre W')) := by
  refine callsIn_of_wp Try.func28 rfl h6 ?_ hro
  simp only [Try.ntmps28, List.size_toArray, List.length_cons, List.length_nil, Nat.reduceAdd, Nat.reduceSub, Array.replicate_succ, Array.replicate_zero, List.push_toArray, List.append_toArray, List.nil_append, List.cons_append]
  gi_wp2
  gi_loopw [3] (fun p wr => ∃ (m : Nat) (pre : List UInt8), p = .int .u64 m ∧ m < 18446744073709551616 ∧ pre ++ enc m = enc x ∧ J pre wr) (fun p _ => (intOf p).toNat)
  case atStart => exact ⟨x, [], rfl, hx, rfl, h0⟩
  case round =>
    obtain ⟨m, pre, rfl, hm, he, hJ⟩ := hrel
    have hlen : pre.length < (enc x).length := by
      rw [← he, List.length_append]
      have := enc_ne m
      have : (enc m).length ≠ 0 := by simpa using this
      omega
    have HE := Lib.hid he; clear he
    by_cases h : m < 128
    · obtain ⟨fn, tmps, assign, body, hy, hR⟩ := hY pre (UInt8.ofNat m) wr hJ hlen
      rw [ofNat_lo h] at hy
      gi_wp2
      refine hR.mono ?_
      rintro e W3 (⟨rfl, hJ3, hk3⟩ | ⟨rfl, hJx3⟩)
      · gi_wp2
        go_end0
        exact ⟨⟨_, rfl⟩, .inl ⟨_, enc_split_lt HE.out h, hJ3⟩⟩
      · gi_wp2
        go_end0
        exact ⟨⟨_, rfl⟩, .inr ⟨_, by rw [enc_split_lt HE.out h]; exact List.prefix_rfl, hJx3⟩⟩
    · obtain ⟨fn, tmps, assign, body, hy, hR⟩ := hY pre (UInt8.ofNat (m % 128 + 128)) wr hJ hlen
      rw [← or_byte] at hy
      gi_wp2
      refine hR.mono ?_
      rintro e W3 (⟨rfl, hJ3, hk3⟩ | ⟨rfl, hJx3⟩)
      · have he2 := Lib.hid (enc_split_ge HE.out h)
        gi_wp2
        go_roundw
        case rel => exact ⟨m / 128, _, by go_num, by omega, he2.out, hJ3⟩
        case measure => simp [intOf]; omega
      · gi_wp2
        refine bodyPost_ret (results_none rfl _ _ _) rfl ?_
        exact ⟨⟨_, rfl⟩, .inr ⟨pre ++ [UInt8.ofNat (m % 128 + 128)], ⟨enc (m / 128), enc_split_ge HE.out h⟩, hJx3⟩⟩

set_option maxHeartbeats 1000000 in
/-- split: its argument is boxed; the function value captures the box. -/
theorem split_in (F : Fence) (n : Nat) (h5 : F.fn 24) (hro : F.round = none) (x : Nat) (w : World) :
    CallsIn F n Try.prog 24 #[.int .u64 x] w fun e w' => e = .returned (.func (.func 28) #[] #[.pointer (some ⟨w.heap.size, 0, none⟩)]) ∧ w' = w.alloc (.cells #[.int .u64 x] 22) := by
  refine callsIn_of_wp Try.func24 rfl h5 ?_ hro
  simp only [Try.ntmps24, List.size_toArray, List.length_cons, List.length_nil, Nat.reduceAdd, Nat.reduceSub, Array.replicate_succ, Array.replicate_zero, List.push_toArray, List.append_toArray, List.nil_append, List.cons_append]
  gi_wp2
  go_ret
  exact ⟨rfl, rfl⟩

/-- The iterator's contract. -/
theorem split_stops (F : Fence) (n : Nat) (h6 : F.fn 28) (hro : F.round = none) (hn : 1 ≤ n) (Bn n₀ : Nat) (x : Nat) (hx : x < 18446744073709551616) (w : World) (hBn : Bn < w.heap.size)
    (hc : w.cell? ⟨Bn, 0, none⟩ = some (.int .u64 x)) :
    SeqStopsK F n Try.prog 28 #[.pointer (some ⟨Bn, 0, none⟩)] (fun c : UInt8 => #[Value.int .u8 (c.toNat : Int)]) (Below n₀) (fun ys => ys = enc x) (fun pre => pre <+: enc x) (enc x).length w := fun l J Jx W hW _ _ hY h0 =>
  split1_in F n h6 hro hn l Bn n₀ x hx J Jx hY W ((hW.cell (p := ⟨Bn, 0, none⟩) hBn).trans hc) h0

theorem Try.infoB : (Try.prog.info? 5).map (fun i => (i.zero, i.size, i.bytes)) = some (some (.int .u8 0), 1, 1) := by kernel_rfl

set_option maxRecDepth 100000 in
set_option maxHeartbeats 2000000 in
/-- A number as the program writes it. -/
theorem number_in (F : Fence) (n : Nat) (h3 : F.fn 14) (h4 : F.fn 24) (h5 : F.fn 28) (hro : F.round = none) (hn : 3 ≤ n) (x : Nat) (hx : x < 18446744073709551616) (w : World) :
    CallsIn F n Try.prog 14 #[.int .u64 x] w fun e W' => e = .returned (.string ⟨(enc x).toArray⟩) ∧ Below w.heap.size w W' := by
  have h1 : 1 ≤ n := by omega
  obtain ⟨i0, hi, hz0, hz1, hz2⟩ := info_parts Try.infoB
  obtain ⟨M, hM⟩ : ∃ M, M = madeCells (Value.int .u8 0).cells ((10 : Int).toNat * i0.size) := ⟨_, rfl⟩
  have hMs : M.size = 10 * 1 := by rw [hM, size_madeCells, hz1]; rfl
  have hmk : ∀ W : World, (Instr.makeSlice 50 (.int .i64 0) (.int .i64 10)).run Try.prog W = .ok (.slice (some ⟨W.heap.size, 0, none⟩) 0 10) (W.alloc (.cells M 5)) := fun W => by
    have h := run_make (P := Try.prog) W 50 5 i0 (.int .u8 0) Try.underlying50 hi hz0 .i64 .i64 0 10 (by omega) (by omega) (by rw [hz2]; omega) (by omega)
    rw [← hM] at h
    simpa using h
  have HM := Lib.hid hM; clear hM
  have HMs := Lib.hid hMs; clear hMs
  refine callsIn_of_wp_marks Try.func14 rfl h3 ?_ hro
  simp only [Try.ntmps14, List.size_toArray, List.length_cons, List.length_nil, Nat.reduceAdd, Nat.reduceSub, Array.replicate_succ, Array.replicate_zero, List.push_toArray, List.append_toArray, List.nil_append, List.cons_append]
  gi_wp2_with (gi_at_call 24; refine (split_in F (n - 1) h4 hro _ _).mono ?_; rintro e w' ⟨rfl, rfl⟩)
  have hB0 : Below w.heap.size w (((w.alloc (.cells M 5)).alloc (.cells #[.slice (some ⟨w.heap.size, 0, none⟩) 0 10] 50)).alloc (.cells #[.int .u64 x] 22)) :=
    (((Below.refl _ w).alloc (Nat.le_refl _) _).alloc (by simp) _).alloc (by simp; omega) _
  have bO := Boxed.new (w.alloc (.cells M 5)) 50 (.slice (some ⟨w.heap.size, 0, none⟩) 0 10)
  have bN := Boxed.new ((w.alloc (.cells M 5)).alloc (.cells #[.slice (some ⟨w.heap.size, 0, none⟩) 0 10] 50)) 22 (.int .u64 x)
  simp only [World.size_alloc] at bO bN
  have hrow0 : (w.alloc (.cells M 5)).ownsRow w.heap.size 5 1 (.slice (some ⟨w.heap.size, 0, none⟩) 0 10) 0 [] := World.ownsRow_made w M 10 (Nat.le_refl _) (by unfold maxLen; omega) HMs.out
  refine wpIn_rangeFunc_ownG hro h1 (gf := 28) (lb := #[.pointer (some ⟨w.heap.size + 1 + 1, 0, none⟩)]) rfl h5 (enters_of Try.func28 (by kernel_rfl) rfl)
    (split_stops F (n - 1) h5 hro (by omega) (w.heap.size + 1 + 1) w.heap.size x hx _ (by simp) bN.cell) belowK_t (belowK_b (by simp; omega)) (Below.refl _ _) (fun _ => rfl)
    (fun pre W => (∃ v, Boxed W (w.heap.size + 1) 50 v ∧ W.ownsRow w.heap.size 5 1 v pre.length (u8s pre) ∧ True) ∧ Below w.heap.size w W)
    (fun _ _ _ => False)
    (OwnFrom.and (Own.from (holdsRow_own w.heap.size (w.heap.size + 1) 50 5 1 (fun pre => pre.length) (fun pre => u8s pre) (fun _ _ => True)) _) (ownFrom_below (Nat.le_refl _) (by simp; omega)))
    (fun _ _ _ _ _ hs _ _ => hs)
    ⟨⟨_, bO.alloc _, (hrow0.alloc _).alloc _, trivial⟩, hB0⟩
    (fun c => { tmps := #[.int .u64 x, undef, .string ⟨#[]⟩, .pointer (some ⟨w.heap.size + 1, 0, none⟩), .int .u8 (c.toNat : Int), .slice (some ⟨w.heap.size, 0, none⟩) 0 10, .int .u64 x, .func (.func 28) #[] #[.pointer (some ⟨w.heap.size + 1 + 1, 0, none⟩)], .int .u8 (c.toNat : Int), undef, undef, undef, undef, undef, undef], defers := [] }) ?assign ?body ?done ?stop
  case assign =>
    intro l c W K hK
    gi_wp2
    exact hK
  case body =>
    rintro l pre c W ⟨⟨v, hv, hrow, _⟩, hB⟩ hlt
    have hc := hv.cell
    have hl10 := enc_length10 hx
    have hcb := c.toNat_lt
    gi_wp2_with (gi_at_builtin; refine wpListIn_append_own _ rfl _ _ 50 rfl w.heap.size 5 i0 (.int .u8 0) 1 1 Try.underlying50 hi hz0 hz1 hz2 rfl (by decide) _ _ _ rfl (hrow.alloc _) ⟨W.heap.size, 0, none⟩ 1 1 [.int .u8 (c.toNat : Int)] rfl rfl (cell_one_new _ _ _) (by simp [Value.oneCell']) (by unfold maxLen; omega) (by omega) (by have := hB.size; simp; omega) ?_; intro v' w1 hown' hgrow _; obtain ⟨g', cap', rfl⟩ := ownsRow_succ hown'; obtain ⟨hv1, hv2, hr2, hk2, hb2⟩ := hv.appended (by decide) hrow hB.size (by omega) hown' hgrow; have hc1 := hv1.cell; have hf1 := hv1.frozen)
    exact ⟨hk2.from _, hb2, ⟨_, hv2, by rw [u8s_snoc]; simpa using hr2, trivial⟩, hB.trans hb2⟩
  case done =>
    rintro D ys W hD rfl ⟨⟨v, hv, hrow, _⟩, hB⟩ hK
    have hc := hv.cell
    have hconv := own_string Try.underlying50 Try.underlying5 Try.underlying9 hrow (by have := enc_ne x; simpa using this)
    gi_wp2
    refine ⟨by simp, .inl ⟨_, _, rfl, run_takeDeferred hK, ?_⟩⟩
    exact ⟨_, results_tmp rfl _ _ _, rfl, hB.trans (belowK_b (w := w) (Nat.le_refl _) W D _ _ (by simp at hD; omega) hK rfl rfl)⟩
  case stop =>
    rintro D c pre W _ _ h _
    exact h.elim

theorem number_any (x : Nat) (w : World) (hx : x < 18446744073709551616) :
    Calls Try.prog 14 #[.int .u64 x] w fun e W' => e = .returned (.string ⟨(enc x).toArray⟩) ∧ Below w.heap.size w W' :=
  (callsIn_wide (n := 3)).1 (number_in Fence.wide 3 trivial trivial trivial rfl (by omega) x hx w)

end Go.Proofs.Ytomikkcpahgoiaa
