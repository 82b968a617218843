/-
  slices.Repeat of one element, at texts and at truth values: so many of it, in memory of the call's own.
-/
import Derived.Test.YtihmgamdnmipaaaDevShelf
import Derived.Test.YtihmgamdnmipaaaDevSame
import Derived.Laws.CopyOwn
import Derived.Deep.RegionLaw
namespace Go.Proofs.Ytihmgamdnmipaaa
open Go.RowKit

/-- The list with its first k elements u. -/
def Head (u : Value) (k : Nat) (cur : List Value) : Prop := ∀ j, j < k → cur[j]? = some u
theorem Head.splice {u : Value} {k m N : Nat} {cur : List Value} (h : Head u k cur) (hl : cur.length = N) (hk : k + m ≤ N) : Head u (k + m) (splice cur k (List.replicate m u)) := by
  intro j hj
  unfold Go.splice
  rw [List.getElem?_append]
  split
  · next hjk =>
    rw [List.length_take] at hjk
    rw [List.getElem?_take, if_pos (by omega)]
    exact h j (by omega)
  · next hjk =>
    rw [List.length_take] at hjk
    rw [List.getElem?_append_left (by simp [List.length_take]; omega), List.getElem?_replicate, if_pos (by rw [List.length_take]; omega)]
theorem Head.all {u : Value} {N : Nat} {cur : List Value} (h : Head u N cur) (hl : cur.length = N) : cur = List.replicate N u := by
  refine List.ext_getElem? fun j => ?_
  by_cases hj : j < N
  · rw [h j hj, List.getElem?_replicate, if_pos hj]
  · rw [List.getElem?_eq_none (by omega), List.getElem?_replicate, if_neg hj]
theorem mul_one_any (N : Nat) (hN : N ≤ 4096) (W : World) : Calls Try.prog 72 #[.int .u64 1, .int .u64 N] W fun e w' => e = .returned (.tuple #[.int .u64 0, .int .u64 N]) ∧ W = w' :=
  (Try.bits_Mul 1 N (by decide) (by omega) W).mono fun e w' ⟨h1, h2⟩ => ⟨by rw [h1, Nat.one_mul, Nat.div_eq_of_lt (by omega), Nat.mod_eq_of_lt (by omega)]; rfl, h2.symm⟩

set_option maxRecDepth 100000 in
set_option maxHeartbeats 2000000 in
theorem repeatS_any (b : Nat) (u : Value) (N : Nat) (w : World) (hb : b < w.heap.size) (hu : w.cell? ⟨b, 0, none⟩ = some u) (h1 : u.oneCell' = true) (hN : N ≤ 4096) :
    Calls Try.prog 44 #[.slice (some ⟨b, 0, none⟩) 1 1, .int .i64 N] w fun e w' => ∃ A c, e = .returned (.slice A N c) ∧ w'.ownsRow w.heap.size 9 1 (.slice A N c) N (List.replicate N u) ∧ Below w.heap.size w w' := by
  have c1 := fun W => mul_one_any N hN W
  have hU := Lib.hid (And.intro hu h1)
  have hcu : IntKind.u64.wrap (N : Int) = (N : Int) := IntWalk.u64_in _ (by omega)
  have hci : IntKind.i64.wrap (N : Int) = (N : Int) := IntWalk.i64_in _ (by omega)
  have hd : decide ((9223372036854775807 : Int) < (N : Int)) = false := by simp; omega
  have hB := Lib.hid hb
  have hd0 : decide ((N : Int) < 0) = false := by simp
  obtain ⟨i0, hi0, hz0, hz1, hz2⟩ := info_parts infoS
  clear hu h1 hb
  go_enter Try.func44, Try.ntmps44
  go_wp2_with (first
    | (go_at_call 72; refine (c1 _).mono ?_; rintro e w' ⟨rfl, rfl⟩)
    | (at_make; refine wpList_make_full _ rfl _ _ 22 rfl w.heap.size 9 i0 _ 1 Try.underlying22 hi0 hz0 hz1 _ _ _ _ N rfl rfl rfl rfl ?_ ?_ ?_ ?_))
  · rw [hz2]; omega
  · simp only [maxLen]; omega
  · exact Nat.le_refl _
  intro w1 ho1 hg1
  obtain ⟨cur0, hcur0, hl0⟩ : ∃ cur : List Value, w1.heap[w.heap.size]? = some (.cells cur.toArray 9 (0, 0)) ∧ cur.length = N := by
    rcases ho1.2 with ⟨h', _⟩ | ⟨g', cap', cur, h', _, hh, _, _, hs, _⟩
    · simp at h'
    · simp only [Value.slice.injEq, Option.some.injEq, Addr.mk.injEq, and_true, true_and] at h'
      obtain ⟨rfl, rfl⟩ := h'
      exact ⟨cur.toList, by rw [Array.toArray_toList]; exact hh, by simpa using hs⟩
  have hb1 : Below w.heap.size w w1 := (Below.refl _ _).grown hg1 (Nat.le_refl _) (by intro k hk; cases hk)
  obtain ⟨M, hM⟩ : ∃ M, M = Nat.min 1 N := ⟨_, rfl⟩
  have hM1 : M ≤ N := by rw [hM]; exact Nat.min_le_right _ _
  have hM2 : M = 1 ∨ N = 0 := by rw [hM]; simp only [Nat.min_def]; split <;> omega
  have HM := Lib.hid hM; clear hM
  have HM2 := Lib.hid hM2; clear hM2
  have hlen : (List.replicate M u).length = M := List.length_replicate
  have hsrc : ∀ j v, (List.replicate M u)[j]? = some v → w1.cell? ⟨b, j, none⟩ = some v := by
    intro j v hj
    rw [List.getElem?_replicate] at hj
    split at hj
    · next hjM =>
      have : j = 0 := by rcases HM2.out with h | h <;> omega
      subst this
      rw [hb1.cell (p := ⟨b, 0, none⟩) hB.out, hU.out.1]
      exact hj
    · cases hj
  have H0 := Lib.hid (And.intro hcur0 (And.intro hl0 (And.intro hlen (And.intro hsrc hb1))))
  clear hcur0 hl0 hlen hsrc hb1 ho1 hg1
  go_wp2_with (with_reducible refine wpList_copy_splice (o := ⟨some 33, _, _, _, _, _⟩) rfl (.tmp 31) (.tmp 32) 22 22 rfl 9 Try.underlying22 (by kernel_rfl) _ _ N N 1 1 rfl rfl w.heap.size 0 cur0 9 H0.out.1 (List.replicate M u) ?_ ?_ ?_ ?_ w.heap.size w H0.out.2.2.2.2 (Nat.le_refl _) ?_)
  · rw [H0.out.2.2.1]; exact HM.out
  · exact fun _ => H0.out.2.2.2.1
  · rw [H0.out.2.2.1, H0.out.2.1]; omega
  · intro v hv; rw [List.eq_of_mem_replicate hv]; exact hU.out.2
  intro w2 hh2 hb2
  have J0 : Hid (w2.heap[w.heap.size]? = some (.cells (splice cur0 0 (List.replicate M u)).toArray 9 (0, 0)) ∧ (splice cur0 0 (List.replicate M u)).length = N ∧ Head u M (splice cur0 0 (List.replicate M u))) :=
    Lib.hid ⟨hh2.out, by rw [length_splice _ _ _ (by rw [H0.out.2.2.1, H0.out.2.1]; omega)]; exact H0.out.2.1, by
      have := Head.splice (u := u) (k := 0) (m := M) (N := N) (cur := cur0) (fun j hj => absurd hj (Nat.not_lt_zero _)) H0.out.2.1 (by omega)
      rwa [Nat.zero_add] at this⟩
  generalize splice cur0 0 (List.replicate M u) = cur1 at J0
  clear H0 hh2
  go_wp2
  go_loopg [8] N (fun g s8 wr => ∃ (k : Nat) (cur : List Value), k ≤ N ∧ N - k ≤ g ∧ s8 = .int .i64 k ∧ (k = 0 → N = 0) ∧ Hid (wr.heap[w.heap.size]? = some (.cells cur.toArray 9 (0, 0)) ∧ cur.length = N ∧ Head u k cur) ∧ Below w.heap.size w wr)
  case atStart => exact ⟨M, cur1, hM1, by omega, rfl, fun h => by rcases HM2.out with h2 | h2 <;> omega, J0, hb2⟩
  case round =>
    obtain ⟨k, cur, hk, hg, rfl, hk0, J, hbw⟩ := hrel
    by_cases hlt : k < N
    · have hk1 : (k : Int) < (N : Int) := by omega
      obtain ⟨P, hP⟩ : ∃ P, P = Nat.min k (N - k) := ⟨_, rfl⟩
      have hP1 : P ≤ k := by rw [hP]; exact Nat.min_le_left _ _
      have hP2 : P ≤ N - k := by rw [hP]; exact Nat.min_le_right _ _
      have hP3 : 0 < P := by rw [hP]; simp only [Nat.min_def]; split <;> omega
      have HP := Lib.hid hP; clear hP
      have hlen : (List.replicate P u).length = P := List.length_replicate
      have hsrc : ∀ j v, (List.replicate P u)[j]? = some v → wr.cell? ⟨w.heap.size, j, none⟩ = some v := by
        intro j v hj
        rw [List.getElem?_replicate] at hj
        split at hj
        · next hjM =>
          rw [cell_of_row wr w.heap.size j cur.toArray 9 (0, 0) J.out.1, ← hj]
          simpa using J.out.2.2 j (by omega)
        · cases hj
      have HL := Lib.hid (And.intro hlen hsrc); clear hlen hsrc
      have HW := Lib.hid hbw; clear hbw
      have hne : ¬ N = k := by omega
      have hkp : (k : Int) + (P : Int) ≤ 4096 := by omega
      have hkP : IntKind.i64.wrap ((k : Int) + (P : Int)) = (k : Int) + (P : Int) := IntWalk.i64_in _ (by omega)
      go_wp2_with fail
      go_region_law (refine step_copy_splice rfl (.tmp 41) (.tmp 44) 22 22 rfl 9 Try.underlying22 (by kernel_rfl) (some ⟨w.heap.size, k, none⟩) (some ⟨w.heap.size, 0, none⟩) (N - k) (N - k) k N (by simp [Act.eval, Act.put, hne]) (by simp [Act.eval, Act.put]) w.heap.size k cur 9 J.out.1 (List.replicate P u) (HL.out.1.trans HP.out) (fun _ => ⟨rfl, _, rfl, fun j v h => (congrArg wr.cell? (show (⟨w.heap.size, 0, none⟩ : Addr).add j = ⟨w.heap.size, j, none⟩ by rw [Go.WideShapes.add_plain, Nat.zero_add])).trans (HL.out.2 j v h)⟩) (by rw [HL.out.1, J.out.2.1]; omega) (fun v hv => by rw [List.eq_of_mem_replicate hv]; exact hU.out.2) w.heap.size w (HW.out.drew) (Nat.le_refl _) ?_; intro w4 hh4 hb4)
      have J4 : Hid (w4.heap[w.heap.size]? = some (.cells (splice cur k (List.replicate P u)).toArray 9 (0, 0)) ∧ (splice cur k (List.replicate P u)).length = N ∧ Head u (k + P) (splice cur k (List.replicate P u))) :=
        Lib.hid ⟨hh4.out, by rw [length_splice _ _ _ (by rw [HL.out.1, J.out.2.1]; omega)]; exact J.out.2.1, Head.splice J.out.2.2 J.out.2.1 (by omega)⟩
      generalize splice cur k (List.replicate P u) = cur4 at J4
      clear hh4 HL HP J
      go_wp2
      go_roundg (N - (k + P))
      case measure => omega
      case rel => exact ⟨k + P, cur4, by omega, by omega, by go_num, fun h => by omega, J4, hb4⟩
    · have : k = N := by omega
      subst this
      go_wp2
      go_ret
      refine ⟨some ⟨w.heap.size, 0, none⟩, k, rfl, ⟨by simp, .inr ⟨w.heap.size, k, cur.toArray, rfl, Nat.le_refl _, J.out.1, Nat.le_refl _, by simp only [maxLen]; omega, by simpa using J.out.2.1, ?_⟩⟩, hbw⟩
      rw [Head.all J.out.2.2 J.out.2.1]
      simp

end Go.Proofs.Ytihmgamdnmipaaa
