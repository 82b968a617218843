/-
  The contracts of slices.Clone and slices.Equal at texts and at writes: for all slices, nil and empty ones too.
-/
import Derived.Test.YtihmgamdnmipaaaDevMem
import Derived.WalkSpells
import Derived.WalkLawsBesides
import Derived.Deep.LoopGhost
import Derived.Deep.QuietTactic
import Derived.BigQuiet
import Derived.Laws.StructEq
namespace Go.Proofs.Ytihmgamdnmipaaa
open Go.RowKit

set_option maxHeartbeats 1000000 in
theorem cloneS_any (A : Option Addr) (n c : Nat) (bs : List ByteArray) (w : World) (h : Reads w w.heap.size 1 A n (encS bs)) (hb : n * 16 ≤ 140737488355328) :
    Calls Try.prog 52 #[.slice A n c] w fun e w' => ∃ A2 c2, e = .returned (.slice A2 n c2) ∧ w'.ownsRow w.heap.size 9 1 (.slice A2 n c2) n (encS bs) ∧ Below w.heap.size w w' := by
  have q := fun (w : World) (a : Option Addr) (n c n' c' : Nat) => Lib.run_eql_slice_nil (P := Try.prog) w _ _ a n c n' c' Try.underlying22
  obtain ⟨i0, hi0, hz0, hz1, hz2⟩ := info_parts infoS
  rcases A with _ | ad
  · have hn : n = 0 := by
      rcases Nat.eq_zero_or_pos n with h0 | h0
      · exact h0
      · obtain ⟨_, _, e, _⟩ := h.2 h0
        cases e
    subst hn
    have he : encS bs = [] := List.eq_nil_of_length_eq_zero (by have := h.1; omega)
    have H := Lib.hid he; clear he
    go_enter Try.func52, Try.ntmps52
    go_wp2
    go_ret
    exact ⟨none, 0, rfl, by rw [H.out]; exact own_nil, Below.refl _ _⟩
  · have hr := Lib.hid h; clear h
    go_enter Try.func52, Try.ntmps52
    go_wp2_with (at_builtin; refine wpList_append_reads _ rfl _ _ 22 rfl w.heap.size 9 i0 _ 1 16 Try.underlying22 hi0 hz0 hz1 hz2 rfl (by omega) _ 0 _ rfl (World.ownsRow_made w #[] 0 (Nat.le_refl _) (Nat.zero_le _) (by simp)) _ (some ad) n c (encS bs) rfl (hr.out.alloc _) (encS_one bs) ?_ ?_ ?_ ?_)
    · simp only [maxLen]; omega
    · rw [Nat.zero_add]; exact hb
    · simp
    intro A2 c2 w1 hown hgrow _
    go_wp2
    go_ret
    refine ⟨_, _, rfl, by simpa using hown, ?_⟩
    exact ((Below.refl _ w).alloc (Nat.le_refl _) _).grown hgrow (by simp) (by intro k hk; simp [Value.ownBlock] at hk; omega)

theorem ne_of_blk {xs ys : List ByteArray} {k : Nat} (h : blk xs k ≠ blk ys k) : xs ≠ ys := fun e => h (by rw [e])
theorem eq_of_blk {xs ys : List ByteArray} (hl : xs.length = ys.length) (h : ∀ j, j < xs.length → blk xs j = blk ys j) : xs = ys := by
  refine List.ext_getElem? fun j => ?_
  by_cases hj : j < xs.length
  · rw [blk_get hj, blk_get (by omega), h j hj]
  · rw [List.getElem?_eq_none (by omega), List.getElem?_eq_none (by omega)]
theorem ne_of_wr {xs ys : List (Int × ByteArray)} {k : Nat} (h : ¬ (wAt xs k = wAt ys k ∧ wDat xs k = wDat ys k)) : xs ≠ ys := fun e => h (by rw [e]; exact ⟨rfl, rfl⟩)
theorem eq_of_wr {xs ys : List (Int × ByteArray)} (hl : xs.length = ys.length) (h : ∀ j, j < xs.length → wAt xs j = wAt ys j ∧ wDat xs j = wDat ys j) : xs = ys := by
  refine List.ext_getElem? fun j => ?_
  by_cases hj : j < xs.length
  · rw [wr_get hj, wr_get (by omega), (h j hj).1, (h j hj).2]
  · rw [List.getElem?_eq_none (by omega), List.getElem?_eq_none (by omega)]
theorem bytes_same {a b : ByteArray} (h : a = b) : (a.toList == b.toList) = true := by subst h; simp
theorem bytes_inj {a b : ByteArray} (h : a.toList = b.toList) : a = b := by
  rw [ByteArray.toList_eq, ByteArray.toList_eq] at h
  obtain ⟨x⟩ := a
  obtain ⟨y⟩ := b
  exact congrArg ByteArray.mk (Array.toList_inj.1 h)
theorem bytes_other {a b : ByteArray} (h : a ≠ b) : (a.toList == b.toList) = false := by
  rw [beq_eq_false_iff_ne]
  exact fun e => h (bytes_inj e)

end Go.Proofs.Ytihmgamdnmipaaa
