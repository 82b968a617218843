/-
  Whether one text stands in another one, as the program and as the document tell.
-/
import Derived.Test.YtdilnofolnabdaaDoorTextLowerR
import Derived.Lib.IndexMore
namespace Go.Proofs.YtdilnofolnabdaaDoor
open Go.RowKit

theorem occ_eq {s t : ByteArray} {k : Nat} (_hk : k + s.size ≤ t.size) : ((t.extract k (k + s.size)).toList == s.toList) = Lib.occAt t.data.toList s.data.toList k := by
  rw [ByteArray.toList_eq, ByteArray.toList_eq, ByteArray.data_extract, Array.toList_extract, List.extract_eq_take_drop]
  have h1 : k + s.size - k = s.data.toList.length := by rw [← bsize]; omega
  rw [h1]
  unfold Lib.occAt
  rw [Bool.eq_iff_iff, beq_iff_eq, List.isPrefixOf_iff_prefix, List.prefix_iff_eq_take]
  exact eq_comm

set_option maxRecDepth 100000 in
set_option maxHeartbeats 1000000 in
theorem refAt_any (s t : ByteArray) (hs : s.size ≤ 16777216) (ht : t.size ≤ 16777216) (w : World) :
    Calls Tryd.prog 24 #[.string s, .string t] w fun e w' => e = .returned (.int .i64 (Lib.index t.data.toList s.data.toList)) ∧ w' = w := by
  go_enter Tryd.func24, Tryd.ntmps24
  go_wp2
  go_loopw [5] (fun p wr => ∃ k : Nat, p = .int .i64 k ∧ k ≤ t.size + 1 ∧ wr = w ∧ Hid (∀ j, j < k → Lib.occAt t.data.toList s.data.toList j = false)) (fun p _ => t.size + 1 - (intOf p).toNat)
  case atStart => exact ⟨0, rfl, Nat.zero_le _, rfl, Lib.hid fun j hj => absurd hj (Nat.not_lt_zero _)⟩
  case round =>
    obtain ⟨k, rfl, hk, rfl, HN⟩ := hrel
    by_cases hlt : k + s.size ≤ t.size
    · have hq := occ_eq hlt
      cases ho : Lib.occAt t.data.toList s.data.toList k
      · rw [ho] at hq
        have HN2 : Hid (∀ j, j < k + 1 → Lib.occAt t.data.toList s.data.toList j = false) := Lib.hid fun j hj => by
          by_cases e : j = k
          · subst e; exact ho
          · exact HN.out j (by omega)
        clear ho
        have hd : (k : Int) + (s.size : Int) ≤ (t.size : Int) := by omega
        go_wp2
        go_round
        case rel => exact ⟨k + 1, by go_num, by omega, by first | rfl | trivial, HN2⟩
        case measure => simp [intOf]; omega
      · rw [ho] at hq
        have HI : Hid (Lib.index t.data.toList s.data.toList = k) := Lib.hid (Lib.index_first (by rw [← bsize]; omega) ho HN.out)
        clear ho
        have hd : (k : Int) + (s.size : Int) ≤ (t.size : Int) := by omega
        go_wp2
        go_ret
        refine ⟨?_, ?_⟩
        · rw [HI.out]; rfl
        · rfl
    · have HI : Hid (Lib.index t.data.toList s.data.toList = -1) := Lib.hid (Lib.index_none fun j hj => by
        by_cases h : j < k
        · exact HN.out j h
        · cases ho : Lib.occAt t.data.toList s.data.toList j
          · rfl
          · unfold Lib.occAt at ho
            rw [List.isPrefixOf_iff_prefix] at ho
            have := ho.length_le
            rw [List.length_drop, ← bsize, ← bsize] at this
            rw [← bsize] at hj
            exfalso
            have : s.size ≠ 0 ∨ t.size < j + s.size := by omega
            omega)
      have hd : (t.size : Int) < (k : Int) + (s.size : Int) := by omega
      go_wp2
      go_ret
      exact ⟨by rw [HI.out]; rfl, rfl⟩

end Go.Proofs.YtdilnofolnabdaaDoor
