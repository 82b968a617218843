/-
  Decimal numbers, as the document reads them.
-/
import Derived.Test.YtdilnofolnabdaaDoorTextNumber
namespace Go.Proofs.YtdilnofolnabdaaDoor
open Go.RowKit

theorem not_empty {s : ByteArray} (h : ¬ s.size < 1) : (s.toList == []) = false := by
  rw [beq_eq_false_iff_ne, ByteArray.toList_eq]
  intro e
  have := congrArg List.length e
  rw [← bsize] at this
  simp at this
  simp [this] at h

set_option maxRecDepth 100000 in
set_option maxHeartbeats 2000000 in
theorem refNumber_any (s : ByteArray) (hs : s.size ≤ 16777216) (most : Int) (w : World) :
    Calls Tryd.prog 33 #[.string s, .int .i64 most] w fun e w' => e = .returned (.tuple #[.int .i64 (numV s.data.toList most).1, .bool (numV s.data.toList most).2]) ∧ w' = w := by
  have hsz := bsize s
  by_cases h0 : s.size < 1
  · have e : Hid (numV s.data.toList most = (0, false)) := Lib.hid (by
      unfold numV; rw [if_pos (.inl (List.eq_nil_of_length_eq_zero (by omega)))])
    obtain rfl : s = ⟨#[]⟩ := by
      have := of_mk (List.eq_nil_of_length_eq_zero (l := s.data.toList) (by omega))
      exact this
    clear hsz
    go_enter Tryd.func33, Tryd.ntmps33
    go_wp2
    go_ret2
    exact ⟨by rw [e.out]; rfl, rfl⟩
  · have hne := not_empty h0
    by_cases h18 : 18 < s.size
    · have e : Hid (numV s.data.toList most = (0, false)) := Lib.hid (by
        unfold numV; rw [if_pos (.inr (by omega))])
      clear hsz
      go_enter Tryd.func33, Tryd.ntmps33
      go_wp2
      go_ret2
      exact ⟨by rw [e.out]; rfl, rfl⟩
    · have eV : Hid (numV s.data.toList most = (match numL s.data.toList 0 with | some n => if most < n then (0, false) else ((n : Int), true) | none => (0, false))) := Lib.hid (by
        unfold numV
        rw [if_neg (by
          intro h
          rcases h with h | h
          · have := congrArg List.length h
            simp only [List.length_nil] at this
            omega
          · omega)]
        rfl)
      have HS := Lib.hid hsz; clear hsz
      go_enter Tryd.func33, Tryd.ntmps33
      go_wp2
      go_loopw [6, 7] (fun v p wr => ∃ k n : Nat, p = .int .i64 k ∧ v = .int .i64 n ∧ k ≤ s.size ∧ Hid (n < 10 ^ k) ∧ wr = w ∧ Hid (numL s.data.toList 0 = numL (s.data.toList.drop k) n)) (fun _ p _ => s.size - (intOf p).toNat)
      case atStart => exact ⟨0, 0, rfl, rfl, Nat.zero_le _, Lib.hid (by decide), rfl, Lib.hid rfl⟩
      case round =>
        obtain ⟨k, n, rfl, rfl, hk, HP, rfl, HN⟩ := hrel
        by_cases hlt : k < s.size
        · have hc := s[k].toNat_lt
          have hg := getD_get hlt
          cases hd : digN s[k].toNat
          · have e : Hid (numV s.data.toList most = (0, false)) := Lib.hid (by
              rw [eV.out, HN.out, numL_stop (by rw [← HS.out]; exact hlt) (by rw [hg]; exact hd)])
            clear hg
            go_wp2_with (go_at_call 58; refine (refDigit_any _ hc _).mono ?_; rintro e w' ⟨rfl, rfl⟩)
            go_ret2
            exact ⟨by rw [e.out]; rfl, by first | rfl | trivial⟩
          · have hdi := digN_in hd
            have hn1 : n * 10 + (s[k].toNat - 48) < 10 ^ (k + 1) := by
              have := HP.out
              rw [Nat.pow_succ]; omega
            have hn2 := pow10_le (k := k + 1) (by omega)
            have HN2 : Hid (numL s.data.toList 0 = numL (s.data.toList.drop (k + 1)) (n * 10 + (s[k].toNat - 48))) := Lib.hid (by
              rw [HN.out, numL_step (by rw [← HS.out]; exact hlt) (by rw [hg]; exact hd), hg])
            have hb : n * 10 + (s[k].toNat - 48) < 1000000000000000000 := by omega
            have HP2 := Lib.hid hn1
            clear hg hn1 hn2
            go_wp2_with (go_at_call 58; refine (refDigit_any _ hc _).mono ?_; rintro e w' ⟨rfl, rfl⟩)
            go_round
            case rel => exact ⟨k + 1, n * 10 + (s[k].toNat - 48), by go_num, by go_num, by omega, HP2, by first | rfl | trivial, HN2⟩
            case measure => simp [intOf]; omega
        · obtain rfl : k = s.size := by omega
          have hv : numL s.data.toList 0 = some n := by
            rw [HN.out, List.drop_eq_nil_of_le (by rw [← HS.out]; exact Nat.le_refl _), numL]
          have hb : n < 1000000000000000000 := by
            have := HP.out
            have := pow10_le (k := s.size) (by omega)
            omega
          by_cases hm : most < n
          · have e : Hid (numV s.data.toList most = (0, false)) := Lib.hid (by rw [eV.out, hv]; simp [hm])
            clear hv
            go_wp2
            go_ret2
            exact ⟨by rw [e.out]; rfl, by first | rfl | trivial⟩
          · have e : Hid (numV s.data.toList most = ((n : Int), true)) := Lib.hid (by rw [eV.out, hv]; simp [hm])
            clear hv
            go_wp2
            go_ret2
            exact ⟨by rw [e.out]; rfl, by first | rfl | trivial⟩

end Go.Proofs.YtdilnofolnabdaaDoor
