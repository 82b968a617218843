/-
  The document's own text of layer 1 (code): signed numbers and texts, written and read: for every argument (texts of fewer than 2^62 bytes).
-/
import Derived.Test.YtomikkcpahgoiaaCodeRef
namespace Go.Proofs.Ytomikkcpahgoiaa
open Go.RowKit

set_option maxHeartbeats 1000000 in
theorem refSigned_any (x : Int) (w : World) (h1 : -9223372036854775808 ≤ x) (h2 : x ≤ 9223372036854775807) :
    Calls Try.prog 17 #[.int .i64 x] w fun e w' => e = .returned (.string ⟨(enc (zz x)).toArray⟩) ∧ Below w.heap.size w w' := by
  have hz := zz_lt h1 h2
  by_cases hx : x < 0
  · have hq : Hid (-(x + 1) * 2 + 1 = (zz x : Nat)) := Lib.hid (by unfold zz; rw [if_pos hx]; omega)
    go_enter Try.func17, Try.ntmps17
    go_wp2_with (go_at_call 15; rw [hq.out]; refine (refNumber_any _ _ hz).mono ?_; rintro e w' ⟨rfl, hb⟩)
    go_ret
    exact ⟨rfl, hb⟩
  · have hq : Hid (x * 2 = (zz x : Nat)) := Lib.hid (by unfold zz; rw [if_neg hx]; omega)
    go_enter Try.func17, Try.ntmps17
    go_wp2_with (go_at_call 15; rw [hq.out]; refine (refNumber_any _ _ hz).mono ?_; rintro e w' ⟨rfl, hb⟩)
    go_ret
    exact ⟨rfl, hb⟩

set_option maxHeartbeats 1000000 in
theorem refText_any (s : ByteArray) (w : World) (hs : s.size ≤ 4611686018427387904) :
    Calls Try.prog 19 #[.string s] w fun e w' => e = .returned (.string (txt s)) ∧ Below w.heap.size w w' := by
  have hl : (⟨(enc s.size).toArray⟩ : ByteArray).size ≤ 10 := enc_length10 (by omega)
  go_enter Try.func19, Try.ntmps19
  go_wp2_with (go_at_call 15; refine (refNumber_any _ _ (by omega)).mono ?_; rintro e w' ⟨rfl, hb⟩)
  go_ret
  exact ⟨rfl, hb⟩

theorem refRead_any (s : ByteArray) (a : Int) (w : World) (hs : s.size ≤ maxLen) :
    Calls Try.prog 8 #[.string s, .int .i64 a] w fun e w' => e = .returned (.tuple #[.int .u64 (rdN s a).1, .int .i64 (rdN s a).2.1, .int .i64 (rdN s a).2.2]) ∧ w = w' := by
  by_cases h : a < 0 ∨ (s.size : Int) < a
  · rw [rdN_place h]; exact refRead_place s a w hs h
  · obtain ⟨n, rfl⟩ : ∃ n : Nat, a = n := ⟨a.toNat, by omega⟩
    exact refRead_in s n w hs (by omega)

set_option maxRecDepth 100000 in
set_option maxHeartbeats 1000000 in
theorem refReadSigned_any (s : ByteArray) (a : Int) (w : World) (hs : s.size ≤ maxLen) :
    Calls Try.prog 10 #[.string s, .int .i64 a] w fun e w' => e = .returned (.tuple #[.int .i64 (rdS s a).1, .int .i64 (rdS s a).2.1, .int .i64 (rdS s a).2.2]) ∧ w = w' := by
  have hc := refRead_any s a w hs
  have hb := rdN_bd s a
  unfold rdS
  generalize rdN s a = r at hc hb ⊢
  obtain ⟨n, i, e⟩ := r
  dsimp only at hc hb ⊢
  obtain ⟨hn, hi0, hi1, he⟩ := hb
  rcases he with he | ⟨hn0, hi00, he⟩
  · subst he
    by_cases h : n % 2 = 1
    · go_enter Try.func10, Try.ntmps10
      go_wp2_with (go_at_call 8; refine hc.mono ?_; rintro e w' ⟨rfl, rfl⟩)
      go_ret3
      exact ⟨ret_int3 (by unfold unzz; rw [if_pos h]; omega) rfl rfl, rfl⟩
    · go_enter Try.func10, Try.ntmps10
      go_wp2_with (go_at_call 8; refine hc.mono ?_; rintro e w' ⟨rfl, rfl⟩)
      go_ret3
      exact ⟨ret_int3 (by unfold unzz; rw [if_neg h]; omega) rfl rfl, rfl⟩
  · subst hn0; subst hi00
    rcases he with rfl | rfl | rfl
    all_goals
      go_enter Try.func10, Try.ntmps10
      go_wp2_with (go_at_call 8; refine hc.mono ?_; rintro e w' ⟨rfl, rfl⟩)
      go_ret3
      exact ⟨ret_int3 (by decide) rfl rfl, rfl⟩

set_option maxRecDepth 100000 in
set_option maxHeartbeats 1000000 in
theorem refReadText_any (s : ByteArray) (a : Int) (w : World) (hs : s.size ≤ 4611686018427387904) :
    Calls Try.prog 12 #[.string s, .int .i64 a] w fun e w' => e = .returned (.tuple #[.string (rdT s a).1, .int .i64 (rdT s a).2.1, .int .i64 (rdT s a).2.2]) ∧ w = w' := by
  have hc := refRead_any s a w (by unfold maxLen; omega)
  have hb := rdN_bd s a
  unfold rdT
  generalize rdN s a = r at hc hb ⊢
  obtain ⟨n, i, e⟩ := r
  dsimp only at hc hb ⊢
  obtain ⟨hn, hi0, hi1, he⟩ := hb
  obtain ⟨j, rfl⟩ : ∃ j : Nat, i = j := ⟨i.toNat, by omega⟩
  rcases he with he | ⟨hn0, hi00, he⟩
  · subst he
    rw [if_neg (by omega)]
    by_cases h : s.size - j < n
    · rw [if_pos (by omega)]
      have hd : ((s.size : Int) - j) < n := by omega
      go_enter Try.func12, Try.ntmps12
      go_wp2_with (go_at_call 8; refine hc.mono ?_; rintro e w' ⟨rfl, rfl⟩)
      go_ret3
      exact ⟨rfl, rfl⟩
    · rw [if_neg (by omega)]
      have hd : (n : Int) ≤ ((s.size : Int) - j) := by omega
      go_enter Try.func12, Try.ntmps12
      go_wp2_with (go_at_call 8; refine hc.mono ?_; rintro e w' ⟨rfl, rfl⟩)
      go_ret3
      exact ⟨rfl, rfl⟩
  · obtain rfl : j = 0 := by omega
    subst hn0
    rw [if_pos (by omega)]
    rcases he with rfl | rfl | rfl
    all_goals
      go_enter Try.func12, Try.ntmps12
      go_wp2_with (go_at_call 8; refine hc.mono ?_; rintro e w' ⟨rfl, rfl⟩)
      go_ret3
      exact ⟨rfl, rfl⟩

end Go.Proofs.Ytomikkcpahgoiaa
