/-
  Signed numbers and texts as the program writes and reads them: for every argument (texts of at most 2^48 bytes, what is read of at most 2^50).
-/
import Derived.Test.YtomikkcpahgoiaaShelf
import Derived.Test.YtomikkcpahgoiaaCodeNumber
import Derived.Test.YtomikkcpahgoiaaCodeRead
import Derived.WalkSpells
import Derived.WalkLawsBesides
namespace Go.Proofs.Ytomikkcpahgoiaa
open Go.RowKit

set_option maxHeartbeats 1000000 in
theorem signed_any (x : Int) (w : World) (h1 : -9223372036854775808 ≤ x) (h2 : x ≤ 9223372036854775807) :
    Calls Try.prog 16 #[.int .i64 x] w fun e w' => e = .returned (.string ⟨(enc (zz x)).toArray⟩) ∧ Below w.heap.size w w' := by
  have hz := zz_lt h1 h2
  by_cases hx : x < 0
  · have hq := Lib.hid (signed_neg h1 hx)
    go_enter Try.func16, Try.ntmps16
    go_wp2_with (go_at_call 14; rw [hq.out]; refine (number_any _ _ hz).mono ?_; rintro e w' ⟨rfl, hb⟩)
    go_ret
    exact ⟨rfl, hb⟩
  · have hq : Hid (x * 2 = (zz x : Nat)) := Lib.hid (by unfold zz; rw [if_neg hx]; omega)
    go_enter Try.func16, Try.ntmps16
    go_wp2_with (go_at_call 14; rw [hq.out]; refine (number_any _ _ hz).mono ?_; rintro e w' ⟨rfl, hb⟩)
    go_ret
    exact ⟨rfl, hb⟩

set_option maxHeartbeats 1000000 in
theorem text_any (s : ByteArray) (w : World) (hs : s.size ≤ 4611686018427387904) :
    Calls Try.prog 18 #[.string s] w fun e w' => e = .returned (.string (txt s)) ∧ Below w.heap.size w w' := by
  have hl : (⟨(enc s.size).toArray⟩ : ByteArray).size ≤ 10 := enc_length10 (by omega)
  go_enter Try.func18, Try.ntmps18
  go_wp2_with (go_at_call 14; refine (number_any _ _ (by omega)).mono ?_; rintro e w' ⟨rfl, hb⟩)
  go_ret
  exact ⟨rfl, hb⟩

set_option maxHeartbeats 1000000 in
theorem clone_any (s : ByteArray) (w : World) (hs : s.size ≤ 281474976710656) :
    Calls Try.prog 23 #[.string s] w fun e w' => e = .returned (.string s) ∧ Below w.heap.size w w' := by
  go_enter Try.func23, Try.ntmps23
  go_wp2_with (go_at_call 27; refine (Try.stringslite_Clone _ _ hs).mono ?_; rintro e w' ⟨rfl, hb⟩)
  go_ret
  exact ⟨rfl, hb⟩

set_option maxRecDepth 100000 in
set_option maxHeartbeats 1000000 in
theorem readSigned_any (s : ByteArray) (a : Int) (w : World) (hs : s.size ≤ 1125899906842624) :
    Calls Try.prog 9 #[.string s, .int .i64 a] w fun e w' => e = .returned (.tuple #[.int .i64 (rdS s a).1, .int .i64 (rdS s a).2.1, .int .i64 (rdS s a).2.2]) ∧ Below w.heap.size w w' := by
  have hc := readNumber_any s a w hs
  have hb := rdN_bd s a
  unfold rdS
  generalize rdN s a = r at hc hb ⊢
  obtain ⟨n, i, e⟩ := r
  dsimp only at hc hb ⊢
  obtain ⟨hn, hi0, hi1, he⟩ := hb
  by_cases hpar : n % 2 = 1
  · have hq : (bits .and .u64 (n : Int) 1 == 1) = true := by rw [and_one64 _ hn, hpar]; rfl
    have hx := Lib.hid (not64 (n / 2) (by omega))
    go_enter Try.func9, Try.ntmps9
    go_wp2_with (go_at_call 7; refine hc.mono ?_; rintro e w' ⟨rfl, hb⟩)
    go_ret3
    exact ⟨ret_int3 (by unfold unzz; rw [if_pos hpar, show ((n : Int) / 2) = ((n / 2 : Nat) : Int) by omega, hx.out]) rfl rfl, hb⟩
  · have hq : (bits .and .u64 (n : Int) 1 == 1) = false := by rw [and_one64 _ hn, show n % 2 = 0 by omega]; rfl
    go_enter Try.func9, Try.ntmps9
    go_wp2_with (go_at_call 7; refine hc.mono ?_; rintro e w' ⟨rfl, hb⟩)
    go_ret3
    exact ⟨ret_int3 (by unfold unzz; rw [if_neg hpar]; omega) rfl rfl, hb⟩

set_option maxRecDepth 100000 in
set_option maxHeartbeats 1000000 in
theorem readText_any (s : ByteArray) (a : Int) (w : World) (hs : s.size ≤ 1125899906842624) (hz : s.size ≤ 281474976710656 ∨ (rdT s a).1.size ≤ 281474976710656) :
    Calls Try.prog 11 #[.string s, .int .i64 a] w fun e w' => e = .returned (.tuple #[.string (rdT s a).1, .int .i64 (rdT s a).2.1, .int .i64 (rdT s a).2.2]) ∧ Below w.heap.size w w' := by
  have hc := readNumber_any s a w hs
  have hb := rdN_bd s a
  unfold rdT at hz ⊢
  generalize rdN s a = r at hc hb hz ⊢
  obtain ⟨n, i, e⟩ := r
  dsimp only at hc hb hz ⊢
  obtain ⟨hn, hi0, hi1, he⟩ := hb
  obtain ⟨j, rfl⟩ : ∃ j : Nat, i = j := ⟨i.toNat, by omega⟩
  rcases he with he | ⟨hn0, hi00, he⟩
  · subst he
    rw [if_neg (by omega)] at hz ⊢
    by_cases h : s.size - j < n
    · rw [if_pos (by omega)]
      have hd : ((s.size : Int) - j) < n := by omega
      clear hz
      go_enter Try.func11, Try.ntmps11
      go_wp2_with (go_at_call 7; refine hc.mono ?_; rintro e w' ⟨rfl, hb⟩)
      go_ret3
      exact ⟨rfl, hb⟩
    · rw [if_neg (by omega)] at hz ⊢
      have hd : (n : Int) ≤ ((s.size : Int) - j) := by omega
      have hz2 : (s.extract j (j + n)).size ≤ 281474976710656 := by
        rcases hz with h | h
        · simp; omega
        · simpa using h
      clear hz
      go_enter Try.func11, Try.ntmps11
      go_wp2_with (first | (go_at_call 7; refine hc.mono ?_; rintro e w' ⟨rfl, hb⟩) | (go_at_call 23; refine (clone_any _ _ hz2).mono ?_; rintro e w' ⟨rfl, hb2⟩))
      go_ret3
      exact ⟨rfl, hb.trans (hb2.mono hb.size)⟩
  · obtain rfl : j = 0 := by omega
    subst hn0
    clear hz
    rw [if_pos (by omega)]
    rcases he with rfl | rfl | rfl
    all_goals
      go_enter Try.func11, Try.ntmps11
      go_wp2_with (go_at_call 7; refine hc.mono ?_; rintro e w' ⟨rfl, hb⟩)
      go_ret3
      exact ⟨rfl, hb⟩

end Go.Proofs.Ytomikkcpahgoiaa
