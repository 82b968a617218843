/-
  Plain mathematics for layer 1 (code): numbers as groups of seven bits and back, signed numbers, the check sum, without any condition but those each lemma states.
-/
import Derived.WalkKit
import Derived.Test.YtpdfkakhahfcjaaGreatG01
import Derived.Deep.QuietTactic
import Derived.BigQuiet
import Derived.Deep.RegionHeld3
namespace Go.Proofs.YtpdfkakhahfcjaaGreat
open Go.RowKit

/-- A number as bytes: groups of seven bits, the lowest first. -/
def enc (n : Nat) : List UInt8 := if n < 128 then [UInt8.ofNat n] else UInt8.ofNat (n % 128 + 128) :: enc (n / 128)
  termination_by n
  decreasing_by omega

theorem enc_lt {n : Nat} (h : n < 128) : enc n = [UInt8.ofNat n] := by rw [enc, if_pos h]
theorem enc_ge {n : Nat} (h : ¬ n < 128) : enc n = UInt8.ofNat (n % 128 + 128) :: enc (n / 128) := by rw [enc, if_neg h]

theorem enc_ne (n : Nat) : enc n ≠ [] := by
  by_cases h : n < 128
  · rw [enc_lt h]; simp
  · rw [enc_ge h]; simp

theorem enc_length (k : Nat) : ∀ n : Nat, n < 128 ^ (k + 1) → (enc n).length ≤ k + 1 := by
  induction k with
  | zero => intro n h; rw [enc_lt (by simpa using h)]; simp
  | succ k ih =>
    intro n h
    by_cases h1 : n < 128
    · rw [enc_lt h1]; simp
    · rw [enc_ge h1]
      have : n / 128 < 128 ^ (k + 1) := by
        rw [Nat.pow_succ] at h; exact Nat.div_lt_of_lt_mul (by rw [Nat.mul_comm]; exact h)
      have := ih _ this
      simp; omega

theorem enc_length10 {n : Nat} (h : n < 18446744073709551616) : (enc n).length ≤ 10 := enc_length 9 n (Nat.lt_of_lt_of_le h (by decide))

/-- What reading tells of the bytes from a place on. -/
inductive Res where
  | short
  | form
  | ok (n len : Nat)

/-- Reading, k groups and their sum acc being done. -/
def dec : List UInt8 → Nat → Nat → Res
  | [], _, _ => .short
  | c :: cs, k, acc =>
    if k = 9 ∧ 1 < c.toNat then .form
    else if 0 < k ∧ c.toNat = 0 then .form
    else if c.toNat < 128 then .ok (acc + c.toNat * 2 ^ (7 * k)) (k + 1)
    else dec cs (k + 1) (acc + (c.toNat - 128) * 2 ^ (7 * k))

theorem ofNat_lo {n : Nat} (h : n < 128) : (UInt8.ofNat n).toNat = n := by
  rw [UInt8.toNat_ofNat']; omega
theorem ofNat_hi (n : Nat) : (UInt8.ofNat (n % 128 + 128)).toNat = n % 128 + 128 := by
  rw [UInt8.toNat_ofNat']; omega

theorem dec_enc_at (t : List UInt8) (n : Nat) : ∀ (k acc : Nat), k ≤ 9 → n * 2 ^ (7 * k) < 18446744073709551616 → (0 < k → n ≠ 0) →
    dec (enc n ++ t) k acc = .ok (acc + n * 2 ^ (7 * k)) (k + (enc n).length) := by
  induction n using Nat.strongRecOn with
  | ind n ih =>
    intro k acc hk hn h0
    have hp : 0 < 2 ^ (7 * k) := Nat.pow_pos (by omega)
    have h9 : k = 9 → n ≤ 1 := by
      rintro rfl
      have : (2 : Nat) ^ (7 * 9) = 9223372036854775808 := by decide
      rw [this] at hn; omega
    by_cases h : n < 128
    · rw [enc_lt h]
      simp only [List.cons_append, List.nil_append, dec, ofNat_lo h]
      rw [if_neg (by rintro ⟨e, h1⟩; have := h9 e; omega), if_neg (by rintro ⟨a, b⟩; exact h0 a b), if_pos h]
      simp
    · rw [enc_ge h]
      have hk8 : k < 9 := by
        rcases Nat.lt_or_ge k 9 with h1 | h1
        · exact h1
        · have := h9 (by omega); omega
      simp only [List.cons_append, dec, ofNat_hi]
      rw [if_neg (by omega), if_neg (by omega), if_neg (by omega)]
      have hd := Nat.div_add_mod n 128
      have e1 : 2 ^ (7 * (k + 1)) = 128 * 2 ^ (7 * k) := by
        rw [show 7 * (k + 1) = 7 + 7 * k by omega, Nat.pow_add]
      have e2 : (n / 128) * (128 * 2 ^ (7 * k)) = (128 * (n / 128)) * 2 ^ (7 * k) := by
        rw [← Nat.mul_assoc, Nat.mul_comm (n / 128) 128]
      have e3 : n * 2 ^ (7 * k) = (128 * (n / 128)) * 2 ^ (7 * k) + (n % 128) * 2 ^ (7 * k) := by
        rw [← Nat.add_mul, hd]
      rw [ih (n / 128) (by omega) (k + 1) _ (by omega) (by rw [e1, e2]; omega) (by omega)]
      rw [e1, e2, show n % 128 + 128 - 128 = n % 128 by omega, e3]
      simp only [List.length_cons, Res.ok.injEq]
      omega

theorem dec_enc (t : List UInt8) {n : Nat} (h : n < 18446744073709551616) : dec (enc n ++ t) 0 0 = .ok n (enc n).length := by
  have := dec_enc_at t n 0 0 (by omega) (by simpa using h) (by omega)
  simpa using this

theorem dec_cut_at (n : Nat) : ∀ (j k acc : Nat), k ≤ 9 → n * 2 ^ (7 * k) < 18446744073709551616 → (0 < k → n ≠ 0) → j < (enc n).length →
    dec ((enc n).take j) k acc = .short := by
  induction n using Nat.strongRecOn with
  | ind n ih =>
    intro j k acc hk hn h0 hj
    have h9 : k = 9 → n ≤ 1 := by
      rintro rfl
      have : (2 : Nat) ^ (7 * 9) = 9223372036854775808 := by decide
      rw [this] at hn; omega
    by_cases h : n < 128
    · rw [enc_lt h] at hj ⊢
      obtain rfl : j = 0 := by simp at hj; omega
      rfl
    · have hk8 : k < 9 := by
        rcases Nat.lt_or_ge k 9 with h1 | h1
        · exact h1
        · have := h9 (by omega); omega
      rw [enc_ge h] at hj ⊢
      cases j with
      | zero => rfl
      | succ j =>
        simp only [List.take_succ_cons, dec, ofNat_hi]
        rw [if_neg (by omega), if_neg (by omega), if_neg (by omega)]
        have hd := Nat.div_add_mod n 128
        have e1 : 2 ^ (7 * (k + 1)) = 128 * 2 ^ (7 * k) := by
          rw [show 7 * (k + 1) = 7 + 7 * k by omega, Nat.pow_add]
        have e2 : (n / 128) * (128 * 2 ^ (7 * k)) = (128 * (n / 128)) * 2 ^ (7 * k) := by
          rw [← Nat.mul_assoc, Nat.mul_comm (n / 128) 128]
        have e3 : n * 2 ^ (7 * k) = (128 * (n / 128)) * 2 ^ (7 * k) + (n % 128) * 2 ^ (7 * k) := by
          rw [← Nat.add_mul, hd]
        exact ih (n / 128) (by omega) j (k + 1) _ (by omega) (by rw [e1, e2]; omega) (by omega) (by simp at hj; omega)

theorem dec_cut {n j : Nat} (h : n < 18446744073709551616) (hj : j < (enc n).length) : dec ((enc n).take j) 0 0 = .short :=
  dec_cut_at n j 0 0 (by omega) (by simpa using h) (by omega) hj

theorem dec_ok_at (l : List UInt8) : ∀ (k acc n len : Nat), k ≤ 9 → dec l k acc = .ok n len →
    ∃ m, n = acc + m * 2 ^ (7 * k) ∧ m * 2 ^ (7 * k) < 18446744073709551616 ∧ (0 < k → m ≠ 0) ∧ len = k + (enc m).length ∧ enc m = l.take (enc m).length ∧ (enc m).length ≤ l.length := by
  induction l with
  | nil => intro k acc n len _ h; simp [dec] at h
  | cons c cs ih =>
    intro k acc n len hk h
    have hc := c.toNat_lt
    have hp : k ≤ 8 → 2 ^ (7 * k) ≤ 2 ^ 56 := fun h => Nat.pow_le_pow_right (by omega) (by omega)
    simp only [dec] at h
    by_cases h1 : k = 9 ∧ 1 < c.toNat
    · rw [if_pos h1] at h; cases h
    rw [if_neg h1] at h
    by_cases h2 : 0 < k ∧ c.toNat = 0
    · rw [if_pos h2] at h; cases h
    rw [if_neg h2] at h
    by_cases h3 : c.toNat < 128
    · rw [if_pos h3] at h
      obtain ⟨rfl, rfl⟩ : acc + c.toNat * 2 ^ (7 * k) = n ∧ k + 1 = len := by simpa using h
      refine ⟨c.toNat, rfl, ?_, fun a b => h2 ⟨a, b⟩, ?_⟩
      · rcases Nat.lt_or_ge 8 k with h8 | h8
        · obtain rfl : k = 9 := by omega
          have : (2 : Nat) ^ (7 * 9) = 9223372036854775808 := by decide
          rw [this]; have : c.toNat ≤ 1 := by omega
          omega
        · have := hp h8
          have e : (2 : Nat) ^ 56 = 72057594037927936 := by decide
          calc c.toNat * 2 ^ (7 * k) ≤ 255 * 2 ^ 56 := Nat.mul_le_mul (by omega) this
            _ < _ := by rw [e]; omega
      · rw [enc_lt h3]; simp
    · rw [if_neg h3] at h
      have hk8 : k ≤ 8 := by
        rcases Nat.lt_or_ge 8 k with h8 | h8
        · exact absurd ⟨by omega, by omega⟩ h1
        · exact h8
      obtain ⟨m, hm, hb, h0, hl, he, hle⟩ := ih (k + 1) _ n len (by omega) h
      have hm0 := h0 (by omega)
      have e1 : 2 ^ (7 * (k + 1)) = 128 * 2 ^ (7 * k) := by
        rw [show 7 * (k + 1) = 7 + 7 * k by omega, Nat.pow_add]
      have e2 : m * (128 * 2 ^ (7 * k)) = (128 * m) * 2 ^ (7 * k) := by
        rw [← Nat.mul_assoc, Nat.mul_comm m 128]
      have henc : enc (128 * m + (c.toNat - 128)) = c :: enc m := by
        rw [enc_ge (by omega)]
        have a1 : (128 * m + (c.toNat - 128)) % 128 + 128 = c.toNat := by omega
        have a2 : (128 * m + (c.toNat - 128)) / 128 = m := by omega
        rw [a1, a2]; simp
      refine ⟨128 * m + (c.toNat - 128), ?_, ?_, by omega, ?_, ?_, ?_⟩
      · rw [hm, e1, e2, Nat.add_mul]; omega
      · rw [e1, e2] at hb
        have hle8 : (2 : Nat) ^ (7 * k) * 128 ∣ 18446744073709551616 := by
          have : (18446744073709551616 : Nat) = 2 ^ 64 := by decide
          rw [this, show (128 : Nat) = 2 ^ 7 by decide, ← Nat.pow_add]; exact Nat.pow_dvd_pow 2 (by omega)
        obtain ⟨q, hq⟩ := hle8
        have hpp : 0 < 2 ^ (7 * k) := Nat.pow_pos (by omega)
        rw [hq] at hb ⊢
        have : m < q := by
          have : m * (2 ^ (7 * k) * 128) < q * (2 ^ (7 * k) * 128) := by
            calc m * (2 ^ (7 * k) * 128) = 128 * m * 2 ^ (7 * k) := by rw [Nat.mul_comm (2 ^ (7 * k)) 128, ← Nat.mul_assoc, Nat.mul_comm m 128]
              _ < _ := hb
              _ = _ := by rw [Nat.mul_comm]
          exact Nat.lt_of_mul_lt_mul_right this
        calc (128 * m + (c.toNat - 128)) * 2 ^ (7 * k) < (128 * m + 128) * 2 ^ (7 * k) := Nat.mul_lt_mul_of_pos_right (by omega) hpp
          _ ≤ (128 * q) * 2 ^ (7 * k) := Nat.mul_le_mul_right _ (by omega)
          _ = _ := by rw [Nat.mul_comm (2 ^ (7 * k)) 128, Nat.mul_assoc, Nat.mul_comm q, ← Nat.mul_assoc]
      · rw [hl, henc]; simp; omega
      · rw [henc]; simp; exact he
      · rw [henc]; simp; exact hle

theorem dec_ok {l : List UInt8} {n len : Nat} (h : dec l 0 0 = .ok n len) : n < 18446744073709551616 ∧ len = (enc n).length ∧ enc n = l.take len ∧ len ≤ l.length := by
  obtain ⟨m, hm, hb, _, hl, he, hle⟩ := dec_ok_at l 0 0 n len (by omega) h
  obtain rfl : n = m := by simpa using hm
  obtain rfl : len = (enc n).length := by omega
  exact ⟨by simpa using hb, rfl, he, hle⟩

/-- A signed number as one. -/
def zz (x : Int) : Nat := if x < 0 then (-2 * x - 1).toNat else (2 * x).toNat
/-- Back. -/
def unzz (n : Nat) : Int := if n % 2 = 1 then -((n / 2 : Nat) : Int) - 1 else ((n / 2 : Nat) : Int)
theorem unzz_zz (x : Int) : unzz (zz x) = x := by
  unfold unzz zz; split <;> split <;> omega
theorem zz_lt {x : Int} (h1 : -9223372036854775808 ≤ x) (h2 : x ≤ 9223372036854775807) : zz x < 18446744073709551616 := by
  unfold zz; split <;> omega
theorem unzz_in {n : Nat} (h : n < 18446744073709551616) : -9223372036854775808 ≤ unzz n ∧ unzz n ≤ 9223372036854775807 := by
  unfold unzz; split <;> omega

/-- One bit is turned out of a sum. -/
def turn1 (x : Nat) : Nat := if x % 2 = 1 then (x / 2) ^^^ 3988292384 else x / 2
/-- k bits. -/
def turnK : Nat → Nat → Nat
  | 0, x => x
  | k + 1, x => turn1 (turnK k x)
theorem turn1_lt {x : Nat} (h : x < 4294967296) : turn1 x < 4294967296 := by
  unfold turn1
  split
  · exact Nat.xor_lt_two_pow (n := 32) (by omega) (by omega)
  · omega
theorem turnK_lt {x : Nat} (h : x < 4294967296) : ∀ k, turnK k x < 4294967296
  | 0 => h
  | k + 1 => turn1_lt (turnK_lt h k)
/-- The sum, before it is turned at its end. -/
def crcAcc (l : List UInt8) : Nat := l.foldl (fun a c => turnK 8 (a ^^^ c.toNat)) 4294967295
theorem crcAcc_snoc (l : List UInt8) (c : UInt8) : crcAcc (l ++ [c]) = turnK 8 (crcAcc l ^^^ c.toNat) := by simp [crcAcc]
theorem xor_byte_lt {a : Nat} (h : a < 4294967296) (c : UInt8) : a ^^^ c.toNat < 4294967296 :=
  Nat.xor_lt_two_pow (n := 32) (by omega) (by have := c.toNat_lt; omega)
theorem crcAcc_lt (l : List UInt8) : crcAcc l < 4294967296 := by
  unfold crcAcc
  suffices ∀ (l : List UInt8) (a : Nat), a < 4294967296 → l.foldl (fun a c => turnK 8 (a ^^^ c.toNat)) a < 4294967296 from this l _ (by omega)
  intro l
  induction l with
  | nil => intro a h; exact h
  | cons c cs ih => intro a h; exact ih _ (turnK_lt (xor_byte_lt h c) 8)
def crc (l : List UInt8) : Nat := 4294967295 - crcAcc l

theorem take_snoc (s : ByteArray) (k : Nat) (h : k < s.size) : s.data.toList.take (k + 1) = s.data.toList.take k ++ [s[k]] := by
  rw [List.take_succ_eq_append_getElem (by simpa using h)]; rfl

theorem bits32 (a b : Nat) (ha : a < 4294967296) (hb : b < 4294967296) :
    bits .and .u32 (a : Int) (b : Int) = ((a &&& b : Nat) : Int) ∧ bits .xor .u32 (a : Int) (b : Int) = ((a ^^^ b : Nat) : Int) := by
  have hx : a ^^^ b < 2 ^ 32 := Nat.xor_lt_two_pow (by omega) (by omega)
  have hn : a &&& b < 2 ^ 32 := Nat.and_lt_two_pow _ (by omega)
  have h1 : (BitVec.ofInt 32 (a : Int)).toNat = a := by
    rw [BitVec.ofInt_natCast, BitVec.toNat_ofNat]; exact Nat.mod_eq_of_lt (by omega)
  have h2 : (BitVec.ofInt 32 (b : Int)).toNat = b := by
    rw [BitVec.ofInt_natCast, BitVec.toNat_ofNat]; exact Nat.mod_eq_of_lt (by omega)
  constructor
  · show IntKind.u32.wrap ((BitVec.ofInt 32 (a : Int) &&& BitVec.ofInt 32 (b : Int)).toNat : Int) = _
    rw [BitVec.toNat_and, h1, h2, IntKind.wrap_u32]; omega
  · show IntKind.u32.wrap ((BitVec.ofInt 32 (a : Int) ^^^ BitVec.ofInt 32 (b : Int)).toNat : Int) = _
    rw [BitVec.toNat_xor, h1, h2, IntKind.wrap_u32]; omega
theorem and32 (a b : Nat) (ha : a < 4294967296) (hb : b < 4294967296) : bits .and .u32 (a : Int) (b : Int) = ((a &&& b : Nat) : Int) := (bits32 a b ha hb).1
theorem xor32 (a b : Nat) (ha : a < 4294967296) (hb : b < 4294967296) : bits .xor .u32 (a : Int) (b : Int) = ((a ^^^ b : Nat) : Int) := (bits32 a b ha hb).2

theorem turn_step (x : Nat) (hx : x < 4294967296) :
    bits .xor .u32 ((x : Int) / 2) (bits .and .u32 3988292384 (-bits .and .u32 (x : Int) 1 % 4294967296)) = ((turn1 x : Nat) : Int) := by
  have e1 : bits .and .u32 (x : Int) 1 = ((x % 2 : Nat) : Int) := by
    rw [show (1 : Int) = ((1 : Nat) : Int) by rfl, and32 x 1 hx (by omega), Nat.and_one_is_mod]
  rw [e1, show ((x : Int) / 2) = ((x / 2 : Nat) : Int) by omega]
  unfold turn1
  by_cases h : x % 2 = 1
  · rw [if_pos h, h, show (-((1 : Nat) : Int) % 4294967296) = ((4294967295 : Nat) : Int) by decide, show (3988292384 : Int) = ((3988292384 : Nat) : Int) by rfl,
      and32 _ _ (by omega) (by omega), show (3988292384 &&& 4294967295 : Nat) = 3988292384 by decide, xor32 _ _ (by omega) (by omega)]
  · rw [if_neg h, show x % 2 = 0 by omega, show (-((0 : Nat) : Int) % 4294967296) = ((0 : Nat) : Int) by decide, show (3988292384 : Int) = ((3988292384 : Nat) : Int) by rfl,
      and32 _ _ (by omega) (by omega), show (3988292384 &&& 0 : Nat) = 0 by decide, xor32 _ _ (by omega) (by omega), Nat.xor_zero]

theorem xor_all (x : Nat) (hx : x < 4294967296) : bits .xor .u32 4294967295 (x : Int) = ((4294967295 - x : Nat) : Int) := by
  rw [show (4294967295 : Int) = ((4294967295 : Nat) : Int) by rfl, xor32 _ _ (by omega) hx]
  congr 1
  apply Nat.eq_of_testBit_eq
  intro i
  rw [Nat.testBit_xor]
  have h1 : (4294967295 - x).testBit i = (decide (i < 32) && !x.testBit i) := by
    have := Nat.testBit_two_pow_sub_succ (n := 32) (x := x) (by omega) i
    rwa [show 2 ^ 32 - (x + 1) = 4294967295 - x by omega] at this
  have h2 : (4294967295 : Nat).testBit i = decide (i < 32) := Nat.testBit_two_pow_sub_one 32 i
  rw [h1, h2]
  by_cases hi : i < 32
  · simp [hi]
  · have : x.testBit i = false := Nat.testBit_lt_two_pow (Nat.lt_of_lt_of_le hx (by rw [show (4294967296 : Nat) = 2 ^ 32 by decide]; exact Nat.pow_le_pow_right (by omega) (by omega)))
    simp [hi, this]

/-- What reading a number at a place tells: the number, the place behind it, the error. -/
def rdN (s : ByteArray) (at_ : Int) : Nat × Int × Int :=
  if at_ < 0 ∨ (s.size : Int) < at_ then (0, 0, 15)
  else match dec (s.data.toList.drop at_.toNat) 0 0 with
    | .short => (0, 0, 11)
    | .form => (0, 0, 10)
    | .ok n len => (n, at_ + len, 0)

theorem rdN_place {s : ByteArray} {a : Int} (h : a < 0 ∨ (s.size : Int) < a) : rdN s a = (0, 0, 15) := by rw [rdN, if_pos h]
theorem rdN_in {s : ByteArray} {a : Nat} (h : a ≤ s.size) : rdN s a = (match dec (s.data.toList.drop a) 0 0 with
    | .short => (0, 0, 11)
    | .form => (0, 0, 10)
    | .ok n len => (n, (a : Int) + len, 0)) := by
  rw [rdN, if_neg (by omega), Int.toNat_natCast]

theorem rdN_bd (s : ByteArray) (a : Int) : (rdN s a).1 < 18446744073709551616 ∧ 0 ≤ (rdN s a).2.1 ∧ (rdN s a).2.1 ≤ s.size ∧ ((rdN s a).2.2 = 0 ∨ ((rdN s a).1 = 0 ∧ (rdN s a).2.1 = 0 ∧ ((rdN s a).2.2 = 10 ∨ (rdN s a).2.2 = 11 ∨ (rdN s a).2.2 = 15))) := by
  by_cases h : a < 0 ∨ (s.size : Int) < a
  · rw [rdN_place h]; simp
  · obtain ⟨n, rfl⟩ : ∃ n : Nat, a = n := ⟨a.toNat, by omega⟩
    rw [rdN_in (by omega)]
    cases hd : dec (s.data.toList.drop n) 0 0 with
    | short => simp
    | form => simp
    | ok m len =>
      obtain ⟨h1, _, _, h4⟩ := dec_ok hd
      simp at h4 ⊢
      omega

theorem drop_cons (s : ByteArray) (a : Nat) (h : a < s.size) : s.data.toList.drop a = s[a] :: s.data.toList.drop (a + 1) := by
  rw [List.drop_eq_getElem_cons (by simpa using h)]; rfl

theorem rd_short {s : ByteArray} {a k acc : Nat} (ha : a ≤ s.size) (hd : dec (s.data.toList.drop (a + k)) k acc = dec (s.data.toList.drop a) 0 0) (h : ¬ a + k < s.size) : rdN s a = (0, 0, 11) := by
  rw [rdN_in ha, ← hd, List.drop_of_length_le (by simp; omega)]; rfl
theorem rd_form {s : ByteArray} {a k acc : Nat} (ha : a ≤ s.size) (hd : dec (s.data.toList.drop (a + k)) k acc = dec (s.data.toList.drop a) 0 0) (h : a + k < s.size)
    (hc : k = 9 ∧ 1 < s[a + k].toNat ∨ 0 < k ∧ s[a + k].toNat = 0) : rdN s a = (0, 0, 10) := by
  rw [rdN_in ha, ← hd, drop_cons s _ h, dec]
  by_cases h1 : k = 9 ∧ 1 < s[a + k].toNat
  · rw [if_pos h1]
  · rw [if_neg h1, if_pos (hc.resolve_left h1)]
theorem rd_ok {s : ByteArray} {a k acc : Nat} (ha : a ≤ s.size) (hd : dec (s.data.toList.drop (a + k)) k acc = dec (s.data.toList.drop a) 0 0) (h : a + k < s.size)
    (h1 : ¬ (k = 9 ∧ 1 < s[a + k].toNat)) (h2 : ¬ (0 < k ∧ s[a + k].toNat = 0)) (h3 : s[a + k].toNat < 128) : rdN s a = (acc + s[a + k].toNat * 2 ^ (7 * k), (a : Int) + k + 1, 0) := by
  rw [rdN_in ha, ← hd, drop_cons s _ h, dec, if_neg h1, if_neg h2, if_pos h3]
  simp; omega
theorem rd_go {s : ByteArray} {a k acc : Nat} (hd : dec (s.data.toList.drop (a + k)) k acc = dec (s.data.toList.drop a) 0 0) (h : a + k < s.size)
    (h1 : ¬ (k = 9 ∧ 1 < s[a + k].toNat)) (h3 : ¬ s[a + k].toNat < 128) : dec (s.data.toList.drop (a + (k + 1))) (k + 1) (acc + (s[a + k].toNat - 128) * 2 ^ (7 * k)) = dec (s.data.toList.drop a) 0 0 := by
  rw [← hd, drop_cons s _ h, dec, if_neg h1, if_neg (by omega), if_neg h3, Nat.add_assoc]

theorem ret_int {k : IntKind} {a b : Int} (h : a = b) : Ending.returned (.int k a) = .returned (.int k b) := by rw [h]
theorem ret_int3 {k1 k2 k3 : IntKind} {a b c a' b' c' : Int} (h1 : a = a') (h2 : b = b') (h3 : c = c') :
    Ending.returned (.tuple #[.int k1 a, .int k2 b, .int k3 c]) = .returned (.tuple #[.int k1 a', .int k2 b', .int k3 c']) := by rw [h1, h2, h3]

/-- k groups and one more, without a carry beyond 64 bits. -/
theorem group_add {k acc c : Nat} (hk : k ≤ 8) (hacc : acc < 2 ^ (7 * k)) : acc + (c % 128) * 2 ^ (7 * k) < 2 ^ (7 * (k + 1)) ∧ acc + (c % 128) * 2 ^ (7 * k) < 18446744073709551616 := by
  have h1 : (c % 128 + 1) * 2 ^ (7 * k) ≤ 128 * 2 ^ (7 * k) := Nat.mul_le_mul_right _ (by omega)
  have h2 : 2 ^ (7 * (k + 1)) = 128 * 2 ^ (7 * k) := by rw [show 7 * (k + 1) = 7 + 7 * k by omega, Nat.pow_add]
  have h3 : (2 : Nat) ^ (7 * k) ≤ 2 ^ 56 := Nat.pow_le_pow_right (by omega) (by omega)
  have h4 : (2 : Nat) ^ 56 = 72057594037927936 := by decide
  rw [Nat.add_mul] at h1
  rw [h4] at h3
  constructor <;> omega
theorem wrap_group {k acc c : Nat} (hk : k ≤ 8) (hacc : acc < 2 ^ (7 * k)) :
    IntKind.u64.wrap ((acc : Int) + IntKind.u64.wrap ((c : Int) % 128 * 2 ^ (7 * k))) = ((acc + (c % 128) * 2 ^ (7 * k) : Nat) : Int) := by
  obtain ⟨_, h2⟩ := group_add (c := c) hk hacc
  have e : ((c : Int) % 128 * 2 ^ (7 * k)) = (((c % 128) * 2 ^ (7 * k) : Nat) : Int) := by push_cast; rfl
  rw [e, IntKind.wrap_u64, IntKind.wrap_u64]
  generalize (c % 128) * 2 ^ (7 * k) = z at *
  omega
theorem wrap_group9 {acc c : Nat} (hc : c ≤ 1) (hacc : acc < 2 ^ (7 * 9)) :
    IntKind.u64.wrap ((acc : Int) + (c : Int) % 128 * 9223372036854775808) = ((acc + c * 2 ^ (7 * 9) : Nat) : Int) := by
  have h4 : (2 : Nat) ^ (7 * 9) = 9223372036854775808 := by decide
  rw [h4] at hacc ⊢
  rw [IntKind.wrap_u64]
  omega

/-- Bytes as the cells of a row. -/
def u8s (l : List UInt8) : List Value := l.map fun c => .int .u8 (c.toNat : Int)
theorem u8s_snoc (l : List UInt8) (c : UInt8) : u8s (l ++ [c]) = u8s l ++ [.int .u8 (c.toNat : Int)] := by simp [u8s]

/-- A row that the call owns, as a string. -/
theorem own_string {P : Program} {w : World} {base st et dt n : Nat} {v : Value} {l : List UInt8} (hs : P.underlying st = some (.slice et)) (he : P.underlying et = some (.int .u8)) (hd : P.underlying dt = some .string)
    (hown : w.ownsRow base et 1 v n (u8s l)) (hn : n ≠ 0) : (convert st dt v).run P w = .ok (.string ⟨l.toArray⟩) w := by
  have hlen : l.length = n := by have := hown.1; simpa [u8s] using this
  subst hlen
  rcases hown.2 with ⟨_, h0⟩ | ⟨g, cap, cur, rfl, hb, hg, _⟩
  · exact absurd h0 hn
  · refine run_convert_bytes_back w st dt et ⟨g, 0, none⟩ cap l hs he hd fun j hj => ?_
    exact hown.cells (g := g) rfl j _ (by simp [u8s, hj])

theorem enc_split_lt {n m : Nat} {l : List UInt8} (h : l ++ enc m = enc n) (hm : m < 128) : l ++ [UInt8.ofNat m] = enc n := by rw [← h, enc_lt hm]
theorem enc_split_ge {n m : Nat} {l : List UInt8} (h : l ++ enc m = enc n) (hm : ¬ m < 128) : (l ++ [UInt8.ofNat (m % 128 + 128)]) ++ enc (m / 128) = enc n := by
  rw [← h, enc_ge hm]; simp
theorem enc_split_len {n m : Nat} {l : List UInt8} (h : l ++ enc m = enc n) (hn : n < 18446744073709551616) : l.length ≤ 9 := by
  have h1 := enc_length10 hn
  have h2 := enc_ne m
  rw [← h, List.length_append] at h1
  have : (enc m).length ≠ 0 := by simpa using h2
  omega

theorem u8s_end {n m : Nat} {l : List UInt8} (h : l ++ enc m = enc n) (hm : m < 128) : u8s l ++ [.int .u8 (m : Int)] = u8s (enc n) := by
  rw [← enc_split_lt h hm, u8s_snoc, ofNat_lo hm]
theorem u8s_more (m : Nat) (l : List UInt8) : u8s l ++ [.int .u8 ((m : Int) % 128 + 128)] = u8s (l ++ [UInt8.ofNat (m % 128 + 128)]) := by
  rw [u8s_snoc, ofNat_hi]; simp

/-- What an append to a row of the call's own leaves below the call's own blocks. -/
theorem below_append {w wr w1 : World} {n0 e size k : Nat} {v : Value} {xs : List Value} {tmp : Obj} (hb : Below n0 w wr) (hn : n0 ≤ wr.heap.size) (hrow : wr.ownsRow n0 e size v k xs) (hgrow : (wr.alloc tmp).grownBy w1 v.ownBlock) : Below n0 w w1 := by
  refine hb.trans (((Below.refl n0 wr).alloc hn tmp).grown hgrow (by simp; omega) fun j ej => ?_)
  rcases hrow.2 with ⟨rfl, _⟩ | ⟨g, cap, cur, rfl, hb, _, _⟩
  · simp [Value.ownBlock] at ej
  · obtain rfl : g = j := by simpa [Value.ownBlock] using ej
    exact hb

/-- A text as bytes. -/
def txt (s : ByteArray) : ByteArray := ⟨(enc s.size).toArray⟩ ++ s
/-- What reading a signed number tells. -/
def rdS (s : ByteArray) (a : Int) : Int × Int × Int := (unzz (rdN s a).1, (rdN s a).2)
/-- What reading a text tells. -/
def rdT (s : ByteArray) (a : Int) : ByteArray × Int × Int :=
  if (rdN s a).2.2 ≠ 0 then (⟨#[]⟩, 0, (rdN s a).2.2)
  else if (s.size : Int) - (rdN s a).2.1 < (rdN s a).1 then (⟨#[]⟩, 0, 11)
  else (s.extract (rdN s a).2.1.toNat ((rdN s a).2.1.toNat + (rdN s a).1), (rdN s a).2.1 + (rdN s a).1, 0)

theorem or_byte (m : Nat) : bits .or .u8 ((m : Int) % 256) 128 = (((UInt8.ofNat (m % 128 + 128)).toNat : Nat) : Int) := by
  rw [ofNat_hi]
  have h1 : (BitVec.ofInt 8 ((m : Int) % 256)).toNat = m % 256 := by
    rw [show ((m : Int) % 256) = ((m % 256 : Nat) : Int) by omega, BitVec.ofInt_natCast, BitVec.toNat_ofNat]; omega
  show IntKind.u8.wrap ((BitVec.ofInt 8 ((m : Int) % 256) ||| BitVec.ofInt 8 128).toNat : Int) = _
  rw [BitVec.toNat_or, h1, show (BitVec.ofInt 8 128).toNat = 128 by decide, IntKind.wrap_u8]
  have h2 : m % 256 ||| 128 = m % 128 + 128 := by
    have h3 : ∀ x : Fin 256, x.val ||| 128 = x.val % 128 + 128 := by decide +kernel
    have := h3 ⟨m % 256, Nat.mod_lt _ (by omega)⟩
    simp only at this
    omega
  rw [h2]; omega

theorem xor_ones (x : Nat) (hx : x < 18446744073709551616) : 18446744073709551615 ^^^ x = 18446744073709551615 - x := by
  apply Nat.eq_of_testBit_eq
  intro i
  rw [Nat.testBit_xor]
  have h1 : (18446744073709551615 - x).testBit i = (decide (i < 64) && !x.testBit i) := by
    have := Nat.testBit_two_pow_sub_succ (n := 64) (x := x) (by omega) i
    rwa [show 2 ^ 64 - (x + 1) = 18446744073709551615 - x by omega] at this
  have h2 : (18446744073709551615 : Nat).testBit i = decide (i < 64) := Nat.testBit_two_pow_sub_one 64 i
  rw [h1, h2]
  by_cases hi : i < 64
  · simp [hi]
  · have : x.testBit i = false := Nat.testBit_lt_two_pow (Nat.lt_of_lt_of_le hx (by rw [show (18446744073709551616 : Nat) = 2 ^ 64 by decide]; exact Nat.pow_le_pow_right (by omega) (by omega)))
    simp [hi, this]

theorem signed_neg {x : Int} (h1 : -9223372036854775808 ≤ x) (hx : x < 0) :
    bits .xor .u64 (if IntKind.u64.signed = true then -1 else IntKind.u64.max) (IntKind.u64.wrap (IntKind.u64.wrap x * 2)) = ((zz x : Nat) : Int) := by
  obtain ⟨m, hm⟩ : ∃ m : Nat, IntKind.u64.wrap (IntKind.u64.wrap x * 2) = m := ⟨(IntKind.u64.wrap (IntKind.u64.wrap x * 2)).toNat, by rw [IntKind.wrap_u64, IntKind.wrap_u64]; omega⟩
  have hm2 : (m : Int) = (x % 18446744073709551616 * 2) % 18446744073709551616 := by rw [← hm, IntKind.wrap_u64, IntKind.wrap_u64]
  rw [hm, show (if IntKind.u64.signed = true then -1 else IntKind.u64.max) = ((18446744073709551615 : Nat) : Int) by decide, bits_xor_u64_nat _ _ (by omega) (by omega), xor_ones _ (by omega)]
  unfold zz
  rw [if_pos hx]
  omega

theorem and_one64 (n : Nat) (hn : n < 18446744073709551616) : bits .and .u64 (n : Int) 1 = ((n % 2 : Nat) : Int) := by
  rw [show (1 : Int) = ((1 : Nat) : Int) by rfl, bits_and_u64_nat _ _ hn (by omega), Nat.and_one_is_mod]

theorem not64 (y : Nat) (hy : y < 9223372036854775808) : bits .xor .i64 (-1) (y : Int) = -(y : Int) - 1 := by
  have h1 : (BitVec.ofInt 64 (y : Int)).toNat = y := by
    rw [BitVec.ofInt_natCast, BitVec.toNat_ofNat]; exact Nat.mod_eq_of_lt (by omega)
  show IntKind.i64.wrap ((BitVec.ofInt 64 (-1) ^^^ BitVec.ofInt 64 (y : Int)).toNat : Int) = _
  rw [BitVec.toNat_xor, h1, show (BitVec.ofInt 64 (-1)).toNat = 18446744073709551615 by decide, xor_ones _ (by omega), IntKind.wrap_i64]
  omega

end Go.Proofs.YtpdfkakhahfcjaaGreat

/-
  A log over a device, as plain lists: how it is laid out, a commit, a recovery; and that devices stay fit.
-/
namespace Go.Proofs.YtpdfkakhahfcjaaGreat

/-- A write, or a flush. -/
inductive Step where
  | put (i : Int) (s : ByteArray)
  | flush
def stepD (x : D × Int) : Step → D × Int
  | .put i s => if x.2 = 0 then writeD x.1 i s else x
  | .flush => if x.2 = 0 then flushD x.1 else x
theorem stepD_W (x : D × Int) (i : Int) (s : ByteArray) : stepD x (.put i s) = if x.2 = 0 then writeD x.1 i s else x := rfl
theorem stepD_F (x : D × Int) : stepD x .flush = if x.2 = 0 then flushD x.1 else x := rfl
/-- One after another, up to the first error. -/
def runD (x : D × Int) (l : List Step) : D × Int := l.foldl stepD x
theorem runD_nil (x : D × Int) : runD x [] = x := rfl
theorem runD_cons (x : D × Int) (s : Step) (l : List Step) : runD x (s :: l) = runD (stepD x s) l := rfl
theorem runD_app (x : D × Int) (a b : List Step) : runD x (a ++ b) = runD (runD x a) b := by simp [runD]
theorem stepD_err {x : D × Int} (h : x.2 ≠ 0) (s : Step) : stepD x s = x := by cases s <;> simp [stepD, h]
theorem runD_err {x : D × Int} (h : x.2 ≠ 0) : ∀ l : List Step, runD x l = x
  | [] => rfl
  | s :: l => by rw [runD_cons, stepD_err h s]; exact runD_err h l

theorem fit_write {d : D} (h : FitP d) (i : Int) (s : ByteArray) : FitP (writeD d i s).1 := by
  unfold writeD
  by_cases h1 : d.dead = true
  · rw [if_pos h1]; exact h
  rw [if_neg h1]
  by_cases h2 : ¬ (at_ d.bs i ∧ s.size = 128)
  · rw [if_pos h2]; exact h
  rw [if_neg h2]
  by_cases h3 : 4096 ≤ d.cs.length
  · rw [if_pos h3]; exact h
  rw [if_neg h3]
  have h2' : at_ d.bs i ∧ s.size = 128 := Decidable.not_not.1 h2
  obtain ⟨⟨a1, a2, a3, a4, a5⟩, hb, hc⟩ := h
  by_cases h4 : d.left = 0
  · rw [if_pos h4]
    exact ⟨⟨a1, a2, a3, a4, fun _ => h4⟩, hb, hc⟩
  rw [if_neg h4]
  refine ⟨⟨a1, a2, ?_, ?_, fun h => absurd h h1⟩, hb, fun p hp => ?_⟩
  · show (d.cs ++ [(i, s)]).length ≤ 4096
    simp; omega
  · show -1 ≤ (if 0 < d.left then d.left - 1 else d.left)
    split <;> omega
  · rcases List.mem_append.1 hp with hp | hp
    · exact hc p hp
    · obtain rfl : p = (i, s) := by simpa using hp
      exact ⟨h2'.1.1, h2'.1.2, h2'.2⟩
theorem fit_flush {d : D} (h : FitP d) : FitP (flushD d).1 := by
  unfold flushD
  by_cases h1 : d.dead = true
  · rw [if_pos h1]; exact h
  rw [if_neg h1]
  obtain ⟨⟨a1, a2, a3, a4, a5⟩, hb, hc⟩ := h
  by_cases h4 : d.left = 0
  · rw [if_pos h4]
    exact ⟨⟨a1, a2, a3, a4, fun _ => h4⟩, hb, hc⟩
  rw [if_neg h4]
  refine ⟨⟨?_, ?_, by simp, ?_, fun h => absurd h h1⟩, settleL_sizes _ _ _ hb (fun p hp => (hc p hp).2.2), by simp [CsP]⟩
  · show 1 ≤ (allL d.bs d.cs).length
    rw [allL_length]; exact a1
  · show (allL d.bs d.cs).length ≤ 1024
    rw [allL_length]; exact a2
  · show -1 ≤ (if 0 < d.left then d.left - 1 else d.left)
    split <;> omega
theorem fit_step {x : D × Int} (h : FitP x.1) (s : Step) : FitP (stepD x s).1 := by
  cases s with
  | put i s => rw [stepD_W]; split; exact fit_write h i s; exact h
  | flush => rw [stepD_F]; split; exact fit_flush h; exact h
theorem fit_run : ∀ (l : List Step) {x : D × Int}, FitP x.1 → FitP (runD x l).1
  | [], _, h => h
  | s :: l, _, h => fit_run l (fit_step h s)
theorem fit_arm {d : D} (h : FitP d) (n : Int) : FitP (armD d n) := by
  unfold armD
  by_cases h1 : d.dead = true
  · rw [if_pos h1]; exact h
  rw [if_neg h1]
  exact ⟨⟨h.1.1, h.1.2.1, h.1.2.2.1, by show -1 ≤ max n (-1); omega, fun h => absurd h h1⟩, h.2⟩
theorem fit_new {n : Int} (h : 1 ≤ n ∧ n ≤ 1024) : FitP (newD n) := by
  unfold newD
  rw [if_neg (by omega)]
  refine ⟨⟨?_, ?_, by simp, by simp, by simp⟩, fun b hb => ?_, by simp [CsP]⟩
  · simp; omega
  · simp; omega
  · rw [(List.mem_replicate.1 hb).2]; exact zeroB_size
theorem left_step {x : D × Int} (h : x.1.left ≤ 9223372036854775807) (s : Step) : (stepD x s).1.left ≤ 9223372036854775807 := by
  cases s with
  | put i s =>
    rw [stepD_W]; split
    · unfold writeD
      split
      · exact h
      split
      · exact h
      split
      · exact h
      split
      · exact h
      dsimp only
      split <;> omega
    · exact h
  | flush =>
    rw [stepD_F]; split
    · unfold flushD
      split
      · exact h
      split
      · exact h
      dsimp only
      split <;> omega
    · exact h
theorem blocks_step (x : D × Int) (s : Step) : (stepD x s).1.bs.length = x.1.bs.length := by
  cases s with
  | put i s =>
    rw [stepD_W]; split
    · unfold writeD
      split
      · rfl
      split
      · rfl
      split
      · rfl
      split <;> rfl
    · rfl
  | flush =>
    rw [stepD_F]; split
    · unfold flushD
      split
      · rfl
      split
      · rfl
      exact allL_length _ _
    · rfl

/-! ### How it is laid out -/
def listsN (h : Nat) : Nat := (h + 63) / 64
def blocksI (home log : Int) : Int := if home < 1 ∨ 512 < home ∨ log < 1 ∨ 256 < log then 0 else 1 + (home + 63) / 64 + log + home
def wrongE (d : D) (home log : Int) : Int := if blocksI home log = 0 then 13 else if (d.bs.length : Int) ≠ blocksI home log then 14 else 0
def homeAt (h g i : Nat) : Nat := 1 + listsN h + g + i
/-- What is read of each home block. -/
def homeL (d : D) (h g : Nat) : List ByteArray := (List.range h).map fun i => (readD d (homeAt h g i : Nat)).1
def homeD (d : D) (home log : Int) : List ByteArray × Int :=
  if wrongE d home log ≠ 0 then ([], wrongE d home log) else if d.dead = true then ([], 17) else (homeL d home.toNat log.toNat, 0)
/-- The places, rising, at which two images differ. -/
def changedL (a b : List ByteArray) : List Nat := (List.range (max a.length b.length)).filter fun i => decide (a[i]? ≠ b[i]?)
def ImageP (img : List ByteArray) (home : Int) : Prop := (∀ s ∈ img, s.size = 128) ∧ (img.length : Int) = home
instance (img : List ByteArray) (home : Int) : Decidable (ImageP img home) := by unfold ImageP; exact inferInstance

/-! ### Numbers as bytes, the highest first -/
def mkB (l : List UInt8) : ByteArray := ⟨l.toArray⟩
def beL (n k : Nat) : List UInt8 := (List.range k).map fun j => UInt8.ofNat (n / 256 ^ (k - 1 - j))
def neL (l : List UInt8) : Nat := l.foldl (fun n b => n * 256 + b.toNat) 0
def padL (l : List UInt8) : ByteArray := mkB (l ++ List.replicate (128 - l.length) 0)
def placesL (l : List Nat) : List UInt8 := l.flatMap fun p => beL p 2
def dataL (l : List Nat) (img : List ByteArray) : List UInt8 := l.flatMap fun p => (img.getD p ⟨#[]⟩).data.toList

end Go.Proofs.YtpdfkakhahfcjaaGreat

/-
  Words for lists of numbers in memory, and for worlds that have drawn.
-/
namespace Go.Proofs.YtpdfkakhahfcjaaGreat
open Go.RowKit

theorem below_drewN {B : Nat} {a w : World} (h : Below B a w) (k : Nat) : Below B a (w.drewN k) := ⟨h.1, h.2, h.3, h.4, h.5⟩
def encN (l : List Nat) : List Value := l.map fun k : Nat => Value.int .i64 (k : Int)
theorem encN_length (l : List Nat) : (encN l).length = l.length := by simp [encN]
theorem encN_app (a b : List Nat) : encN (a ++ b) = encN a ++ encN b := by simp [encN]
theorem encN_get {l : List Nat} {k : Nat} (hk : k < l.length) : (encN l)[k]? = some (.int .i64 (l.getD k 0 : Nat)) := by simp [encN, hk]
theorem nat_get {l : List Nat} {k : Nat} (hk : k < l.length) : l[k]? = some (l.getD k 0) := by simp [hk]
theorem encN_one (l : List Nat) : ∀ u ∈ encN l, u.oneCell' = true := by
  intro u hu
  obtain ⟨s, _, rfl⟩ := List.mem_map.1 hu
  rfl
section
variable {w : World} {B n : Nat} {A : Option Addr}
theorem Reads.lenN {l : List Nat} (h : Reads w B 1 A n (encN l)) : l.length = n := by have := h.1; rw [encN_length] at this; omega
theorem Reads.nat {l : List Nat} (h : Reads w B 1 A n (encN l)) {k : Nat} (hk : k < n) : ∃ b o, A = some ⟨b, o, none⟩ ∧ b < B ∧ w.cell? ⟨b, o + k, none⟩ = some (.int .i64 (l.getD k 0 : Nat)) := by
  obtain ⟨b, o, e, hb, hc⟩ := h.2 (by omega)
  exact ⟨b, o, e, hb, hc k _ (encN_get (by rw [h.lenN]; exact hk))⟩
end
theorem infoI : (Tryz.prog.info? 3).map (fun i => (i.zero, i.size, i.bytes)) = some (some (.int .i64 0), 1, 8) := by kernel_rfl


end Go.Proofs.YtpdfkakhahfcjaaGreat

/-
  Images of blocks and their map, as plain lists.
-/
namespace Go.Proofs.YtpdfkakhahfcjaaGreat
open Go.RowKit

def cntA (n : Nat) : Nat := max 4 (n / 4 - n / 4 % 4)
def firstA (n : Nat) : Nat := 2 + cntA n / 4
def superL (n : Nat) : List UInt8 := [65, 70, 83, 49, UInt8.ofNat (n / 256), UInt8.ofNat n, UInt8.ofNat (cntA n / 256), UInt8.ofNat (cntA n)]
def superB (n : Nat) : ByteArray := padL (superL n)
/-- A byte of a map, a block's bit. -/
def byA (m : ByteArray) (k : Nat) : Nat := (m.data.toList.getD k 0).toNat
def bitA (m : ByteArray) (i : Nat) : Bool := (byA m (i / 8)).testBit (i % 8)
def flip8 (x : UInt8) (k : Nat) : UInt8 := UInt8.ofNat (x.toNat ^^^ 2 ^ k)
def flipA (m : ByteArray) (i : Nat) : ByteArray := mkB (m.data.toList.modify (i / 8) (fun x => flip8 x (i % 8)))

def FitA (img : List ByteArray) : Prop := (8 ≤ img.length ∧ img.length ≤ 512) ∧ (∀ s ∈ img, s.size = 128) ∧ blk img 0 = superB img.length ∧ ∀ b, b < 1024 → (b < firstA img.length → bitA (blk img 1) b = true) ∧ (img.length ≤ b → bitA (blk img 1) b = false)
instance (img : List ByteArray) : Decidable (FitA img) := by unfold FitA; infer_instance
def takenA (img : List ByteArray) (i : Int) : Bool := decide (0 ≤ i ∧ i < img.length) && bitA (blk img 1) i.toNat
/-- The free blocks below i. -/
def freeTo (img : List ByteArray) (i : Nat) : List Nat := (List.range i).filter fun k => decide (firstA img.length ≤ k) && !bitA (blk img 1) k
def freeA (img : List ByteArray) : List Nat := freeTo img img.length
def turn1A (c : List ByteArray) (i : Nat) : List ByteArray := c.set 1 (flipA (blk c 1) i)
def take1A (c : List ByteArray) (i : Nat) : List ByteArray := (turn1A c i).set i zeroB
def tookA (img : List ByteArray) (l : List Nat) : List ByteArray := l.foldl take1A img
def takeA (img : List ByteArray) (n : Int) : List ByteArray × List Nat × Int :=
  if n < 0 then (img, [], 13) else if (freeA img).length < n then (img, [], 18) else (tookA img ((freeA img).take n.toNat), (freeA img).take n.toNat, 0)
def gaveA : List ByteArray → List Int → Option (List ByteArray)
  | c, [] => some c
  | c, i :: l => if bitA (blk c 1) i.toNat = true then gaveA (turn1A c i.toNat) l else none
def outA (img : List ByteArray) (i : Int) : Prop := i < (firstA img.length : Int) ∨ (img.length : Int) ≤ i
instance (img : List ByteArray) (i : Int) : Decidable (outA img i) := by unfold outA; infer_instance
def giveA (img : List ByteArray) (l : List Int) : List ByteArray × Int :=
  if ∃ i ∈ l, outA img i then (img, 15) else match gaveA img l with
  | none => (img, 20)
  | some c => (c, 0)

theorem first_le {n : Nat} (h : 8 ≤ n) (h2 : n ≤ 512) : 3 ≤ firstA n ∧ firstA n ≤ 34 ∧ firstA n ≤ n ∧ cntA n ≤ 128 ∧ 4 ≤ cntA n := by
  unfold firstA cntA; omega
theorem cnt_mod (n : Nat) : (cntA n + 3) / 4 = cntA n / 4 := by unfold cntA; omega

section
variable {img c : List ByteArray} {i : Nat}
theorem freeTo_zero (h : i ≤ firstA img.length) : freeTo img i = [] := by
  unfold freeTo
  rw [List.filter_eq_nil_iff]
  intro k hk
  have := List.mem_range.1 hk
  simp; omega
theorem freeTo_no (h : bitA (blk img 1) i = true) : freeTo img (i + 1) = freeTo img i := by
  unfold freeTo
  rw [List.range_succ, List.filter_append]
  simp [h]
theorem freeTo_yes (h : bitA (blk img 1) i = false) (hi : firstA img.length ≤ i) : freeTo img (i + 1) = freeTo img i ++ [i] := by
  unfold freeTo
  rw [List.range_succ, List.filter_append]
  simp [h, hi]
theorem freeTo_len (i : Nat) : (freeTo img i).length ≤ i := by
  unfold freeTo
  exact Nat.le_trans (List.length_filter_le ..) (by simp)
theorem freeTo_mem {i k : Nat} : k ∈ freeTo img i ↔ k < i ∧ firstA img.length ≤ k ∧ bitA (blk img 1) k = false := by
  unfold freeTo
  simp [List.mem_filter]
theorem freeTo_pre {i j : Nat} (h : i ≤ j) : freeTo img i <+: freeTo img j := by
  induction j with
  | zero => obtain rfl : i = 0 := by omega
            exact List.prefix_refl _
  | succ j ih =>
    rcases Nat.lt_or_ge j i with h1 | h1
    · obtain rfl : i = j + 1 := by omega
      exact List.prefix_refl _
    · refine (ih h1).trans ?_
      cases hb : bitA (blk img 1) j with
      | true => rw [freeTo_no hb]; exact List.prefix_refl _
      | false =>
        rcases Nat.lt_or_ge j (firstA img.length) with h2 | h2
        · rw [freeTo_zero (img := img) (by omega), freeTo_zero (img := img) (by omega)]; exact List.prefix_refl _
        · rw [freeTo_yes hb h2]; exact List.prefix_append _ _
end

theorem flip8_bit (x : UInt8) (k j : Nat) (hk : k < 8) (hj : j < 8) : (flip8 x k).toNat.testBit j = (if j = k then !x.toNat.testBit j else x.toNat.testBit j) := by
  have h1 : x.toNat ^^^ 2 ^ k < 256 := Nat.xor_lt_two_pow (n := 8) x.toNat_lt (Nat.pow_lt_pow_right (by omega) hk)
  unfold flip8
  rw [UInt8.toNat_ofNat_of_lt' (by simpa using h1), Nat.testBit_xor, Nat.testBit_two_pow]
  by_cases h : k = j
  · subst h; simp
  · rw [if_neg (fun e => h e.symm)]; simp [h]
theorem byA_lt (m : ByteArray) (k : Nat) : byA m k < 256 := by unfold byA; exact UInt8.toNat_lt _
theorem flipA_size (m : ByteArray) (i : Nat) : (flipA m i).size = m.size := by
  show (m.data.toList.modify _ _).toArray.size = m.data.size
  simp
theorem byA_flip (m : ByteArray) (i k : Nat) (hi : i / 8 < m.size) : byA (flipA m i) k = if k = i / 8 then (flip8 (m.data.toList.getD (i / 8) 0) (i % 8)).toNat else byA m k := by
  have hi' : i / 8 < m.data.toList.length := by simpa using hi
  unfold byA flipA mkB
  show UInt8.toNat (List.getD (List.toArray _).toList k 0) = _
  rw [List.getD_eq_getElem?_getD, List.getD_eq_getElem?_getD, List.getD_eq_getElem?_getD]
  simp only [List.getElem?_modify]
  by_cases h : k = i / 8
  · subst h
    rw [if_pos rfl, List.getElem?_eq_getElem hi']
    simp
  · rw [if_neg h]
    have h2 : ¬ i / 8 = k := fun e => h e.symm
    simp [h2]
theorem bit_flip (m : ByteArray) (i j : Nat) (hi : i / 8 < m.size) : bitA (flipA m i) j = if j = i then !bitA m j else bitA m j := by
  unfold bitA
  rw [byA_flip m i _ hi]
  by_cases h : j / 8 = i / 8
  · rw [if_pos h, flip8_bit _ _ _ (by omega) (by omega)]
    by_cases h2 : j = i
    · subst h2
      rw [if_pos rfl, if_pos rfl]; rfl
    · rw [if_neg (by omega), if_neg h2]; unfold byA; rw [h]
  · rw [if_neg h, if_neg (fun e => h (by rw [e]))]
/-- Maps of one length with the same bits are the same. -/
theorem ext_bits {a b : ByteArray} (hs : a.size = b.size) (h : ∀ i, i < 8 * a.size → bitA a i = bitA b i) : a = b := by
  refine ByteArray.ext (Array.toList_inj.1 (List.ext_getElem? fun k => ?_))
  have hl : a.data.toList.length = b.data.toList.length := by simpa using hs
  by_cases hk : k < a.data.toList.length
  · rw [List.getElem?_eq_getElem hk, List.getElem?_eq_getElem (by omega)]
    congr 1
    apply UInt8.toNat_inj.1
    apply Nat.eq_of_testBit_eq
    intro j
    rcases Nat.lt_or_ge j 8 with hj | hj
    · have hk' : k < a.size := by simpa using hk
      have := h (8 * k + j) (by omega)
      unfold bitA byA at this
      rw [show (8 * k + j) / 8 = k by omega, show (8 * k + j) % 8 = j by omega] at this
      rw [List.getD_eq_getElem?_getD, List.getD_eq_getElem?_getD, List.getElem?_eq_getElem hk, List.getElem?_eq_getElem (by omega)] at this
      exact this
    · rw [Nat.testBit_lt_two_pow (Nat.lt_of_lt_of_le (UInt8.toNat_lt _) (by simpa using Nat.pow_le_pow_right (n := 2) (by omega) hj)), Nat.testBit_lt_two_pow (Nat.lt_of_lt_of_le (UInt8.toNat_lt _) (by simpa using Nat.pow_le_pow_right (n := 2) (by omega) hj))]
  · rw [List.getElem?_eq_none (by omega), List.getElem?_eq_none (by omega)]
theorem flip_flip (m : ByteArray) (i : Nat) (hi : i / 8 < m.size) : flipA (flipA m i) i = m := by
  refine ext_bits (by rw [flipA_size, flipA_size]) fun j hj => ?_
  rw [bit_flip _ _ _ (by rw [flipA_size]; exact hi), bit_flip _ _ _ hi]
  by_cases h : j = i <;> simp [h]
theorem flip_comm (m : ByteArray) (i j : Nat) (hi : i / 8 < m.size) (hj : j / 8 < m.size) : flipA (flipA m i) j = flipA (flipA m j) i := by
  refine ext_bits (by rw [flipA_size, flipA_size, flipA_size, flipA_size]) fun k hk => ?_
  rw [bit_flip _ _ _ (by rw [flipA_size]; exact hj), bit_flip _ _ _ hi, bit_flip _ _ _ (by rw [flipA_size]; exact hi), bit_flip _ _ _ hj]
  by_cases h : k = i
  · by_cases h2 : k = j
    · subst h; subst h2; simp
    · rw [if_neg h2, if_pos h, if_neg h2, if_pos h]
  · by_cases h2 : k = j
    · rw [if_pos h2, if_neg h, if_neg h, if_pos h2]
    · rw [if_neg h2, if_neg h, if_neg h, if_neg h2]

end Go.Proofs.YtpdfkakhahfcjaaGreat
