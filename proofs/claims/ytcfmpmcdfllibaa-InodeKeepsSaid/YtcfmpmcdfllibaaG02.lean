/-
  What the statements' arguments are: devices, lists of truth values and of calls, as plain lists; and that they read afterwards as they read before.
-/
import Derived.Test.YtcfmpmcdfllibaaRows
import Derived.Test.YtcfmpmcdfllibaaG01
import Derived.SizedLaws
import Derived.ProofKit
import Derived.ChangeMaps5
import Derived.Lib.SmallJoins
import Derived.Deep.SlicePairs
import Derived.SliceStrings
import Derived.WalkKit
namespace Go.Proofs.Ytcfmpmcdfllibaa
open Go.ChangeShapes Go.WideShapes Go.ChangeAt Go.RowKit Go.ChangeMaps Go.Joins Go.Deep
theorem Try.own : ownKnob Try.prog.godebug = none := by kernel_rfl
theorem Try.laidOut : laidOutB Try.prog = true := by kernel_rfl

theorem slice_addr {w : World} {a : Addr} {u : Value} (h : w.cell? (a.add 0) = some u) : ∃ b o, a = ⟨b, o, none⟩ := by
  obtain ⟨b, o, spot⟩ := a
  have hs : spot = none := by simpa [Addr.add] using World.cell?_spot h
  subst hs
  exact ⟨b, o, rfl⟩
theorem list_of (len : Nat) (V0 V1 : Nat → Value) (h : ∀ i, i < len → ∃ p : Int × ByteArray, V0 i = .int .i64 p.1 ∧ V1 i = .string p.2) :
    ∃ cs : List (Int × ByteArray), cs.length = len ∧ ∀ i, i < len → V0 i = .int .i64 (wAt cs i) ∧ V1 i = .string (wDat cs i) := by
  induction len with
  | zero => exact ⟨[], rfl, fun i hi => absurd hi (Nat.not_lt_zero _)⟩
  | succ k ih =>
    obtain ⟨cs, hl, hc⟩ := ih fun i hi => h i (by omega)
    obtain ⟨p, h0, h1⟩ := h k (by omega)
    refine ⟨cs ++ [p], by simp [hl], fun i hi => ?_⟩
    by_cases e : i = k
    · subst e
      have hq : (cs ++ [p]).getD i (0, ⟨#[]⟩) = p := by rw [List.getD_eq_getElem?_getD, List.getElem?_append_right (by omega), hl, Nat.sub_self]; rfl
      unfold wAt wDat
      rw [hq]
      exact ⟨h0, h1⟩
    · have hq : (cs ++ [p]).getD i (0, ⟨#[]⟩) = cs.getD i (0, ⟨#[]⟩) := by rw [List.getD_eq_getElem?_getD, List.getD_eq_getElem?_getD, List.getElem?_append_left (by omega)]
      unfold wAt wDat
      rw [hq]
      exact hc i (by omega)

section
variable {H : Type} {enc : TypeId × Value → H} {W : World} {base : Nat} {spare : Nat → Bool} {held : Bool} {fuel : Nat}
set_option maxRecDepth 100000 in
/-- A slice of texts. -/
theorem open_texts {v : Value} {y : DataW H × List MemPlace} (h : DataW.trod enc Try.prog W base spare held fuel 22 [v] = some y) (hw : ∀ x ∈ DataW.weights Try.prog 22 y.1, x ≤ reachBytes) :
    ∃ A n c bs, v = .slice A n c ∧ n ≤ c ∧ c ≤ maxLen ∧ Reads W W.heap.size 1 A n (encS bs) ∧ n * 16 ≤ 140737488355328 := by
  rcases open_strings Try.underlying22 Try.underlying9 (by kernel_rfl) h with ⟨hcs, hx⟩ | ⟨a, len, cap, ss, hcs, _, hl, hm, hz, hx, hcell, _⟩
  · injection hcs with hcs _
    exact ⟨none, 0, 0, [], hcs, Nat.le_refl _, by simp only [maxLen]; omega, Reads.nil, by omega⟩
  · injection hcs with hcs _
    subst hx
    have hlen : len ≤ ss.length := by rw [hz]; split <;> omega
    have hbytes := hw ((List.length (strs (H := H) (ss.take len)) + List.length (strs (H := H) (ss.drop len))) * Try.prog.bytesOf 9) (by simp [DataW.weights, Try.underlying22])
    have hb16 : Try.prog.bytesOf 9 = 16 := by kernel_rfl
    rw [hb16] at hbytes
    have hlen2 : (strs (H := H) (ss.take len)).length = len := by simp [strs]; omega
    have hre : reachBytes = 140737488351232 := by decide
    rw [hlen2, hre] at hbytes
    refine ⟨some a, len, cap, ss.take len, hcs, hl, hm, ⟨by rw [encS_length, List.length_take]; omega, fun hn => ?_⟩, by omega⟩
    obtain ⟨b, o, rfl⟩ := slice_addr (hcell 0 (by omega))
    refine ⟨b, o, rfl, ?_, fun j u hu => ?_⟩
    · have := World.block_lt_of_cell? W _ (hcell 0 (by omega))
      rw [add_plain] at this
      exact this
    · have hj := (List.getElem?_eq_some_iff.1 hu).1
      rw [encS_length, List.length_take] at hj
      rw [encS_get (by rw [List.length_take]; omega)] at hu
      injection hu with hu
      rw [← hu, ← add_plain, hcell j (by omega)]
      have e : ss.getD j ByteArray.empty = blk (ss.take len) j := by
        unfold blk
        rw [List.getD_eq_getElem?_getD, List.getD_eq_getElem?_getD, List.getElem?_take, if_pos (by omega)]
        rfl
      rw [e]
set_option maxRecDepth 100000 in
/-- A slice of truth values. -/
theorem open_bools {v : Value} {y : DataW H × List MemPlace} (h : DataW.trod enc Try.prog W base spare held fuel 51 [v] = some y) :
    ∃ K k c ks, v = .slice K k c ∧ k ≤ c ∧ c ≤ maxLen ∧ Reads W W.heap.size 1 K k (encB ks) := by
  rcases open_slice1 Try.underlying51 (by kernel_rfl) h with ⟨hcs, hx⟩ | ⟨a, len, cap, m, n, V, D, Pl, hcs, _, hl, hm, hmm, hx, hi⟩
  · injection hcs with hcs _
    exact ⟨none, 0, 0, [], hcs, Nat.le_refl _, by simp only [maxLen]; omega, Reads.nil⟩
  · injection hcs with hcs _
    have hlm : len ≤ m := by rw [hmm]; split <;> omega
    have hb : ∀ i, i < len → ∃ x : Bool, V i = .bool x := fun i hi' => by
      obtain ⟨x, e, _⟩ := DataW.trod_bool Try.underlying4 (hi i (by omega)).2
      injection e with e _
      exact ⟨x, e⟩
    have hlist : ∀ k, k ≤ len → ∃ ks : List Bool, ks.length = k ∧ ∀ i, i < k → V i = .bool (bAt ks i) := by
      intro k
      induction k with
      | zero => exact fun _ => ⟨[], rfl, fun i hi => absurd hi (Nat.not_lt_zero _)⟩
      | succ k ih =>
        intro hk
        obtain ⟨ks, hkl, hc⟩ := ih (by omega)
        obtain ⟨x, hx⟩ := hb k (by omega)
        refine ⟨ks ++ [x], by simp [hkl], fun i hi => ?_⟩
        by_cases e : i = k
        · subst e
          have hq : bAt (ks ++ [x]) i = x := by unfold bAt; rw [List.getD_eq_getElem?_getD, List.getElem?_append_right (by omega), hkl, Nat.sub_self]; rfl
          rw [hq]; exact hx
        · have hq : bAt (ks ++ [x]) i = bAt ks i := by unfold bAt; rw [List.getD_eq_getElem?_getD, List.getD_eq_getElem?_getD, List.getElem?_append_left (by omega)]
          rw [hq]; exact hc i (by omega)
    obtain ⟨ks, hkl, hkv⟩ := hlist len (Nat.le_refl _)
    refine ⟨some a, len, cap, ks, hcs, hl, hm, ⟨by rw [encB_length, hkl]; omega, fun hn => ?_⟩⟩
    have h0 := (hi 0 (by omega)).1
    obtain ⟨b, o, rfl⟩ := slice_addr h0
    refine ⟨b, o, rfl, ?_, fun j u hu => ?_⟩
    · have := World.block_lt_of_cell? W _ h0
      rw [add_plain] at this
      exact this
    · have hj := (List.getElem?_eq_some_iff.1 hu).1
      rw [encB_length, hkl] at hj
      rw [encB_get (by omega)] at hu
      injection hu with hu
      have hc := (hi j (by omega)).1
      rw [add_plain] at hc
      rw [hc, hkv j hj, ← hu]
end

end Go.Proofs.Ytcfmpmcdfllibaa

/-
  Plain mathematics for layer 1 (code): numbers as groups of seven bits and back, signed numbers, the check sum, without any condition but those each lemma states.
-/
namespace Go.Proofs.Ytcfmpmcdfllibaa
open Go.RowKit

/-- A number as bytes: groups of seven bits, the lowest first. -/
def enc (n : Nat) : List UInt8 := if n < 128 then [UInt8.ofNat n] else UInt8.ofNat (n % 128 + 128) :: enc (n / 128)
  termination_by n
  decreasing_by omega

theorem enc_lt {n : Nat} (h : n < 128) : enc n = [UInt8.ofNat n] := by rw [enc, if_pos h]
theorem enc_ge {n : Nat} (h : ¬ n < 128) : enc n = UInt8.ofNat (n % 128 + 128) :: enc (n / 128) := by rw [enc, if_neg h]

theorem enc_ne (n : Nat) : enc n ≠ [] := by
  by_cases h : n < 128
  · rw [enc_lt h]; simp
  · rw [enc_ge h]; simp

theorem enc_length (k : Nat) : ∀ n : Nat, n < 128 ^ (k + 1) → (enc n).length ≤ k + 1 := by
  induction k with
  | zero => intro n h; rw [enc_lt (by simpa using h)]; simp
  | succ k ih =>
    intro n h
    by_cases h1 : n < 128
    · rw [enc_lt h1]; simp
    · rw [enc_ge h1]
      have : n / 128 < 128 ^ (k + 1) := by
        rw [Nat.pow_succ] at h; exact Nat.div_lt_of_lt_mul (by rw [Nat.mul_comm]; exact h)
      have := ih _ this
      simp; omega

theorem enc_length10 {n : Nat} (h : n < 18446744073709551616) : (enc n).length ≤ 10 := enc_length 9 n (Nat.lt_of_lt_of_le h (by decide))

/-- What reading tells of the bytes from a place on. -/
inductive Res where
  | short
  | form
  | ok (n len : Nat)

/-- Reading, k groups and their sum acc being done. -/
def dec : List UInt8 → Nat → Nat → Res
  | [], _, _ => .short
  | c :: cs, k, acc =>
    if k = 9 ∧ 1 < c.toNat then .form
    else if 0 < k ∧ c.toNat = 0 then .form
    else if c.toNat < 128 then .ok (acc + c.toNat * 2 ^ (7 * k)) (k + 1)
    else dec cs (k + 1) (acc + (c.toNat - 128) * 2 ^ (7 * k))

theorem ofNat_lo {n : Nat} (h : n < 128) : (UInt8.ofNat n).toNat = n := by
  rw [UInt8.toNat_ofNat']; omega
theorem ofNat_hi (n : Nat) : (UInt8.ofNat (n % 128 + 128)).toNat = n % 128 + 128 := by
  rw [UInt8.toNat_ofNat']; omega

theorem dec_enc_at (t : List UInt8) (n : Nat) : ∀ (k acc : Nat), k ≤ 9 → n * 2 ^ (7 * k) < 18446744073709551616 → (0 < k → n ≠ 0) →
    dec (enc n ++ t) k acc = .ok (acc + n * 2 ^ (7 * k)) (k + (enc n).length) := by
  induction n using Nat.strongRecOn with
  | ind n ih =>
    intro k acc hk hn h0
    have hp : 0 < 2 ^ (7 * k) := Nat.pow_pos (by omega)
    have h9 : k = 9 → n ≤ 1 := by
      rintro rfl
      have : (2 : Nat) ^ (7 * 9) = 9223372036854775808 := by decide
      rw [this] at hn; omega
    by_cases h : n < 128
    · rw [enc_lt h]
      simp only [List.cons_append, List.nil_append, dec, ofNat_lo h]
      rw [if_neg (by rintro ⟨e, h1⟩; have := h9 e; omega), if_neg (by rintro ⟨a, b⟩; exact h0 a b), if_pos h]
      simp
    · rw [enc_ge h]
      have hk8 : k < 9 := by
        rcases Nat.lt_or_ge k 9 with h1 | h1
        · exact h1
        · have := h9 (by omega); omega
      simp only [List.cons_append, dec, ofNat_hi]
      rw [if_neg (by omega), if_neg (by omega), if_neg (by omega)]
      have hd := Nat.div_add_mod n 128
      have e1 : 2 ^ (7 * (k + 1)) = 128 * 2 ^ (7 * k) := by
        rw [show 7 * (k + 1) = 7 + 7 * k by omega, Nat.pow_add]
      have e2 : (n / 128) * (128 * 2 ^ (7 * k)) = (128 * (n / 128)) * 2 ^ (7 * k) := by
        rw [← Nat.mul_assoc, Nat.mul_comm (n / 128) 128]
      have e3 : n * 2 ^ (7 * k) = (128 * (n / 128)) * 2 ^ (7 * k) + (n % 128) * 2 ^ (7 * k) := by
        rw [← Nat.add_mul, hd]
      rw [ih (n / 128) (by omega) (k + 1) _ (by omega) (by rw [e1, e2]; omega) (by omega)]
      rw [e1, e2, show n % 128 + 128 - 128 = n % 128 by omega, e3]
      simp only [List.length_cons, Res.ok.injEq]
      omega

theorem dec_enc (t : List UInt8) {n : Nat} (h : n < 18446744073709551616) : dec (enc n ++ t) 0 0 = .ok n (enc n).length := by
  have := dec_enc_at t n 0 0 (by omega) (by simpa using h) (by omega)
  simpa using this

theorem dec_cut_at (n : Nat) : ∀ (j k acc : Nat), k ≤ 9 → n * 2 ^ (7 * k) < 18446744073709551616 → (0 < k → n ≠ 0) → j < (enc n).length →
    dec ((enc n).take j) k acc = .short := by
  induction n using Nat.strongRecOn with
  | ind n ih =>
    intro j k acc hk hn h0 hj
    have h9 : k = 9 → n ≤ 1 := by
      rintro rfl
      have : (2 : Nat) ^ (7 * 9) = 9223372036854775808 := by decide
      rw [this] at hn; omega
    by_cases h : n < 128
    · rw [enc_lt h] at hj ⊢
      obtain rfl : j = 0 := by simp at hj; omega
      rfl
    · have hk8 : k < 9 := by
        rcases Nat.lt_or_ge k 9 with h1 | h1
        · exact h1
        · have := h9 (by omega); omega
      rw [enc_ge h] at hj ⊢
      cases j with
      | zero => rfl
      | succ j =>
        simp only [List.take_succ_cons, dec, ofNat_hi]
        rw [if_neg (by omega), if_neg (by omega), if_neg (by omega)]
        have hd := Nat.div_add_mod n 128
        have e1 : 2 ^ (7 * (k + 1)) = 128 * 2 ^ (7 * k) := by
          rw [show 7 * (k + 1) = 7 + 7 * k by omega, Nat.pow_add]
        have e2 : (n / 128) * (128 * 2 ^ (7 * k)) = (128 * (n / 128)) * 2 ^ (7 * k) := by
          rw [← Nat.mul_assoc, Nat.mul_comm (n / 128) 128]
        have e3 : n * 2 ^ (7 * k) = (128 * (n / 128)) * 2 ^ (7 * k) + (n % 128) * 2 ^ (7 * k) := by
          rw [← Nat.add_mul, hd]
        exact ih (n / 128) (by omega) j (k + 1) _ (by omega) (by rw [e1, e2]; omega) (by omega) (by simp at hj; omega)

theorem dec_cut {n j : Nat} (h : n < 18446744073709551616) (hj : j < (enc n).length) : dec ((enc n).take j) 0 0 = .short :=
  dec_cut_at n j 0 0 (by omega) (by simpa using h) (by omega) hj

theorem dec_ok_at (l : List UInt8) : ∀ (k acc n len : Nat), k ≤ 9 → dec l k acc = .ok n len →
    ∃ m, n = acc + m * 2 ^ (7 * k) ∧ m * 2 ^ (7 * k) < 18446744073709551616 ∧ (0 < k → m ≠ 0) ∧ len = k + (enc m).length ∧ enc m = l.take (enc m).length ∧ (enc m).length ≤ l.length := by
  induction l with
  | nil => intro k acc n len _ h; simp [dec] at h
  | cons c cs ih =>
    intro k acc n len hk h
    have hc := c.toNat_lt
    have hp : k ≤ 8 → 2 ^ (7 * k) ≤ 2 ^ 56 := fun h => Nat.pow_le_pow_right (by omega) (by omega)
    simp only [dec] at h
    by_cases h1 : k = 9 ∧ 1 < c.toNat
    · rw [if_pos h1] at h; cases h
    rw [if_neg h1] at h
    by_cases h2 : 0 < k ∧ c.toNat = 0
    · rw [if_pos h2] at h; cases h
    rw [if_neg h2] at h
    by_cases h3 : c.toNat < 128
    · rw [if_pos h3] at h
      obtain ⟨rfl, rfl⟩ : acc + c.toNat * 2 ^ (7 * k) = n ∧ k + 1 = len := by simpa using h
      refine ⟨c.toNat, rfl, ?_, fun a b => h2 ⟨a, b⟩, ?_⟩
      · rcases Nat.lt_or_ge 8 k with h8 | h8
        · obtain rfl : k = 9 := by omega
          have : (2 : Nat) ^ (7 * 9) = 9223372036854775808 := by decide
          rw [this]; have : c.toNat ≤ 1 := by omega
          omega
        · have := hp h8
          have e : (2 : Nat) ^ 56 = 72057594037927936 := by decide
          calc c.toNat * 2 ^ (7 * k) ≤ 255 * 2 ^ 56 := Nat.mul_le_mul (by omega) this
            _ < _ := by rw [e]; omega
      · rw [enc_lt h3]; simp
    · rw [if_neg h3] at h
      have hk8 : k ≤ 8 := by
        rcases Nat.lt_or_ge 8 k with h8 | h8
        · exact absurd ⟨by omega, by omega⟩ h1
        · exact h8
      obtain ⟨m, hm, hb, h0, hl, he, hle⟩ := ih (k + 1) _ n len (by omega) h
      have hm0 := h0 (by omega)
      have e1 : 2 ^ (7 * (k + 1)) = 128 * 2 ^ (7 * k) := by
        rw [show 7 * (k + 1) = 7 + 7 * k by omega, Nat.pow_add]
      have e2 : m * (128 * 2 ^ (7 * k)) = (128 * m) * 2 ^ (7 * k) := by
        rw [← Nat.mul_assoc, Nat.mul_comm m 128]
      have henc : enc (128 * m + (c.toNat - 128)) = c :: enc m := by
        rw [enc_ge (by omega)]
        have a1 : (128 * m + (c.toNat - 128)) % 128 + 128 = c.toNat := by omega
        have a2 : (128 * m + (c.toNat - 128)) / 128 = m := by omega
        rw [a1, a2]; simp
      refine ⟨128 * m + (c.toNat - 128), ?_, ?_, by omega, ?_, ?_, ?_⟩
      · rw [hm, e1, e2, Nat.add_mul]; omega
      · rw [e1, e2] at hb
        have hle8 : (2 : Nat) ^ (7 * k) * 128 ∣ 18446744073709551616 := by
          have : (18446744073709551616 : Nat) = 2 ^ 64 := by decide
          rw [this, show (128 : Nat) = 2 ^ 7 by decide, ← Nat.pow_add]; exact Nat.pow_dvd_pow 2 (by omega)
        obtain ⟨q, hq⟩ := hle8
        have hpp : 0 < 2 ^ (7 * k) := Nat.pow_pos (by omega)
        rw [hq] at hb ⊢
        have : m < q := by
          have : m * (2 ^ (7 * k) * 128) < q * (2 ^ (7 * k) * 128) := by
            calc m * (2 ^ (7 * k) * 128) = 128 * m * 2 ^ (7 * k) := by rw [Nat.mul_comm (2 ^ (7 * k)) 128, ← Nat.mul_assoc, Nat.mul_comm m 128]
              _ < _ := hb
              _ = _ := by rw [Nat.mul_comm]
          exact Nat.lt_of_mul_lt_mul_right this
        calc (128 * m + (c.toNat - 128)) * 2 ^ (7 * k) < (128 * m + 128) * 2 ^ (7 * k) := Nat.mul_lt_mul_of_pos_right (by omega) hpp
          _ ≤ (128 * q) * 2 ^ (7 * k) := Nat.mul_le_mul_right _ (by omega)
          _ = _ := by rw [Nat.mul_comm (2 ^ (7 * k)) 128, Nat.mul_assoc, Nat.mul_comm q, ← Nat.mul_assoc]
      · rw [hl, henc]; simp; omega
      · rw [henc]; simp; exact he
      · rw [henc]; simp; exact hle

theorem dec_ok {l : List UInt8} {n len : Nat} (h : dec l 0 0 = .ok n len) : n < 18446744073709551616 ∧ len = (enc n).length ∧ enc n = l.take len ∧ len ≤ l.length := by
  obtain ⟨m, hm, hb, _, hl, he, hle⟩ := dec_ok_at l 0 0 n len (by omega) h
  obtain rfl : n = m := by simpa using hm
  obtain rfl : len = (enc n).length := by omega
  exact ⟨by simpa using hb, rfl, he, hle⟩

/-- A signed number as one. -/
def zz (x : Int) : Nat := if x < 0 then (-2 * x - 1).toNat else (2 * x).toNat
/-- Back. -/
def unzz (n : Nat) : Int := if n % 2 = 1 then -((n / 2 : Nat) : Int) - 1 else ((n / 2 : Nat) : Int)
theorem unzz_zz (x : Int) : unzz (zz x) = x := by
  unfold unzz zz; split <;> split <;> omega
theorem zz_lt {x : Int} (h1 : -9223372036854775808 ≤ x) (h2 : x ≤ 9223372036854775807) : zz x < 18446744073709551616 := by
  unfold zz; split <;> omega
theorem unzz_in {n : Nat} (h : n < 18446744073709551616) : -9223372036854775808 ≤ unzz n ∧ unzz n ≤ 9223372036854775807 := by
  unfold unzz; split <;> omega

/-- One bit is turned out of a sum. -/
def turn1 (x : Nat) : Nat := if x % 2 = 1 then (x / 2) ^^^ 3988292384 else x / 2
/-- k bits. -/
def turnK : Nat → Nat → Nat
  | 0, x => x
  | k + 1, x => turn1 (turnK k x)
theorem turn1_lt {x : Nat} (h : x < 4294967296) : turn1 x < 4294967296 := by
  unfold turn1
  split
  · exact Nat.xor_lt_two_pow (n := 32) (by omega) (by omega)
  · omega
theorem turnK_lt {x : Nat} (h : x < 4294967296) : ∀ k, turnK k x < 4294967296
  | 0 => h
  | k + 1 => turn1_lt (turnK_lt h k)
/-- The sum, before it is turned at its end. -/
def crcAcc (l : List UInt8) : Nat := l.foldl (fun a c => turnK 8 (a ^^^ c.toNat)) 4294967295
theorem crcAcc_snoc (l : List UInt8) (c : UInt8) : crcAcc (l ++ [c]) = turnK 8 (crcAcc l ^^^ c.toNat) := by simp [crcAcc]
theorem xor_byte_lt {a : Nat} (h : a < 4294967296) (c : UInt8) : a ^^^ c.toNat < 4294967296 :=
  Nat.xor_lt_two_pow (n := 32) (by omega) (by have := c.toNat_lt; omega)
theorem crcAcc_lt (l : List UInt8) : crcAcc l < 4294967296 := by
  unfold crcAcc
  suffices ∀ (l : List UInt8) (a : Nat), a < 4294967296 → l.foldl (fun a c => turnK 8 (a ^^^ c.toNat)) a < 4294967296 from this l _ (by omega)
  intro l
  induction l with
  | nil => intro a h; exact h
  | cons c cs ih => intro a h; exact ih _ (turnK_lt (xor_byte_lt h c) 8)
def crc (l : List UInt8) : Nat := 4294967295 - crcAcc l

theorem take_snoc (s : ByteArray) (k : Nat) (h : k < s.size) : s.data.toList.take (k + 1) = s.data.toList.take k ++ [s[k]] := by
  rw [List.take_succ_eq_append_getElem (by simpa using h)]; rfl

theorem bits32 (a b : Nat) (ha : a < 4294967296) (hb : b < 4294967296) :
    bits .and .u32 (a : Int) (b : Int) = ((a &&& b : Nat) : Int) ∧ bits .xor .u32 (a : Int) (b : Int) = ((a ^^^ b : Nat) : Int) := by
  have hx : a ^^^ b < 2 ^ 32 := Nat.xor_lt_two_pow (by omega) (by omega)
  have hn : a &&& b < 2 ^ 32 := Nat.and_lt_two_pow _ (by omega)
  have h1 : (BitVec.ofInt 32 (a : Int)).toNat = a := by
    rw [BitVec.ofInt_natCast, BitVec.toNat_ofNat]; exact Nat.mod_eq_of_lt (by omega)
  have h2 : (BitVec.ofInt 32 (b : Int)).toNat = b := by
    rw [BitVec.ofInt_natCast, BitVec.toNat_ofNat]; exact Nat.mod_eq_of_lt (by omega)
  constructor
  · show IntKind.u32.wrap ((BitVec.ofInt 32 (a : Int) &&& BitVec.ofInt 32 (b : Int)).toNat : Int) = _
    rw [BitVec.toNat_and, h1, h2, IntKind.wrap_u32]; omega
  · show IntKind.u32.wrap ((BitVec.ofInt 32 (a : Int) ^^^ BitVec.ofInt 32 (b : Int)).toNat : Int) = _
    rw [BitVec.toNat_xor, h1, h2, IntKind.wrap_u32]; omega
theorem and32 (a b : Nat) (ha : a < 4294967296) (hb : b < 4294967296) : bits .and .u32 (a : Int) (b : Int) = ((a &&& b : Nat) : Int) := (bits32 a b ha hb).1
theorem xor32 (a b : Nat) (ha : a < 4294967296) (hb : b < 4294967296) : bits .xor .u32 (a : Int) (b : Int) = ((a ^^^ b : Nat) : Int) := (bits32 a b ha hb).2

theorem turn_step (x : Nat) (hx : x < 4294967296) :
    bits .xor .u32 ((x : Int) / 2) (bits .and .u32 3988292384 (-bits .and .u32 (x : Int) 1 % 4294967296)) = ((turn1 x : Nat) : Int) := by
  have e1 : bits .and .u32 (x : Int) 1 = ((x % 2 : Nat) : Int) := by
    rw [show (1 : Int) = ((1 : Nat) : Int) by rfl, and32 x 1 hx (by omega), Nat.and_one_is_mod]
  rw [e1, show ((x : Int) / 2) = ((x / 2 : Nat) : Int) by omega]
  unfold turn1
  by_cases h : x % 2 = 1
  · rw [if_pos h, h, show (-((1 : Nat) : Int) % 4294967296) = ((4294967295 : Nat) : Int) by decide, show (3988292384 : Int) = ((3988292384 : Nat) : Int) by rfl,
      and32 _ _ (by omega) (by omega), show (3988292384 &&& 4294967295 : Nat) = 3988292384 by decide, xor32 _ _ (by omega) (by omega)]
  · rw [if_neg h, show x % 2 = 0 by omega, show (-((0 : Nat) : Int) % 4294967296) = ((0 : Nat) : Int) by decide, show (3988292384 : Int) = ((3988292384 : Nat) : Int) by rfl,
      and32 _ _ (by omega) (by omega), show (3988292384 &&& 0 : Nat) = 0 by decide, xor32 _ _ (by omega) (by omega), Nat.xor_zero]

theorem xor_all (x : Nat) (hx : x < 4294967296) : bits .xor .u32 4294967295 (x : Int) = ((4294967295 - x : Nat) : Int) := by
  rw [show (4294967295 : Int) = ((4294967295 : Nat) : Int) by rfl, xor32 _ _ (by omega) hx]
  congr 1
  apply Nat.eq_of_testBit_eq
  intro i
  rw [Nat.testBit_xor]
  have h1 : (4294967295 - x).testBit i = (decide (i < 32) && !x.testBit i) := by
    have := Nat.testBit_two_pow_sub_succ (n := 32) (x := x) (by omega) i
    rwa [show 2 ^ 32 - (x + 1) = 4294967295 - x by omega] at this
  have h2 : (4294967295 : Nat).testBit i = decide (i < 32) := Nat.testBit_two_pow_sub_one 32 i
  rw [h1, h2]
  by_cases hi : i < 32
  · simp [hi]
  · have : x.testBit i = false := Nat.testBit_lt_two_pow (Nat.lt_of_lt_of_le hx (by rw [show (4294967296 : Nat) = 2 ^ 32 by decide]; exact Nat.pow_le_pow_right (by omega) (by omega)))
    simp [hi, this]

/-- What reading a number at a place tells: the number, the place behind it, the error. -/
def rdN (s : ByteArray) (at_ : Int) : Nat × Int × Int :=
  if at_ < 0 ∨ (s.size : Int) < at_ then (0, 0, 15)
  else match dec (s.data.toList.drop at_.toNat) 0 0 with
    | .short => (0, 0, 11)
    | .form => (0, 0, 10)
    | .ok n len => (n, at_ + len, 0)

theorem rdN_place {s : ByteArray} {a : Int} (h : a < 0 ∨ (s.size : Int) < a) : rdN s a = (0, 0, 15) := by rw [rdN, if_pos h]
theorem rdN_in {s : ByteArray} {a : Nat} (h : a ≤ s.size) : rdN s a = (match dec (s.data.toList.drop a) 0 0 with
    | .short => (0, 0, 11)
    | .form => (0, 0, 10)
    | .ok n len => (n, (a : Int) + len, 0)) := by
  rw [rdN, if_neg (by omega), Int.toNat_natCast]

theorem rdN_bd (s : ByteArray) (a : Int) : (rdN s a).1 < 18446744073709551616 ∧ 0 ≤ (rdN s a).2.1 ∧ (rdN s a).2.1 ≤ s.size ∧ ((rdN s a).2.2 = 0 ∨ ((rdN s a).1 = 0 ∧ (rdN s a).2.1 = 0 ∧ ((rdN s a).2.2 = 10 ∨ (rdN s a).2.2 = 11 ∨ (rdN s a).2.2 = 15))) := by
  by_cases h : a < 0 ∨ (s.size : Int) < a
  · rw [rdN_place h]; simp
  · obtain ⟨n, rfl⟩ : ∃ n : Nat, a = n := ⟨a.toNat, by omega⟩
    rw [rdN_in (by omega)]
    cases hd : dec (s.data.toList.drop n) 0 0 with
    | short => simp
    | form => simp
    | ok m len =>
      obtain ⟨h1, _, _, h4⟩ := dec_ok hd
      simp at h4 ⊢
      omega

theorem drop_cons (s : ByteArray) (a : Nat) (h : a < s.size) : s.data.toList.drop a = s[a] :: s.data.toList.drop (a + 1) := by
  rw [List.drop_eq_getElem_cons (by simpa using h)]; rfl

theorem rd_short {s : ByteArray} {a k acc : Nat} (ha : a ≤ s.size) (hd : dec (s.data.toList.drop (a + k)) k acc = dec (s.data.toList.drop a) 0 0) (h : ¬ a + k < s.size) : rdN s a = (0, 0, 11) := by
  rw [rdN_in ha, ← hd, List.drop_of_length_le (by simp; omega)]; rfl
theorem rd_form {s : ByteArray} {a k acc : Nat} (ha : a ≤ s.size) (hd : dec (s.data.toList.drop (a + k)) k acc = dec (s.data.toList.drop a) 0 0) (h : a + k < s.size)
    (hc : k = 9 ∧ 1 < s[a + k].toNat ∨ 0 < k ∧ s[a + k].toNat = 0) : rdN s a = (0, 0, 10) := by
  rw [rdN_in ha, ← hd, drop_cons s _ h, dec]
  by_cases h1 : k = 9 ∧ 1 < s[a + k].toNat
  · rw [if_pos h1]
  · rw [if_neg h1, if_pos (hc.resolve_left h1)]
theorem rd_ok {s : ByteArray} {a k acc : Nat} (ha : a ≤ s.size) (hd : dec (s.data.toList.drop (a + k)) k acc = dec (s.data.toList.drop a) 0 0) (h : a + k < s.size)
    (h1 : ¬ (k = 9 ∧ 1 < s[a + k].toNat)) (h2 : ¬ (0 < k ∧ s[a + k].toNat = 0)) (h3 : s[a + k].toNat < 128) : rdN s a = (acc + s[a + k].toNat * 2 ^ (7 * k), (a : Int) + k + 1, 0) := by
  rw [rdN_in ha, ← hd, drop_cons s _ h, dec, if_neg h1, if_neg h2, if_pos h3]
  simp; omega
theorem rd_go {s : ByteArray} {a k acc : Nat} (hd : dec (s.data.toList.drop (a + k)) k acc = dec (s.data.toList.drop a) 0 0) (h : a + k < s.size)
    (h1 : ¬ (k = 9 ∧ 1 < s[a + k].toNat)) (h3 : ¬ s[a + k].toNat < 128) : dec (s.data.toList.drop (a + (k + 1))) (k + 1) (acc + (s[a + k].toNat - 128) * 2 ^ (7 * k)) = dec (s.data.toList.drop a) 0 0 := by
  rw [← hd, drop_cons s _ h, dec, if_neg h1, if_neg (by omega), if_neg h3, Nat.add_assoc]

theorem ret_int {k : IntKind} {a b : Int} (h : a = b) : Ending.returned (.int k a) = .returned (.int k b) := by rw [h]
theorem ret_int3 {k1 k2 k3 : IntKind} {a b c a' b' c' : Int} (h1 : a = a') (h2 : b = b') (h3 : c = c') :
    Ending.returned (.tuple #[.int k1 a, .int k2 b, .int k3 c]) = .returned (.tuple #[.int k1 a', .int k2 b', .int k3 c']) := by rw [h1, h2, h3]

/-- k groups and one more, without a carry beyond 64 bits. -/
theorem group_add {k acc c : Nat} (hk : k ≤ 8) (hacc : acc < 2 ^ (7 * k)) : acc + (c % 128) * 2 ^ (7 * k) < 2 ^ (7 * (k + 1)) ∧ acc + (c % 128) * 2 ^ (7 * k) < 18446744073709551616 := by
  have h1 : (c % 128 + 1) * 2 ^ (7 * k) ≤ 128 * 2 ^ (7 * k) := Nat.mul_le_mul_right _ (by omega)
  have h2 : 2 ^ (7 * (k + 1)) = 128 * 2 ^ (7 * k) := by rw [show 7 * (k + 1) = 7 + 7 * k by omega, Nat.pow_add]
  have h3 : (2 : Nat) ^ (7 * k) ≤ 2 ^ 56 := Nat.pow_le_pow_right (by omega) (by omega)
  have h4 : (2 : Nat) ^ 56 = 72057594037927936 := by decide
  rw [Nat.add_mul] at h1
  rw [h4] at h3
  constructor <;> omega
theorem wrap_group {k acc c : Nat} (hk : k ≤ 8) (hacc : acc < 2 ^ (7 * k)) :
    IntKind.u64.wrap ((acc : Int) + IntKind.u64.wrap ((c : Int) % 128 * 2 ^ (7 * k))) = ((acc + (c % 128) * 2 ^ (7 * k) : Nat) : Int) := by
  obtain ⟨_, h2⟩ := group_add (c := c) hk hacc
  have e : ((c : Int) % 128 * 2 ^ (7 * k)) = (((c % 128) * 2 ^ (7 * k) : Nat) : Int) := by push_cast; rfl
  rw [e, IntKind.wrap_u64, IntKind.wrap_u64]
  generalize (c % 128) * 2 ^ (7 * k) = z at *
  omega
theorem wrap_group9 {acc c : Nat} (hc : c ≤ 1) (hacc : acc < 2 ^ (7 * 9)) :
    IntKind.u64.wrap ((acc : Int) + (c : Int) % 128 * 9223372036854775808) = ((acc + c * 2 ^ (7 * 9) : Nat) : Int) := by
  have h4 : (2 : Nat) ^ (7 * 9) = 9223372036854775808 := by decide
  rw [h4] at hacc ⊢
  rw [IntKind.wrap_u64]
  omega

/-- Bytes as the cells of a row. -/
def u8s (l : List UInt8) : List Value := l.map fun c => .int .u8 (c.toNat : Int)
theorem u8s_snoc (l : List UInt8) (c : UInt8) : u8s (l ++ [c]) = u8s l ++ [.int .u8 (c.toNat : Int)] := by simp [u8s]

/-- A row that the call owns, as a string. -/
theorem own_string {P : Program} {w : World} {base st et dt n : Nat} {v : Value} {l : List UInt8} (hs : P.underlying st = some (.slice et)) (he : P.underlying et = some (.int .u8)) (hd : P.underlying dt = some .string)
    (hown : w.ownsRow base et 1 v n (u8s l)) (hn : n ≠ 0) : (convert st dt v).run P w = .ok (.string ⟨l.toArray⟩) w := by
  have hlen : l.length = n := by have := hown.1; simpa [u8s] using this
  subst hlen
  rcases hown.2 with ⟨_, h0⟩ | ⟨g, cap, cur, rfl, hb, hg, _⟩
  · exact absurd h0 hn
  · refine run_convert_bytes_back w st dt et ⟨g, 0, none⟩ cap l hs he hd fun j hj => ?_
    exact hown.cells (g := g) rfl j _ (by simp [u8s, hj])

theorem enc_split_lt {n m : Nat} {l : List UInt8} (h : l ++ enc m = enc n) (hm : m < 128) : l ++ [UInt8.ofNat m] = enc n := by rw [← h, enc_lt hm]
theorem enc_split_ge {n m : Nat} {l : List UInt8} (h : l ++ enc m = enc n) (hm : ¬ m < 128) : (l ++ [UInt8.ofNat (m % 128 + 128)]) ++ enc (m / 128) = enc n := by
  rw [← h, enc_ge hm]; simp
theorem enc_split_len {n m : Nat} {l : List UInt8} (h : l ++ enc m = enc n) (hn : n < 18446744073709551616) : l.length ≤ 9 := by
  have h1 := enc_length10 hn
  have h2 := enc_ne m
  rw [← h, List.length_append] at h1
  have : (enc m).length ≠ 0 := by simpa using h2
  omega

theorem u8s_end {n m : Nat} {l : List UInt8} (h : l ++ enc m = enc n) (hm : m < 128) : u8s l ++ [.int .u8 (m : Int)] = u8s (enc n) := by
  rw [← enc_split_lt h hm, u8s_snoc, ofNat_lo hm]
theorem u8s_more (m : Nat) (l : List UInt8) : u8s l ++ [.int .u8 ((m : Int) % 128 + 128)] = u8s (l ++ [UInt8.ofNat (m % 128 + 128)]) := by
  rw [u8s_snoc, ofNat_hi]; simp

/-- What an append to a row of the call's own leaves below the call's own blocks. -/
theorem below_append {w wr w1 : World} {n0 e size k : Nat} {v : Value} {xs : List Value} {tmp : Obj} (hb : Below n0 w wr) (hn : n0 ≤ wr.heap.size) (hrow : wr.ownsRow n0 e size v k xs) (hgrow : (wr.alloc tmp).grownBy w1 v.ownBlock) : Below n0 w w1 := by
  refine hb.trans (((Below.refl n0 wr).alloc hn tmp).grown hgrow (by simp; omega) fun j ej => ?_)
  rcases hrow.2 with ⟨rfl, _⟩ | ⟨g, cap, cur, rfl, hb, _, _⟩
  · simp [Value.ownBlock] at ej
  · obtain rfl : g = j := by simpa [Value.ownBlock] using ej
    exact hb

/-- A text as bytes. -/
def txt (s : ByteArray) : ByteArray := ⟨(enc s.size).toArray⟩ ++ s
/-- What reading a signed number tells. -/
def rdS (s : ByteArray) (a : Int) : Int × Int × Int := (unzz (rdN s a).1, (rdN s a).2)
/-- What reading a text tells. -/
def rdT (s : ByteArray) (a : Int) : ByteArray × Int × Int :=
  if (rdN s a).2.2 ≠ 0 then (⟨#[]⟩, 0, (rdN s a).2.2)
  else if (s.size : Int) - (rdN s a).2.1 < (rdN s a).1 then (⟨#[]⟩, 0, 11)
  else (s.extract (rdN s a).2.1.toNat ((rdN s a).2.1.toNat + (rdN s a).1), (rdN s a).2.1 + (rdN s a).1, 0)

theorem or_byte (m : Nat) : bits .or .u8 ((m : Int) % 256) 128 = (((UInt8.ofNat (m % 128 + 128)).toNat : Nat) : Int) := by
  rw [ofNat_hi]
  have h1 : (BitVec.ofInt 8 ((m : Int) % 256)).toNat = m % 256 := by
    rw [show ((m : Int) % 256) = ((m % 256 : Nat) : Int) by omega, BitVec.ofInt_natCast, BitVec.toNat_ofNat]; omega
  show IntKind.u8.wrap ((BitVec.ofInt 8 ((m : Int) % 256) ||| BitVec.ofInt 8 128).toNat : Int) = _
  rw [BitVec.toNat_or, h1, show (BitVec.ofInt 8 128).toNat = 128 by decide, IntKind.wrap_u8]
  have h2 : m % 256 ||| 128 = m % 128 + 128 := by
    have h3 : ∀ x : Fin 256, x.val ||| 128 = x.val % 128 + 128 := by decide +kernel
    have := h3 ⟨m % 256, Nat.mod_lt _ (by omega)⟩
    simp only at this
    omega
  rw [h2]; omega

theorem xor_ones (x : Nat) (hx : x < 18446744073709551616) : 18446744073709551615 ^^^ x = 18446744073709551615 - x := by
  apply Nat.eq_of_testBit_eq
  intro i
  rw [Nat.testBit_xor]
  have h1 : (18446744073709551615 - x).testBit i = (decide (i < 64) && !x.testBit i) := by
    have := Nat.testBit_two_pow_sub_succ (n := 64) (x := x) (by omega) i
    rwa [show 2 ^ 64 - (x + 1) = 18446744073709551615 - x by omega] at this
  have h2 : (18446744073709551615 : Nat).testBit i = decide (i < 64) := Nat.testBit_two_pow_sub_one 64 i
  rw [h1, h2]
  by_cases hi : i < 64
  · simp [hi]
  · have : x.testBit i = false := Nat.testBit_lt_two_pow (Nat.lt_of_lt_of_le hx (by rw [show (18446744073709551616 : Nat) = 2 ^ 64 by decide]; exact Nat.pow_le_pow_right (by omega) (by omega)))
    simp [hi, this]

theorem signed_neg {x : Int} (h1 : -9223372036854775808 ≤ x) (hx : x < 0) :
    bits .xor .u64 (if IntKind.u64.signed = true then -1 else IntKind.u64.max) (IntKind.u64.wrap (IntKind.u64.wrap x * 2)) = ((zz x : Nat) : Int) := by
  obtain ⟨m, hm⟩ : ∃ m : Nat, IntKind.u64.wrap (IntKind.u64.wrap x * 2) = m := ⟨(IntKind.u64.wrap (IntKind.u64.wrap x * 2)).toNat, by rw [IntKind.wrap_u64, IntKind.wrap_u64]; omega⟩
  have hm2 : (m : Int) = (x % 18446744073709551616 * 2) % 18446744073709551616 := by rw [← hm, IntKind.wrap_u64, IntKind.wrap_u64]
  rw [hm, show (if IntKind.u64.signed = true then -1 else IntKind.u64.max) = ((18446744073709551615 : Nat) : Int) by decide, bits_xor_u64_nat _ _ (by omega) (by omega), xor_ones _ (by omega)]
  unfold zz
  rw [if_pos hx]
  omega

theorem and_one64 (n : Nat) (hn : n < 18446744073709551616) : bits .and .u64 (n : Int) 1 = ((n % 2 : Nat) : Int) := by
  rw [show (1 : Int) = ((1 : Nat) : Int) by rfl, bits_and_u64_nat _ _ hn (by omega), Nat.and_one_is_mod]

theorem not64 (y : Nat) (hy : y < 9223372036854775808) : bits .xor .i64 (-1) (y : Int) = -(y : Int) - 1 := by
  have h1 : (BitVec.ofInt 64 (y : Int)).toNat = y := by
    rw [BitVec.ofInt_natCast, BitVec.toNat_ofNat]; exact Nat.mod_eq_of_lt (by omega)
  show IntKind.i64.wrap ((BitVec.ofInt 64 (-1) ^^^ BitVec.ofInt 64 (y : Int)).toNat : Int) = _
  rw [BitVec.toNat_xor, h1, show (BitVec.ofInt 64 (-1)).toNat = 18446744073709551615 by decide, xor_ones _ (by omega), IntKind.wrap_i64]
  omega

end Go.Proofs.Ytcfmpmcdfllibaa
