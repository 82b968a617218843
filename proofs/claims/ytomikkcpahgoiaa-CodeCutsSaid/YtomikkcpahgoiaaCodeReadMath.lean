/-
  Plain mathematics of the program's own way to read a number: the groups that are or-ed together are the sum that the document's way adds, for every text of any bytes and every place in it.
-/
import Derived.Test.YtomikkcpahgoiaaCodeMath
namespace Go.Proofs.Ytomikkcpahgoiaa
open Go.RowKit

/-- The byte at place a + i. -/
def byteAt (s : ByteArray) (a i : Nat) : UInt8 := if h : a + i < s.size then s[a + i] else 0
theorem byteAt_in {s : ByteArray} {a i : Nat} (h : a + i < s.size) : byteAt s a i = s[a + i] := by rw [byteAt, dif_pos h]

/-- The first k. -/
def upto (s : ByteArray) (k : Nat) : List (Fin s.size) := (List.finRange s.size).take k
theorem upto_succ (s : ByteArray) (k : Nat) (h : k < s.size) : upto s (k + 1) = upto s k ++ [⟨k, h⟩] := by
  unfold upto
  rw [List.take_succ_eq_append_getElem (by simpa using h)]; simp
theorem upto_length (s : ByteArray) (k : Nat) (h : k ≤ s.size) : (upto s k).length = k := by simp [upto]; omega

/-- The groups so far, as the program adds them. -/
def accI (s : ByteArray) (a : Nat) (pre : List (Fin s.size)) : Int :=
  pre.foldl (fun A i => bits .or .u64 A (IntKind.u64.wrap (bits .andNot .u8 ((byteAt s a i.val).toNat : Int) 128 * 2 ^ (min (7 * i.val) 64)))) 0
def badAt (s : ByteArray) (a i : Nat) : Prop := i = 9 ∧ 1 < (byteAt s a i).toNat ∨ 0 < i ∧ (byteAt s a i).toNat = 0
def goesAt (s : ByteArray) (a i : Nat) : Prop := ¬ badAt s a i ∧ ¬ (byteAt s a i).toNat < 128
def leftAt (s : ByteArray) (a : Nat) (pre : List (Fin s.size)) (endv ev : Int) : Prop :=
  ∃ pre0 i, pre = pre0 ++ [i] ∧ (∀ j ∈ pre0, goesAt s a j.val) ∧ (badAt s a i.val ∧ endv = 0 ∧ ev = 10 ∨ ¬ badAt s a i.val ∧ (byteAt s a i.val).toNat < 128 ∧ endv = (a : Int) + i.val + 1 ∧ ev = 0)


theorem mem_upto {s : ByteArray} : ∀ (k : Nat), k ≤ s.size → ∀ (i : Nat) (h : i < s.size), i < k → (⟨i, h⟩ : Fin s.size) ∈ upto s k
  | 0, _, _, _, hi => by omega
  | k + 1, hk, i, h, hi => by
    rw [upto_succ s k (by omega)]
    rcases Nat.lt_or_ge i k with h1 | h1
    · exact List.mem_append_left _ (mem_upto k (by omega) i h h1)
    · obtain rfl : i = k := by omega
      simp

theorem andNot_byte (c : UInt8) : bits .andNot .u8 (c.toNat : Int) 128 = ((c.toNat % 128 : Nat) : Int) := by
  have h3 : ∀ x : Fin 256, bits .andNot .u8 (x.val : Int) 128 = ((x.val % 128 : Nat) : Int) := by decide +kernel
  exact h3 ⟨c.toNat, c.toNat_lt⟩

theorem or_group {k acc c : Nat} (hk : k ≤ 9) (hacc : acc < 2 ^ (7 * k)) (hb : acc + (c % 128) * 2 ^ (7 * k) < 18446744073709551616) :
    bits .or .u64 (acc : Int) (IntKind.u64.wrap (((c % 128 : Nat) : Int) * 2 ^ (min (7 * k) 64))) = ((acc + (c % 128) * 2 ^ (7 * k) : Nat) : Int) := by
  rw [show min (7 * k) 64 = 7 * k by omega]
  have e : (((c % 128 : Nat) : Int) * 2 ^ (7 * k)) = (((c % 128) * 2 ^ (7 * k) : Nat) : Int) := by push_cast; rfl
  have h1 : (c % 128) * 2 ^ (7 * k) < 18446744073709551616 := by omega
  have h2 : acc < 18446744073709551616 := by omega
  have h3 : acc ||| (c % 128) * 2 ^ (7 * k) = acc + (c % 128) * 2 ^ (7 * k) := by
    have := Nat.two_pow_add_eq_or_of_lt hacc (c % 128)
    rw [Nat.or_comm, Nat.mul_comm (c % 128), ← this, Nat.add_comm]
  rw [e, IntWalk.u64_in _ ⟨by omega, by omega⟩, bits_or_u64_nat _ _ h2 h1, h3]

theorem accI_snoc (s : ByteArray) (a : Nat) (pre : List (Fin s.size)) (i : Fin s.size) :
    accI s a (pre ++ [i]) = bits .or .u64 (accI s a pre) (IntKind.u64.wrap ((((byteAt s a i.val).toNat % 128 : Nat) : Int) * 2 ^ (min (7 * i.val) 64))) := by
  rw [← andNot_byte]; simp [accI]

theorem run_to (s : ByteArray) (a : Nat) : ∀ (j : Nat), a + j ≤ s.size → (∀ i, i < j → goesAt s a i) →
    j ≤ 9 ∧ ∃ acc : Nat, acc < 2 ^ (7 * j) ∧ accI s a (upto s j) = acc ∧ dec (s.data.toList.drop (a + j)) j acc = dec (s.data.toList.drop a) 0 0
  | 0, _, _ => ⟨by omega, 0, by simp, by simp [accI, upto], rfl⟩
  | j + 1, hj, hg => by
    obtain ⟨h9, acc, hacc, hI, hd⟩ := run_to s a j (by omega) (fun i hi => hg i (by omega))
    have hlt : a + j < s.size := by omega
    obtain ⟨hb, hc⟩ := hg j (by omega)
    unfold badAt at hb
    rw [byteAt_in hlt] at hb hc
    have h8 : j ≤ 8 := by omega
    obtain ⟨g1, g2⟩ := group_add (c := s[a + j].toNat) h8 hacc
    refine ⟨by omega, acc + (s[a + j].toNat % 128) * 2 ^ (7 * j), g1, ?_, ?_⟩
    · rw [upto_succ s j (by omega), accI_snoc, hI]
      dsimp only
      rw [byteAt_in hlt]
      exact or_group h9 hacc g2
    · have := rd_go hd hlt (by omega) hc
      rw [show s[a + j].toNat % 128 = s[a + j].toNat - 128 by have := s[a + j].toNat_lt; omega]
      exact this

theorem end_short {s : ByteArray} {a : Nat} (ha : a ≤ s.size) (hg : ∀ i ∈ upto s (s.size - a), goesAt s a i.val) : rdN s a = (0, 0, 11) := by
  obtain ⟨_, acc, _, _, hd⟩ := run_to s a (s.size - a) (by omega) (fun i hi => hg ⟨i, by omega⟩ (mem_upto _ (by omega) i (by omega) hi))
  exact rd_short ha hd (by omega)

theorem split_upto {s : ByteArray} {k : Nat} {pre0 : List (Fin s.size)} {i : Fin s.size} (hk : k ≤ s.size) (h : upto s k = pre0 ++ [i]) : k = i.val + 1 ∧ pre0 = upto s i.val := by
  cases k with
  | zero => have := congrArg List.length h; simp [upto] at this
  | succ j =>
    rw [upto_succ s j (by omega)] at h
    obtain ⟨h1, h2⟩ := List.append_inj' h rfl
    have : (⟨j, by omega⟩ : Fin s.size) = i := by simpa using h2
    subst this
    exact ⟨rfl, h1.symm⟩

theorem end_left {s : ByteArray} {a k : Nat} {pre0 : List (Fin s.size)} {i : Fin s.size} (ha : a ≤ s.size) (hk : k ≤ s.size - a) (h : upto s k = pre0 ++ [i]) (hg : ∀ j ∈ pre0, goesAt s a j.val) :
    (badAt s a i.val → rdN s a = (0, 0, 10)) ∧ (¬ badAt s a i.val → (byteAt s a i.val).toNat < 128 → ∃ n : Nat, accI s a (upto s k) = n ∧ rdN s a = (n, (a : Int) + i.val + 1, 0)) := by
  obtain ⟨rfl, rfl⟩ := split_upto (by omega) h
  have hlt : a + i.val < s.size := by omega
  obtain ⟨h9, acc, hacc, hI, hd⟩ := run_to s a i.val (by omega) (fun j hj => hg ⟨j, by omega⟩ (mem_upto _ (by omega) j (by omega) hj))
  unfold badAt
  rw [byteAt_in hlt]
  constructor
  · intro hb
    exact rd_form ha hd hlt hb
  · intro hb hc
    refine ⟨acc + s[a + i.val].toNat * 2 ^ (7 * i.val), ?_, rd_ok ha hd hlt (by omega) (by omega) hc⟩
    have hm : s[a + i.val].toNat % 128 = s[a + i.val].toNat := Nat.mod_eq_of_lt hc
    have g2 : acc + (s[a + i.val].toNat % 128) * 2 ^ (7 * i.val) < 18446744073709551616 := by
      rcases Nat.lt_or_ge 8 i.val with h8 | h8
      · have e9 : i.val = 9 := by omega
        have h4 : (2 : Nat) ^ (7 * i.val) = 9223372036854775808 := by rw [e9]
        have hc2 : s[a + i.val].toNat % 128 ≤ 1 := by omega
        rw [h4] at hacc ⊢
        omega
      · exact (group_add h8 hacc).2
    rw [h, accI_snoc, byteAt_in hlt, hI, or_group h9 hacc g2, hm]

end Go.Proofs.Ytomikkcpahgoiaa
