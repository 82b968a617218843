/-
  Plain mathematics of there and back: what was written is read as it was, whatever stands around it; cut off, it is too short.
-/
import Derived.Test.YtomikkcpahgoiaaCodeMath
namespace Go.Proofs.Ytomikkcpahgoiaa
open Go.RowKit

theorem wf_u64 {x : Int} (h : (Lit.int .u64 x).wf = true) : 0 ≤ x ∧ x < 18446744073709551616 := by
  have h1 : IntKind.u64.min = 0 := rfl
  have h2 : IntKind.u64.max = 18446744073709551615 := rfl
  simp only [Lit.wf, Bool.and_eq_true, decide_eq_true_eq] at h
  omega
theorem wf_i64 {x : Int} (h : (Lit.int .i64 x).wf = true) : -9223372036854775808 ≤ x ∧ x ≤ 9223372036854775807 := by
  have h1 : IntKind.i64.min = -9223372036854775808 := rfl
  have h2 : IntKind.i64.max = 9223372036854775807 := rfl
  simp only [Lit.wf, Bool.and_eq_true, decide_eq_true_eq] at h
  omega

theorem rdN_of {s : ByteArray} {a n : Nat} {rest : List UInt8} (ha : a ≤ s.size) (h : s.data.toList.drop a = enc n ++ rest) (hn : n < 18446744073709551616) :
    rdN s a = (n, (a : Int) + (enc n).length, 0) := by
  rw [rdN_in ha, h, dec_enc _ hn]

theorem rdS_of {s : ByteArray} {a : Nat} {x : Int} {rest : List UInt8} (ha : a ≤ s.size) (h : s.data.toList.drop a = enc (zz x) ++ rest) (h1 : -9223372036854775808 ≤ x) (h2 : x ≤ 9223372036854775807) :
    rdS s a = (x, (a : Int) + (enc (zz x)).length, 0) := by
  unfold rdS
  rw [rdN_of ha h (zz_lt h1 h2), unzz_zz]

theorem size_toList (s : ByteArray) : s.size = s.data.toList.length := by simp
theorem extract_toList (s : ByteArray) (i n : Nat) : (s.extract i (i + n)).data.toList = (s.data.toList.drop i).take n := by
  rw [ByteArray.data_extract, Array.toList_extract, List.extract_eq_take_drop]
  congr 1; omega
theorem ext_toList {a b : ByteArray} (h : a.data.toList = b.data.toList) : a = b := ByteArray.ext (Array.toList_inj.1 h)

theorem rdT_of {s t : ByteArray} {a : Nat} {rest : List UInt8} (ha : a ≤ s.size) (h : s.data.toList.drop a = enc t.size ++ (t.data.toList ++ rest)) (ht : t.size < 18446744073709551616) :
    rdT s a = (t, (a : Int) + (enc t.size).length + t.size, 0) := by
  have hl := congrArg List.length h
  simp only [List.length_drop, List.length_append, ← size_toList] at hl
  unfold rdT
  rw [rdN_of ha h ht]
  dsimp only
  rw [if_neg (by omega), if_neg (by omega)]
  rw [show ((a : Int) + (enc t.size).length).toNat = a + (enc t.size).length by omega]
  have : s.extract (a + (enc t.size).length) (a + (enc t.size).length + t.size) = t := by
    apply ext_toList
    rw [extract_toList, ← List.drop_drop, h, List.drop_left, size_toList t, List.take_left]
  rw [this]

/-- Cut off anywhere, a text is too short. -/
theorem rdT_cut {t : ByteArray} {j : Nat} (ht : t.size < 18446744073709551616) (hj : j < (txt t).size) : (rdT ((txt t).extract 0 j) 0).2.2 = 11 := by
  have hl : (txt t).data.toList = enc t.size ++ t.data.toList := by simp [txt]
  have hsz : (txt t).size = (enc t.size).length + t.size := by rw [size_toList, hl, List.length_append, ← size_toList]
  have hx : ((txt t).extract 0 j).data.toList = (enc t.size ++ t.data.toList).take j := by
    have := extract_toList (txt t) 0 j
    rwa [Nat.zero_add, List.drop_zero, hl] at this
  have hxs : ((txt t).extract 0 j).size = j := by
    rw [size_toList, hx, List.length_take, List.length_append, ← size_toList]; omega
  have h0 : ((0 : Nat) : Int) = 0 := rfl
  rcases Nat.lt_or_ge j (enc t.size).length with h | h
  · have hr : rdN ((txt t).extract 0 j) 0 = (0, 0, 11) := by
      rw [show rdN ((txt t).extract 0 j) 0 = rdN ((txt t).extract 0 j) ((0 : Nat) : Int) by rfl, rdN_in (Nat.zero_le _), List.drop_zero, hx, List.take_append_of_le_length (by omega), dec_cut ht h]
    unfold rdT
    rw [hr]
    rfl
  · have hr : rdN ((txt t).extract 0 j) 0 = (t.size, ((0 : Nat) : Int) + (enc t.size).length, 0) := by
      rw [← h0]
      refine rdN_of (rest := t.data.toList.take (j - (enc t.size).length)) (Nat.zero_le _) ?_ ht
      rw [List.drop_zero, hx, List.take_append, List.take_of_length_le h]
    unfold rdT
    rw [hr, hxs]
    dsimp only
    rw [if_neg (by omega), if_pos (by omega)]

/-- What is read, written, are the bytes. -/
theorem rdN_bytes {s : ByteArray} (h : (rdN s 0).2.2 = 0) : ∃ j : Nat, (rdN s 0).2.1 = j ∧ j ≤ s.size ∧ (⟨(enc (rdN s 0).1).toArray⟩ : ByteArray) = s.extract 0 j := by
  have h0 : ((0 : Nat) : Int) = 0 := rfl
  rw [← h0, rdN_in (Nat.zero_le _)] at h ⊢
  rw [List.drop_zero] at h ⊢
  cases hd : dec s.data.toList 0 0 with
  | short => rw [hd] at h; simp at h
  | form => rw [hd] at h; simp at h
  | ok n len =>
    obtain ⟨_, rfl, he, hle⟩ := dec_ok hd
    refine ⟨(enc n).length, by simp, by rw [size_toList]; exact hle, ?_⟩
    apply ext_toList
    have := extract_toList s 0 (enc n).length
    rw [Nat.zero_add, List.drop_zero] at this
    rw [this, ← he]

end Go.Proofs.Ytomikkcpahgoiaa
