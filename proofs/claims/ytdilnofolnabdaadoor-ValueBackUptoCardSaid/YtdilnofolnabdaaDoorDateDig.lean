/-
  The program's own functions of layer 10: numbers with noughts ahead, a day and a time as a text.
-/
import Derived.Lib.ItoaNum
import Derived.Test.YtdilnofolnabdaaDoorDateCiv
namespace Go.Proofs.YtdilnofolnabdaaDoor
open Go.RowKit

open Go.Sort in
theorem below_growD (B : Nat) (w : World) (hB : B ≤ w.heap.size) (k : Nat) (os : Array Obj) : Below B w (grow (w.drewN k) os) :=
  ⟨rfl, rfl, rfl, by simp [grow, World.drewN], fun b hb => by
    show (w.heap ++ os)[b]? = w.heap[b]?
    rw [Array.getElem?_append_left (by omega)]⟩
theorem rep_len : ∀ c, (Lib.repeatL [48] c) = List.replicate c 48
  | 0 => rfl
  | c + 1 => by rw [Lib.repeatL, rep_len c]; rfl
theorem padT_zero : ∀ k, padT k 0 = List.replicate k 48
  | 0 => rfl
  | k + 1 => by rw [padT, Nat.zero_div, padT_zero k, List.replicate_succ']; rfl
theorem digC_is (n : Nat) : digC n = UInt8.ofNat (48 + n % 10) := rfl
/-- A number with noughts ahead is noughts, and the number. -/
theorem pad_dec : ∀ k n, 1 ≤ k → n < 10 ^ k → (Lib.decDigits n).length ≤ k ∧ padT k n = List.replicate (k - (Lib.decDigits n).length) 48 ++ Lib.decDigits n
  | 0, n, h, _ => by omega
  | k + 1, n, _, hn => by
    by_cases h : n < 10
    · have e : Lib.decDigits n = [digC n] := by rw [Lib.decDigits, dif_pos h, digC_is, Nat.mod_eq_of_lt h]
      rw [e, padT, Nat.div_eq_of_lt h, padT_zero]
      exact ⟨by simp, rfl⟩
    · have e : Lib.decDigits n = Lib.decDigits (n / 10) ++ [digC n] := by rw [Lib.decDigits, dif_neg h, digC_is]
      have hk : 1 ≤ k := by
        rcases Nat.eq_zero_or_pos k with h0 | h0
        · subst h0; simp at hn; omega
        · exact h0
      obtain ⟨h1, h2⟩ := pad_dec k (n / 10) hk (by rw [Nat.pow_succ] at hn; omega)
      rw [e, padT, h2, List.length_append]
      exact ⟨by simpa using h1, by rw [List.append_assoc]; simp⟩

set_option maxRecDepth 100000 in
set_option maxHeartbeats 2000000 in
theorem digits_any (n k : Nat) (hk : 1 ≤ k ∧ k ≤ 4) (hn : n < 10 ^ k) (w : World) (hv : DV w) :
    Calls Tryd.prog 73 #[.int .i64 n, .int .i64 k] w fun e w' => e = .returned (.string ⟨(padT k n).toArray⟩) ∧ Below w.heap.size w w' := by
  have hn4 : n < 10 ^ 4 := Nat.lt_of_lt_of_le hn (Nat.pow_le_pow_right (by omega) hk.2)
  have hn5 : n < 10000 := by simpa using hn4
  obtain ⟨h1, h2⟩ := pad_dec k n hk.1 hn
  have c1 : Calls Tryd.prog 88 #[.int .i64 n] w fun e w' => e = .returned (.string ⟨(Lib.itoa n).toArray⟩) ∧ Below w.heap.size w w' := (Tryd.strconv_Itoa n (by omega) (by omega) w hv.tab).mono fun e w' ⟨he, k, os, hw⟩ => ⟨he, by rw [hw]; exact below_growD _ _ (Nat.le_refl _) _ _⟩
  have e0 : Lib.itoa (n : Int) = Lib.decDigits n := by unfold Lib.itoa; rw [if_neg (by omega)]; rfl
  rw [e0] at c1
  obtain ⟨c, hc⟩ : ∃ c, c = k - (Lib.decDigits n).length := ⟨_, rfl⟩
  have c2 := fun W => Tryd.strings_Repeat ⟨#[48]⟩ c W (by omega) (by rw [show (⟨#[48]⟩ : ByteArray).size = 1 from rfl]; omega)
  rw [show (⟨#[48]⟩ : ByteArray).data.toList = [48] from rfl, rep_len] at c2
  have HE := Lib.hid (show (⟨(List.replicate c 48).toArray⟩ : ByteArray) ++ ⟨(Lib.decDigits n).toArray⟩ = ⟨(padT k n).toArray⟩ by rw [mk_app, h2, hc])
  have s1 : ((⟨(Lib.decDigits n).toArray⟩ : ByteArray).size : Int) = (k : Int) - (c : Int) := by rw [mk_size]; omega
  have s2 : (⟨(List.replicate c 48).toArray⟩ : ByteArray).size = c := by rw [mk_size, List.length_replicate]
  have hck : c ≤ k := by omega
  clear h1 h2 hc e0 hn hn4
  generalize (⟨(Lib.decDigits n).toArray⟩ : ByteArray) = a at *
  generalize (⟨(List.replicate c 48).toArray⟩ : ByteArray) = b at *
  have s3 : (k : Int) - (a.size : Int) = (c : Int) := by omega
  have no : ¬ 9223372036854775807 < b.size + a.size := by omega
  clear s1
  go_enter Tryd.func73, Tryd.ntmps73
  go_wp2_with (first
    | (go_at_call 88; ((with_reducible refine c1.mono ?_); rintro e w1 ⟨rfl, hb1⟩))
    | (go_at_call 89; ((with_reducible refine (c2 _).mono ?_); rintro e w2 ⟨rfl, hb2⟩)))
  go_ret
  exact ⟨by rw [← HE.out]; rfl, bstep hb1 hb2⟩
theorem dig2_any (n : Nat) (hn : n < 100) (w : World) (hv : DV w) : Calls Tryd.prog 73 #[.int .i64 n, .int .i64 2] w fun e w' => e = .returned (.string ⟨(padT 2 n).toArray⟩) ∧ Below w.heap.size w w' :=
  digits_any n 2 (by omega) (by omega) w hv
theorem dig4_any (n : Nat) (hn : n < 10000) (w : World) (hv : DV w) : Calls Tryd.prog 73 #[.int .i64 n, .int .i64 4] w fun e w' => e = .returned (.string ⟨(padT 4 n).toArray⟩) ∧ Below w.heap.size w w' :=
  digits_any n 4 (by omega) (by omega) w hv

end Go.Proofs.YtdilnofolnabdaaDoor
