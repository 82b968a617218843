/-
  Plain mathematics for layer 10 (date): numbers with noughts ahead, days and times as bytes, and what is read of them.
-/
import Derived.Test.YtdilnofolnabdaaDoorDateMath
import Derived.Test.YtdilnofolnabdaaDoorTextMath
namespace Go.Proofs.YtdilnofolnabdaaDoor
open Go.RowKit

def digC (n : Nat) : UInt8 := UInt8.ofNat (48 + n % 10)
theorem digC_nat (n : Nat) : (digC n).toNat = 48 + n % 10 := by
  unfold digC
  rw [UInt8.toNat_ofNat']; omega
/-- A number with noughts ahead, so many digits. -/
def padT : Nat → Nat → List UInt8
  | 0, _ => []
  | k + 1, n => padT k (n / 10) ++ [digC n]
theorem padT_length : ∀ k n, (padT k n).length = k
  | 0, _ => rfl
  | k + 1, n => by rw [padT, List.length_append, padT_length k]; rfl
theorem padT_cons : ∀ k n, padT (k + 1) n = digC (n / 10 ^ k) :: padT k n
  | 0, n => by simp [padT]
  | k + 1, n => by
    rw [padT, padT_cons k (n / 10), padT, Nat.div_div_eq_div_mul, Nat.pow_succ, Nat.mul_comm 10]
    rfl
theorem padT_app (j : Nat) : ∀ k a b, b < 10 ^ k → padT (j + k) (a * 10 ^ k + b) = padT j a ++ padT k b
  | 0, a, b, h => by
    have : b = 0 := by simpa using h
    subst this; simp [padT]
  | k + 1, a, b, h => by
    have hb : b / 10 < 10 ^ k := by rw [Nat.pow_succ] at h; omega
    have e : (a * 10 ^ (k + 1) + b) / 10 = a * 10 ^ k + b / 10 := by
      rw [Nat.pow_succ, ← Nat.mul_assoc, Nat.add_comm, Nat.add_mul_div_right _ _ (by omega), Nat.add_comm]
    have e2 : digC (a * 10 ^ (k + 1) + b) = digC b := by
      unfold digC
      have : (a * 10 ^ (k + 1) + b) % 10 = b % 10 := by rw [Nat.pow_succ, ← Nat.mul_assoc, Nat.add_comm, Nat.add_mul_mod_self_right]
      rw [this]
    show padT (j + k) _ ++ _ = _
    rw [e, e2, padT_app j k a (b / 10) hb, padT, List.append_assoc]
theorem digC_dig (n : Nat) : digN (digC n).toNat = true := by rw [digC_nat]; unfold digN; simp; omega
theorem numL_app : ∀ (a b : List UInt8) (n : Nat), numL (a ++ b) n = (numL a n).bind (numL b)
  | [], b, n => rfl
  | c :: a, b, n => by
    simp only [List.cons_append, numL]
    split
    · exact numL_app a b _
    · rfl
theorem numL_pad : ∀ k n, numL (padT k n) 0 = some (n % 10 ^ k)
  | 0, n => by simp [padT, numL, Nat.mod_one]
  | k + 1, n => by
    rw [padT, numL_app, numL_pad k (n / 10)]
    show numL [digC n] _ = _
    rw [numL, if_pos (digC_dig n), numL, digC_nat, Nat.pow_succ, Nat.mul_comm (10 ^ k) 10, Nat.mod_mul]
    congr 1; omega
theorem numL_snoc (a : List UInt8) (c : UInt8) (v : Nat) : numL (a ++ [c]) 0 = some v ↔ ∃ u, numL a 0 = some u ∧ digN c.toNat = true ∧ v = u * 10 + (c.toNat - 48) := by
  rw [numL_app]
  cases h : numL a 0 with
  | none => simp
  | some u =>
    simp only [Option.bind_some, numL]
    cases hd : digN c.toNat
    · simp
    · simp [eq_comm]
theorem digN_bound {n : Nat} (h : digN n = true) : 48 ≤ n ∧ n ≤ 57 := by simpa [digN] using h
/-- Digits are their number with noughts ahead. -/
theorem pad_numL : ∀ (k : Nat) (l : List UInt8) (v : Nat), l.length = k → numL l 0 = some v → l = padT k v ∧ v < 10 ^ k
  | 0, l, v, hl, h => by
    obtain rfl := List.eq_nil_of_length_eq_zero hl
    simp only [numL, Option.some.injEq] at h
    subst h; exact ⟨rfl, by decide⟩
  | k + 1, l, v, hl, h => by
    obtain ⟨a, c, rfl⟩ : ∃ a c, l = a ++ [c] := ⟨l.dropLast, l.getLast (by intro e; simp [e] at hl), (List.dropLast_concat_getLast _).symm⟩
    obtain ⟨u, hu, hc, rfl⟩ := (numL_snoc a c v).1 h
    obtain ⟨rfl, hb⟩ := pad_numL k a u (by simpa using hl) hu
    have hc := digN_bound hc
    refine ⟨?_, by rw [Nat.pow_succ]; omega⟩
    rw [padT, show (u * 10 + (c.toNat - 48)) / 10 = u by omega]
    congr 2
    apply UInt8.toNat_inj.1
    rw [digC_nat]; omega
theorem padT_inj {k a b : Nat} (ha : a < 10 ^ k) (hb : b < 10 ^ k) (h : padT k a = padT k b) : a = b := by
  have := congrArg (numL · 0) h
  simp only [numL_pad, Option.some.injEq] at this
  rwa [Nat.mod_eq_of_lt ha, Nat.mod_eq_of_lt hb] at this

/-- A day as bytes. -/
def dayT (n : Int) : List UInt8 := if (civV n).2.2.2 = true then padT 4 (civV n).1.toNat ++ padT 2 (civV n).2.1.toNat ++ padT 2 (civV n).2.2.1.toNat else []
/-- A time of the day as bytes. -/
def clkT (sep : List UInt8) (s : Nat) : List UInt8 := padT 2 (s / 3600) ++ sep ++ padT 2 (s / 60 % 60) ++ sep ++ padT 2 (s % 60)
def stampT (t : Int) : List UInt8 := if inD t = true then dayT (t / 86400) ++ [84] ++ clkT [] (t % 86400).toNat else []
def weekL : List UInt8 := [77, 111, 110, 84, 117, 101, 87, 101, 100, 84, 104, 117, 70, 114, 105, 83, 97, 116, 83, 117, 110]
def monthL : List UInt8 := [74, 97, 110, 70, 101, 98, 77, 97, 114, 65, 112, 114, 77, 97, 121, 74, 117, 110, 74, 117, 108, 65, 117, 103, 83, 101, 112, 79, 99, 116, 78, 111, 118, 68, 101, 99]
def wdT (w : Nat) : List UInt8 := (weekL.drop (3 * w)).take 3
def monT (m : Nat) : List UInt8 := (monthL.drop (3 * m - 3)).take 3
def httpT (t : Int) : List UInt8 :=
  if inD t = true then
    wdT (wdD (t / 86400)).toNat ++ [44, 32] ++ padT 2 (civV (t / 86400)).2.2.1.toNat ++ [32] ++ monT (civV (t / 86400)).2.1.toNat ++ [32] ++ padT 4 (civV (t / 86400)).1.toNat ++ [32] ++ clkT [58] (t % 86400).toNat ++ [32, 71, 77, 84]
  else []
theorem dayT_num {y m d : Int} (h : dateD y m d) : dayT (numD y m d) = padT 8 (y.toNat * 10000 + m.toNat * 100 + d.toNat) ∧ y.toNat < 10000 ∧ m.toNat < 100 ∧ d.toNat < 100 := by
  obtain ⟨hy, hm⟩ := lenD_range h
  have hp := lenD_pos hy hm
  unfold dateD at h
  unfold dayT
  rw [civ_num h]
  refine ⟨?_, by omega, by omega, by omega⟩
  simp only [if_true]
  have e1 := padT_app 4 2 y.toNat m.toNat (by omega)
  have e2 := padT_app 6 2 (y.toNat * 100 + m.toNat) d.toNat (by omega)
  rw [show (10 : Nat) ^ 2 = 100 by rfl] at e1 e2
  rw [← e1, show 4 + 2 = 6 by rfl, ← e2, show 6 + 2 = 8 by rfl]
  congr 1; omega
theorem dayT_length {n : Int} (h : -719162 ≤ n ∧ n ≤ 2932896) : (dayT n).length = 8 := by
  obtain ⟨y, m, d, hd, rfl⟩ := num_of h
  rw [(dayT_num hd).1, padT_length]
theorem dayT_bad {n : Int} (h : n < -719162 ∨ 2932896 < n) : dayT n = [] := by unfold dayT; rw [civ_bad h]; rfl
theorem dayT_inj {a b : Int} (ha : -719162 ≤ a ∧ a ≤ 2932896) (hb : -719162 ≤ b ∧ b ≤ 2932896) (h : dayT a = dayT b) : a = b := by
  obtain ⟨y, m, d, hd, rfl⟩ := num_of ha
  obtain ⟨y', m', d', hd', rfl⟩ := num_of hb
  obtain ⟨e, b1, b2, b3⟩ := dayT_num hd
  obtain ⟨e', c1, c2, c3⟩ := dayT_num hd'
  rw [e, e'] at h
  have := padT_inj (k := 8) (by omega) (by omega) h
  obtain ⟨hy, hm⟩ := lenD_range hd
  obtain ⟨hy', hm'⟩ := lenD_range hd'
  unfold dateD at hd hd'
  have e1 : y = y' := by omega
  have e2 : m = m' := by omega
  have e3 : d = d' := by omega
  rw [e1, e2, e3]
theorem clk_num {s : Nat} (_h : s < 86400) : clkT [] s = padT 6 (s / 3600 * 10000 + s / 60 % 60 * 100 + s % 60) := by
  have e1 := padT_app 2 2 (s / 3600) (s / 60 % 60) (by omega)
  have e2 := padT_app 4 2 (s / 3600 * 100 + s / 60 % 60) (s % 60) (by omega)
  rw [show (10 : Nat) ^ 2 = 100 by rfl] at e1 e2
  unfold clkT
  simp only [List.append_nil]
  rw [← e1, show 2 + 2 = 4 by rfl, ← e2, show 4 + 2 = 6 by rfl]
  congr 1; omega

open Classical in
/-- What is read: the only number that is written so; error 10, if none is. -/
noncomputable def readV (P : Int → Prop) : Int × Int := if h : ∃ n, P n then (h.choose, 0) else (0, 10)
theorem readV_is {P : Int → Prop} {n : Int} (h : P n) (hu : ∀ m, P m → m = n) : readV P = (n, 0) := by
  unfold readV
  have he : ∃ n, P n := ⟨n, h⟩
  rw [dif_pos he, hu _ he.choose_spec]
theorem readV_no {P : Int → Prop} (h : ∀ n, ¬ P n) : readV P = (0, 10) := by
  unfold readV
  rw [dif_neg (fun ⟨n, hn⟩ => h n hn)]
def isDay (s : List UInt8) (n : Int) : Prop := (-719162 ≤ n ∧ n ≤ 2932896) ∧ dayT n = s
def isStamp (s : List UInt8) (t : Int) : Prop := inD t = true ∧ stampT t = s
def isHttp (s : List UInt8) (t : Int) : Prop := inD t = true ∧ httpT t = s
noncomputable def rdDay (s : List UInt8) : Int × Int := readV (isDay s)
noncomputable def rdStamp (s : List UInt8) : Int × Int := readV (isStamp s)
noncomputable def rdHttp (s : List UInt8) : Int × Int := readV (isHttp s)
theorem rdDay_back {n : Int} (h : -719162 ≤ n ∧ n ≤ 2932896) : rdDay (dayT n) = (n, 0) :=
  readV_is ⟨h, rfl⟩ fun _ hm => dayT_inj hm.1 h hm.2
/-- What eight bytes are as a day. -/
theorem rdDay_len {s : List UInt8} (h : s.length ≠ 8) : rdDay s = (0, 10) :=
  readV_no fun n hn => h (by rw [← hn.2, dayT_length hn.1])
theorem rdDay_num {s : List UInt8} {v : Nat} (hl : s.length = 8) (hv : numL s 0 = some v) :
    rdDay s = (if (daysV (v / 10000 : Nat) (v / 100 % 100 : Nat) (v % 100 : Nat)).2 = true then ((daysV (v / 10000 : Nat) (v / 100 % 100 : Nat) (v % 100 : Nat)).1, 0) else (0, 10)) := by
  obtain ⟨rfl, hb⟩ := pad_numL 8 s v hl hv
  by_cases hd : dateD (v / 10000 : Nat) (v / 100 % 100 : Nat) (v % 100 : Nat)
  · rw [daysV_ok hd, if_pos rfl]
    obtain ⟨e, _⟩ := dayT_num hd
    have e2 : dayT (numD (v / 10000 : Nat) (v / 100 % 100 : Nat) (v % 100 : Nat)) = padT 8 v := by
      rw [e]; congr 1; omega
    have r := numD_range hd
    rw [← e2]
    exact rdDay_back ⟨by omega, by omega⟩
  · rw [daysV_bad hd, if_neg (by decide)]
    refine readV_no fun n hn => hd ?_
    obtain ⟨hr, he⟩ := hn
    obtain ⟨y, m, d, hd', rfl⟩ := num_of hr
    obtain ⟨e', c1, c2, c3⟩ := dayT_num hd'
    rw [e'] at he
    have := padT_inj (k := 8) (by omega) hb he
    obtain ⟨hy', hm'⟩ := lenD_range hd'
    have h' := hd'
    unfold dateD at h'
    rw [show ((v / 10000 : Nat) : Int) = y by omega, show ((v / 100 % 100 : Nat) : Int) = m by omega, show ((v % 100 : Nat) : Int) = d by omega]
    exact hd'
theorem rdDay_none {s : List UInt8} (hv : numL s 0 = none) : rdDay s = (0, 10) :=
  readV_no fun n hn => by
    obtain ⟨hr, he⟩ := hn
    obtain ⟨y, m, d, hd', rfl⟩ := num_of hr
    rw [← he, (dayT_num hd').1, numL_pad] at hv
    cases hv

end Go.Proofs.YtdilnofolnabdaaDoor
