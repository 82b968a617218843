/-
  Plain mathematics for layer 10 (date): numbers with noughts ahead, days and times as bytes, and what is read of them.
-/
import Derived.Test.YtnidkcedomhofaaGreatDoorG01
namespace Go.Proofs.YtnidkcedomhofaaGreatDoor
open Go.RowKit

def digC (n : Nat) : UInt8 := UInt8.ofNat (48 + n % 10)
theorem digC_nat (n : Nat) : (digC n).toNat = 48 + n % 10 := by
  unfold digC
  rw [UInt8.toNat_ofNat']; omega
/-- A number with noughts ahead, so many digits. -/
def padT : Nat → Nat → List UInt8
  | 0, _ => []
  | k + 1, n => padT k (n / 10) ++ [digC n]
theorem padT_length : ∀ k n, (padT k n).length = k
  | 0, _ => rfl
  | k + 1, n => by rw [padT, List.length_append, padT_length k]; rfl
theorem padT_cons : ∀ k n, padT (k + 1) n = digC (n / 10 ^ k) :: padT k n
  | 0, n => by simp [padT]
  | k + 1, n => by
    rw [padT, padT_cons k (n / 10), padT, Nat.div_div_eq_div_mul, Nat.pow_succ, Nat.mul_comm 10]
    rfl
theorem padT_app (j : Nat) : ∀ k a b, b < 10 ^ k → padT (j + k) (a * 10 ^ k + b) = padT j a ++ padT k b
  | 0, a, b, h => by
    have : b = 0 := by simpa using h
    subst this; simp [padT]
  | k + 1, a, b, h => by
    have hb : b / 10 < 10 ^ k := by rw [Nat.pow_succ] at h; omega
    have e : (a * 10 ^ (k + 1) + b) / 10 = a * 10 ^ k + b / 10 := by
      rw [Nat.pow_succ, ← Nat.mul_assoc, Nat.add_comm, Nat.add_mul_div_right _ _ (by omega), Nat.add_comm]
    have e2 : digC (a * 10 ^ (k + 1) + b) = digC b := by
      unfold digC
      have : (a * 10 ^ (k + 1) + b) % 10 = b % 10 := by rw [Nat.pow_succ, ← Nat.mul_assoc, Nat.add_comm, Nat.add_mul_mod_self_right]
      rw [this]
    show padT (j + k) _ ++ _ = _
    rw [e, e2, padT_app j k a (b / 10) hb, padT, List.append_assoc]
theorem digC_dig (n : Nat) : digN (digC n).toNat = true := by rw [digC_nat]; unfold digN; simp; omega
theorem numL_app : ∀ (a b : List UInt8) (n : Nat), numL (a ++ b) n = (numL a n).bind (numL b)
  | [], b, n => rfl
  | c :: a, b, n => by
    simp only [List.cons_append, numL]
    split
    · exact numL_app a b _
    · rfl
theorem numL_pad : ∀ k n, numL (padT k n) 0 = some (n % 10 ^ k)
  | 0, n => by simp [padT, numL, Nat.mod_one]
  | k + 1, n => by
    rw [padT, numL_app, numL_pad k (n / 10)]
    show numL [digC n] _ = _
    rw [numL, if_pos (digC_dig n), numL, digC_nat, Nat.pow_succ, Nat.mul_comm (10 ^ k) 10, Nat.mod_mul]
    congr 1; omega
theorem numL_snoc (a : List UInt8) (c : UInt8) (v : Nat) : numL (a ++ [c]) 0 = some v ↔ ∃ u, numL a 0 = some u ∧ digN c.toNat = true ∧ v = u * 10 + (c.toNat - 48) := by
  rw [numL_app]
  cases h : numL a 0 with
  | none => simp
  | some u =>
    simp only [Option.bind_some, numL]
    cases hd : digN c.toNat
    · simp
    · simp [eq_comm]
theorem digN_bound {n : Nat} (h : digN n = true) : 48 ≤ n ∧ n ≤ 57 := by simpa [digN] using h
/-- Digits are their number with noughts ahead. -/
theorem pad_numL : ∀ (k : Nat) (l : List UInt8) (v : Nat), l.length = k → numL l 0 = some v → l = padT k v ∧ v < 10 ^ k
  | 0, l, v, hl, h => by
    obtain rfl := List.eq_nil_of_length_eq_zero hl
    simp only [numL, Option.some.injEq] at h
    subst h; exact ⟨rfl, by decide⟩
  | k + 1, l, v, hl, h => by
    obtain ⟨a, c, rfl⟩ : ∃ a c, l = a ++ [c] := ⟨l.dropLast, l.getLast (by intro e; simp [e] at hl), (List.dropLast_concat_getLast _).symm⟩
    obtain ⟨u, hu, hc, rfl⟩ := (numL_snoc a c v).1 h
    obtain ⟨rfl, hb⟩ := pad_numL k a u (by simpa using hl) hu
    have hc := digN_bound hc
    refine ⟨?_, by rw [Nat.pow_succ]; omega⟩
    rw [padT, show (u * 10 + (c.toNat - 48)) / 10 = u by omega]
    congr 2
    apply UInt8.toNat_inj.1
    rw [digC_nat]; omega
theorem padT_inj {k a b : Nat} (ha : a < 10 ^ k) (hb : b < 10 ^ k) (h : padT k a = padT k b) : a = b := by
  have := congrArg (numL · 0) h
  simp only [numL_pad, Option.some.injEq] at this
  rwa [Nat.mod_eq_of_lt ha, Nat.mod_eq_of_lt hb] at this

/-- A day as bytes. -/
def dayT (n : Int) : List UInt8 := if (civV n).2.2.2 = true then padT 4 (civV n).1.toNat ++ padT 2 (civV n).2.1.toNat ++ padT 2 (civV n).2.2.1.toNat else []
/-- A time of the day as bytes. -/
def clkT (sep : List UInt8) (s : Nat) : List UInt8 := padT 2 (s / 3600) ++ sep ++ padT 2 (s / 60 % 60) ++ sep ++ padT 2 (s % 60)
def stampT (t : Int) : List UInt8 := if inD t = true then dayT (t / 86400) ++ [84] ++ clkT [] (t % 86400).toNat else []
def weekL : List UInt8 := [77, 111, 110, 84, 117, 101, 87, 101, 100, 84, 104, 117, 70, 114, 105, 83, 97, 116, 83, 117, 110]
def monthL : List UInt8 := [74, 97, 110, 70, 101, 98, 77, 97, 114, 65, 112, 114, 77, 97, 121, 74, 117, 110, 74, 117, 108, 65, 117, 103, 83, 101, 112, 79, 99, 116, 78, 111, 118, 68, 101, 99]
def wdT (w : Nat) : List UInt8 := (weekL.drop (3 * w)).take 3
def monT (m : Nat) : List UInt8 := (monthL.drop (3 * m - 3)).take 3
def httpT (t : Int) : List UInt8 :=
  if inD t = true then
    wdT (wdD (t / 86400)).toNat ++ [44, 32] ++ padT 2 (civV (t / 86400)).2.2.1.toNat ++ [32] ++ monT (civV (t / 86400)).2.1.toNat ++ [32] ++ padT 4 (civV (t / 86400)).1.toNat ++ [32] ++ clkT [58] (t % 86400).toNat ++ [32, 71, 77, 84]
  else []
theorem dayT_num {y m d : Int} (h : dateD y m d) : dayT (numD y m d) = padT 8 (y.toNat * 10000 + m.toNat * 100 + d.toNat) ∧ y.toNat < 10000 ∧ m.toNat < 100 ∧ d.toNat < 100 := by
  obtain ⟨hy, hm⟩ := lenD_range h
  have hp := lenD_pos hy hm
  unfold dateD at h
  unfold dayT
  rw [civ_num h]
  refine ⟨?_, by omega, by omega, by omega⟩
  simp only [if_true]
  have e1 := padT_app 4 2 y.toNat m.toNat (by omega)
  have e2 := padT_app 6 2 (y.toNat * 100 + m.toNat) d.toNat (by omega)
  rw [show (10 : Nat) ^ 2 = 100 by rfl] at e1 e2
  rw [← e1, show 4 + 2 = 6 by rfl, ← e2, show 6 + 2 = 8 by rfl]
  congr 1; omega
theorem dayT_length {n : Int} (h : -719162 ≤ n ∧ n ≤ 2932896) : (dayT n).length = 8 := by
  obtain ⟨y, m, d, hd, rfl⟩ := num_of h
  rw [(dayT_num hd).1, padT_length]
theorem dayT_bad {n : Int} (h : n < -719162 ∨ 2932896 < n) : dayT n = [] := by unfold dayT; rw [civ_bad h]; rfl
theorem dayT_inj {a b : Int} (ha : -719162 ≤ a ∧ a ≤ 2932896) (hb : -719162 ≤ b ∧ b ≤ 2932896) (h : dayT a = dayT b) : a = b := by
  obtain ⟨y, m, d, hd, rfl⟩ := num_of ha
  obtain ⟨y', m', d', hd', rfl⟩ := num_of hb
  obtain ⟨e, b1, b2, b3⟩ := dayT_num hd
  obtain ⟨e', c1, c2, c3⟩ := dayT_num hd'
  rw [e, e'] at h
  have := padT_inj (k := 8) (by omega) (by omega) h
  obtain ⟨hy, hm⟩ := lenD_range hd
  obtain ⟨hy', hm'⟩ := lenD_range hd'
  unfold dateD at hd hd'
  have e1 : y = y' := by omega
  have e2 : m = m' := by omega
  have e3 : d = d' := by omega
  rw [e1, e2, e3]
theorem clk_num {s : Nat} (_h : s < 86400) : clkT [] s = padT 6 (s / 3600 * 10000 + s / 60 % 60 * 100 + s % 60) := by
  have e1 := padT_app 2 2 (s / 3600) (s / 60 % 60) (by omega)
  have e2 := padT_app 4 2 (s / 3600 * 100 + s / 60 % 60) (s % 60) (by omega)
  rw [show (10 : Nat) ^ 2 = 100 by rfl] at e1 e2
  unfold clkT
  simp only [List.append_nil]
  rw [← e1, show 2 + 2 = 4 by rfl, ← e2, show 4 + 2 = 6 by rfl]
  congr 1; omega

open Classical in
/-- What is read: the only number that is written so; error 10, if none is. -/
noncomputable def readV (P : Int → Prop) : Int × Int := if h : ∃ n, P n then (h.choose, 0) else (0, 10)
theorem readV_is {P : Int → Prop} {n : Int} (h : P n) (hu : ∀ m, P m → m = n) : readV P = (n, 0) := by
  unfold readV
  have he : ∃ n, P n := ⟨n, h⟩
  rw [dif_pos he, hu _ he.choose_spec]
theorem readV_no {P : Int → Prop} (h : ∀ n, ¬ P n) : readV P = (0, 10) := by
  unfold readV
  rw [dif_neg (fun ⟨n, hn⟩ => h n hn)]
def isDay (s : List UInt8) (n : Int) : Prop := (-719162 ≤ n ∧ n ≤ 2932896) ∧ dayT n = s
def isStamp (s : List UInt8) (t : Int) : Prop := inD t = true ∧ stampT t = s
def isHttp (s : List UInt8) (t : Int) : Prop := inD t = true ∧ httpT t = s
noncomputable def rdDay (s : List UInt8) : Int × Int := readV (isDay s)
noncomputable def rdStamp (s : List UInt8) : Int × Int := readV (isStamp s)
noncomputable def rdHttp (s : List UInt8) : Int × Int := readV (isHttp s)
theorem rdDay_back {n : Int} (h : -719162 ≤ n ∧ n ≤ 2932896) : rdDay (dayT n) = (n, 0) :=
  readV_is ⟨h, rfl⟩ fun _ hm => dayT_inj hm.1 h hm.2
/-- What eight bytes are as a day. -/
theorem rdDay_len {s : List UInt8} (h : s.length ≠ 8) : rdDay s = (0, 10) :=
  readV_no fun n hn => h (by rw [← hn.2, dayT_length hn.1])
theorem rdDay_num {s : List UInt8} {v : Nat} (hl : s.length = 8) (hv : numL s 0 = some v) :
    rdDay s = (if (daysV (v / 10000 : Nat) (v / 100 % 100 : Nat) (v % 100 : Nat)).2 = true then ((daysV (v / 10000 : Nat) (v / 100 % 100 : Nat) (v % 100 : Nat)).1, 0) else (0, 10)) := by
  obtain ⟨rfl, hb⟩ := pad_numL 8 s v hl hv
  by_cases hd : dateD (v / 10000 : Nat) (v / 100 % 100 : Nat) (v % 100 : Nat)
  · rw [daysV_ok hd, if_pos rfl]
    obtain ⟨e, _⟩ := dayT_num hd
    have e2 : dayT (numD (v / 10000 : Nat) (v / 100 % 100 : Nat) (v % 100 : Nat)) = padT 8 v := by
      rw [e]; congr 1; omega
    have r := numD_range hd
    rw [← e2]
    exact rdDay_back ⟨by omega, by omega⟩
  · rw [daysV_bad hd, if_neg (by decide)]
    refine readV_no fun n hn => hd ?_
    obtain ⟨hr, he⟩ := hn
    obtain ⟨y, m, d, hd', rfl⟩ := num_of hr
    obtain ⟨e', c1, c2, c3⟩ := dayT_num hd'
    rw [e'] at he
    have := padT_inj (k := 8) (by omega) hb he
    obtain ⟨hy', hm'⟩ := lenD_range hd'
    have h' := hd'
    unfold dateD at h'
    rw [show ((v / 10000 : Nat) : Int) = y by omega, show ((v / 100 % 100 : Nat) : Int) = m by omega, show ((v % 100 : Nat) : Int) = d by omega]
    exact hd'
theorem rdDay_none {s : List UInt8} (hv : numL s 0 = none) : rdDay s = (0, 10) :=
  readV_no fun n hn => by
    obtain ⟨hr, he⟩ := hn
    obtain ⟨y, m, d, hd', rfl⟩ := num_of hr
    rw [← he, (dayT_num hd').1, numL_pad] at hv
    cases hv

end Go.Proofs.YtnidkcedomhofaaGreatDoor

/-
  Plain mathematics for layer 10 (date): what bytes are as a stamp, and as HTTP writes a time.
-/
namespace Go.Proofs.YtnidkcedomhofaaGreatDoor
open Go.RowKit

theorem isDay_uniq {s : List UInt8} {a b : Int} (ha : isDay s a) (hb : isDay s b) : a = b := dayT_inj ha.1 hb.1 (ha.2.trans hb.2.symm)
theorem rdDay_is {s : List UInt8} {n : Int} (h : isDay s n) : rdDay s = (n, 0) := readV_is h fun _ hm => isDay_uniq hm h
theorem rdDay_cases (s : List UInt8) : (∃ n, isDay s n ∧ rdDay s = (n, 0)) ∨ ((∀ n, ¬ isDay s n) ∧ rdDay s = (0, 10)) := by
  by_cases h : ∃ n, isDay s n
  · obtain ⟨n, hn⟩ := h
    exact .inl ⟨n, hn, rdDay_is hn⟩
  · exact .inr ⟨fun n hn => h ⟨n, hn⟩, readV_no fun n hn => h ⟨n, hn⟩⟩
theorem inD_of_day {t : Int} : inD t = true ↔ -719162 ≤ t / 86400 ∧ t / 86400 ≤ 2932896 := by rw [inD_iff]; omega
theorem clkT_length (s : Nat) : (clkT [] s).length = 6 := by simp [clkT, padT_length]
/-- The seconds of a clock; below 0: there is no such time. -/
def clkV (h m s : Int) : Int := if 23 < h ∨ 59 < m ∨ 59 < s then -1 else h * 3600 + m * 60 + s
theorem isStamp_iff (s : List UInt8) (t : Int) : isStamp s t ↔ s.length = 15 ∧ s[8]? = some 84 ∧ isDay (s.take 8) (t / 86400) ∧ s.drop 9 = clkT [] (t % 86400).toNat := by
  constructor
  · rintro ⟨h, rfl⟩
    have hd := inD_of_day.1 h
    have hl := dayT_length hd
    unfold stampT
    rw [h, if_pos rfl]
    refine ⟨?_, ?_, ⟨hd, ?_⟩, ?_⟩
    · simp [hl, clkT_length]
    · rw [List.append_assoc, List.getElem?_append_right (by omega), hl]; rfl
    · rw [List.append_assoc, List.take_append_of_le_length (by omega), List.take_of_length_le (by omega)]
    · rw [List.append_assoc, List.drop_append, List.drop_eq_nil_of_le (by omega), hl]; rfl
  · rintro ⟨hl, h8, hd, hc⟩
    have hin := inD_of_day.2 hd.1
    refine ⟨hin, ?_⟩
    unfold stampT
    rw [hin, if_pos rfl, hd.2, ← hc]
    have e : s = s.take 8 ++ s.drop 8 := (List.take_append_drop 8 s).symm
    have e2 : s.drop 8 = 84 :: s.drop 9 := by
      rw [List.drop_eq_getElem_cons (by omega)]
      rw [List.getElem?_eq_getElem (by omega)] at h8
      rw [Option.some.inj h8]
    rw [List.append_assoc, List.singleton_append, ← e2, ← e]
theorem isStamp_uniq {s : List UInt8} {a b : Int} (ha : isStamp s a) (hb : isStamp s b) : a = b := by
  obtain ⟨_, _, h3, h4⟩ := (isStamp_iff s a).1 ha
  obtain ⟨_, _, g3, g4⟩ := (isStamp_iff s b).1 hb
  have e := isDay_uniq h3 g3
  rw [h4, clk_num (by omega), clk_num (by omega)] at g4
  have := padT_inj (k := 6) (by omega) (by omega) g4
  omega
theorem rdStamp_is {s : List UInt8} {n : Int} (h : isStamp s n) : rdStamp s = (n, 0) := readV_is h fun _ hm => isStamp_uniq hm h
theorem rdStamp_no {s : List UInt8} (h : ∀ n, ¬ isStamp s n) : rdStamp s = (0, 10) := readV_no h
theorem rdStamp_back {t : Int} (h : inD t = true) : rdStamp (stampT t) = (t, 0) := rdStamp_is ⟨h, rfl⟩
theorem rdStamp_len {s : List UInt8} (h : s.length ≠ 15) : rdStamp s = (0, 10) := rdStamp_no fun n hn => h ((isStamp_iff s n).1 hn).1
theorem rdStamp_t {s : List UInt8} (h : s[8]? ≠ some 84) : rdStamp s = (0, 10) := rdStamp_no fun n hn => h ((isStamp_iff s n).1 hn).2.1
theorem rdStamp_day {s : List UInt8} (h : ∀ n, ¬ isDay (s.take 8) n) : rdStamp s = (0, 10) := rdStamp_no fun n hn => h _ ((isStamp_iff s n).1 hn).2.2.1
theorem rdStamp_num {s : List UInt8} (h : numL (s.drop 9) 0 = none) : rdStamp s = (0, 10) := rdStamp_no fun n hn => by
  rw [((isStamp_iff s n).1 hn).2.2.2, clk_num (by omega), numL_pad] at h
  cases h
theorem rdStamp_clk {s : List UInt8} {v : Nat} (hl : s.length = 15) (h : numL (s.drop 9) 0 = some v) (hc : clkV (v / 10000 : Nat) (v / 100 % 100 : Nat) (v % 100 : Nat) < 0) : rdStamp s = (0, 10) := rdStamp_no fun n hn => by
  obtain ⟨e, hb⟩ := pad_numL 6 _ v (by rw [List.length_drop]; omega) h
  have e2 := ((isStamp_iff s n).1 hn).2.2.2
  rw [e, clk_num (by omega)] at e2
  have := padT_inj (k := 6) hb (by omega) e2
  unfold clkV at hc
  split at hc <;> omega
theorem rdStamp_all {s : List UInt8} {v : Nat} {n : Int} (hl : s.length = 15) (h8 : s[8]? = some 84) (hd : isDay (s.take 8) n) (h : numL (s.drop 9) 0 = some v) (hc : ¬ clkV (v / 10000 : Nat) (v / 100 % 100 : Nat) (v % 100 : Nat) < 0) :
    rdStamp s = (n * 86400 + clkV (v / 10000 : Nat) (v / 100 % 100 : Nat) (v % 100 : Nat), 0) := by
  obtain ⟨e, hb⟩ := pad_numL 6 _ v (by rw [List.length_drop]; omega) h
  have hcv : clkV (v / 10000 : Nat) (v / 100 % 100 : Nat) (v % 100 : Nat) = (v / 10000 : Nat) * 3600 + (v / 100 % 100 : Nat) * 60 + (v % 100 : Nat) ∧ (v / 10000 ≤ 23 ∧ v / 100 % 100 ≤ 59 ∧ v % 100 ≤ 59) := by
    unfold clkV at hc ⊢
    split at hc
    · omega
    · rename_i hx
      rw [if_neg hx]
      exact ⟨rfl, by omega⟩
  rw [hcv.1]
  have hb2 := hcv.2
  apply rdStamp_is
  rw [isStamp_iff]
  have d1 : (n * 86400 + ((v / 10000 : Nat) * 3600 + (v / 100 % 100 : Nat) * 60 + (v % 100 : Nat))) / 86400 = n := by omega
  have d2 : ((n * 86400 + ((v / 10000 : Nat) * 3600 + (v / 100 % 100 : Nat) * 60 + (v % 100 : Nat))) % 86400).toNat = v / 10000 * 3600 + v / 100 % 100 * 60 + v % 100 := by omega
  refine ⟨hl, h8, by rw [d1]; exact hd, ?_⟩
  rw [e, d2, clk_num (by omega)]
  congr 1; omega

end Go.Proofs.YtnidkcedomhofaaGreatDoor

/-
  Plain mathematics for layer 10 (date): what bytes are as HTTP writes a time.
-/
namespace Go.Proofs.YtnidkcedomhofaaGreatDoor
open Go.RowKit

theorem wd_three {V : Nat} (h : V ≤ 6) : ∃ a b c, wdT V = [a, b, c] := by
  have : V = 0 ∨ V = 1 ∨ V = 2 ∨ V = 3 ∨ V = 4 ∨ V = 5 ∨ V = 6 := by omega
  rcases this with rfl | rfl | rfl | rfl | rfl | rfl | rfl <;> exact ⟨_, _, _, rfl⟩
theorem mon_three {M : Nat} (h : 1 ≤ M ∧ M ≤ 12) : ∃ a b c, monT M = [a, b, c] := by
  have : M = 1 ∨ M = 2 ∨ M = 3 ∨ M = 4 ∨ M = 5 ∨ M = 6 ∨ M = 7 ∨ M = 8 ∨ M = 9 ∨ M = 10 ∨ M = 11 ∨ M = 12 := by omega
  rcases this with rfl | rfl | rfl | rfl | rfl | rfl | rfl | rfl | rfl | rfl | rfl | rfl <;> exact ⟨_, _, _, rfl⟩
/-- The month of a name, of the first k. -/
def monUp (x : List UInt8) : Nat → Nat
  | 0 => 0
  | k + 1 => if x = monT (k + 1) then k + 1 else monUp x k
theorem monUp_le (x : List UInt8) : ∀ k, monUp x k ≤ k
  | 0 => Nat.le_refl _
  | k + 1 => by
    unfold monUp
    split
    · exact Nat.le_refl _
    · exact Nat.le_succ_of_le (monUp_le x k)
theorem monUp_is {M : Nat} (h : 1 ≤ M ∧ M ≤ 12) : monUp (monT M) 12 = M := by
  have : M = 1 ∨ M = 2 ∨ M = 3 ∨ M = 4 ∨ M = 5 ∨ M = 6 ∨ M = 7 ∨ M = 8 ∨ M = 9 ∨ M = 10 ∨ M = 11 ∨ M = 12 := by omega
  rcases this with rfl | rfl | rfl | rfl | rfl | rfl | rfl | rfl | rfl | rfl | rfl | rfl <;> decide +kernel
def cutL (l : List UInt8) (a b : Nat) : List UInt8 := (l.drop a).take (b - a)
theorem pad_some {k n : Nat} {most : Int} (hk : 1 ≤ k ∧ k ≤ 18) (h : n < 10 ^ k) (hm : (n : Int) ≤ most) : numV (padT k n) most = ((n : Int), true) := by
  have hx : ¬ (padT k n = [] ∨ 18 < (padT k n).length) := by
    intro hx
    rw [padT_length] at hx
    cases hx with
    | inl e => have := congrArg List.length e; rw [padT_length] at this; simp at this; omega
    | inr e => omega
  unfold numV
  rw [if_neg hx, numL_pad, Nat.mod_eq_of_lt h]
  show (if most < (n : Int) then ((0 : Int), false) else ((n : Int), true)) = _
  rw [if_neg (by omega)]
theorem clkV_of {S : Nat} (h : S < 86400) : clkV (S / 3600 : Nat) (S / 60 % 60 : Nat) (S % 60 : Nat) = S := by
  unfold clkV
  rw [if_neg (by omega)]; omega
/-- What the bytes say of a time, if they are one's. -/
theorem http_parts {l : List UInt8} {t : Int} (h : isHttp l t) : l.length = 29 ∧ (numV (cutL l 5 7) 99).2 = true ∧ (numV (cutL l 12 16) 9999).2 = true ∧ (numV (cutL l 17 19) 99).2 = true ∧ (numV (cutL l 20 22) 99).2 = true ∧ (numV (cutL l 23 25) 99).2 = true ∧
    0 ≤ clkV (numV (cutL l 17 19) 99).1 (numV (cutL l 20 22) 99).1 (numV (cutL l 23 25) 99).1 ∧
    (daysV (numV (cutL l 12 16) 9999).1 (monUp (cutL l 8 11) 12) (numV (cutL l 5 7) 99).1).2 = true ∧
    t = (daysV (numV (cutL l 12 16) 9999).1 (monUp (cutL l 8 11) 12) (numV (cutL l 5 7) 99).1).1 * 86400 + clkV (numV (cutL l 17 19) 99).1 (numV (cutL l 20 22) 99).1 (numV (cutL l 23 25) 99).1 := by
  obtain ⟨hin, rfl⟩ := h
  have hd := inD_day hin
  obtain ⟨y, m, d, hdt, hnum⟩ := num_of hd
  obtain ⟨hy, hm⟩ := lenD_range hdt
  have hp := lenD_pos hy hm
  have ec := civ_num hdt
  rw [← hnum] at ec
  have hdt' := hdt
  unfold dateD at hdt'
  have hw := wdD_range (t / 86400)
  obtain ⟨a1, a2, a3, ea⟩ := wd_three (V := (wdD (t / 86400)).toNat) (by omega)
  obtain ⟨b1, b2, b3, eb⟩ := mon_three (M := m.toNat) (by omega)
  have e : httpT t = [a1, a2, a3, 44, 32, digC (d.toNat / 10), digC d.toNat, 32, b1, b2, b3, 32, digC (y.toNat / 10 / 10 / 10), digC (y.toNat / 10 / 10), digC (y.toNat / 10), digC y.toNat, 32,
      digC ((t % 86400).toNat / 3600 / 10), digC ((t % 86400).toNat / 3600), 58, digC ((t % 86400).toNat / 60 % 60 / 10), digC ((t % 86400).toNat / 60 % 60), 58, digC ((t % 86400).toNat % 60 / 10), digC ((t % 86400).toNat % 60), 32, 71, 77, 84] := by
    unfold httpT
    rw [hin, if_pos rfl, ec, ea]
    dsimp only
    rw [eb]
    rfl
  have hS : (t % 86400).toNat < 86400 := by omega
  have hS2 : t = t / 86400 * 86400 + (t % 86400).toNat := by omega
  generalize (t % 86400).toNat = S at *
  have p1 : cutL (httpT t) 5 7 = padT 2 d.toNat := by rw [e]; rfl
  have p2 : cutL (httpT t) 8 11 = monT m.toNat := by rw [e, eb]; rfl
  have p3 : cutL (httpT t) 12 16 = padT 4 y.toNat := by rw [e]; rfl
  have p4 : cutL (httpT t) 17 19 = padT 2 (S / 3600) := by rw [e]; rfl
  have p5 : cutL (httpT t) 20 22 = padT 2 (S / 60 % 60) := by rw [e]; rfl
  have p6 : cutL (httpT t) 23 25 = padT 2 (S % 60) := by rw [e]; rfl
  have q1 := pad_some (k := 2) (n := d.toNat) (most := 99) (by omega) (by omega) (by omega)
  have q3 := pad_some (k := 4) (n := y.toNat) (most := 9999) (by omega) (by omega) (by omega)
  have q4 := pad_some (k := 2) (n := S / 3600) (most := 99) (by omega) (by omega) (by omega)
  have q5 := pad_some (k := 2) (n := S / 60 % 60) (most := 99) (by omega) (by omega) (by omega)
  have q6 := pad_some (k := 2) (n := S % 60) (most := 99) (by omega) (by omega) (by omega)
  have hl : (httpT t).length = 29 := by rw [e]; rfl
  rw [p1, p2, p3, p4, p5, p6, q1, q3, q4, q5, q6, monUp_is (by omega)]
  dsimp only
  rw [clkV_of hS, show ((y.toNat : Nat) : Int) = y by omega, show ((m.toNat : Nat) : Int) = m by omega, show ((d.toNat : Nat) : Int) = d by omega, daysV_ok hdt, ← hnum]
  exact ⟨hl, rfl, rfl, rfl, rfl, rfl, by omega, rfl, hS2⟩
theorem isHttp_uniq {s : List UInt8} {a b : Int} (ha : isHttp s a) (hb : isHttp s b) : a = b := by
  rw [(http_parts ha).2.2.2.2.2.2.2.2, (http_parts hb).2.2.2.2.2.2.2.2]
theorem rdHttp_is {s : List UInt8} {n : Int} (h : isHttp s n) : rdHttp s = (n, 0) := readV_is h fun _ hm => isHttp_uniq hm h
theorem rdHttp_no {s : List UInt8} (h : ∀ n, ¬ isHttp s n) : rdHttp s = (0, 10) := readV_no h
theorem rdHttp_back {t : Int} (h : inD t = true) : rdHttp (httpT t) = (t, 0) := rdHttp_is ⟨h, rfl⟩
theorem rdHttp_len {s : List UInt8} (h : s.length ≠ 29) : rdHttp s = (0, 10) := rdHttp_no fun _ hn => h (http_parts hn).1
theorem httpT_out {t : Int} (h : inD t = false) : httpT t = [] := by unfold httpT; rw [h]; rfl
/-- Where all is read, it is the time, if that is written so. -/
theorem rdHttp_all {l : List UInt8} (_h1 : (numV (cutL l 5 7) 99).2 = true) (_h2 : (numV (cutL l 12 16) 9999).2 = true) (_h3 : (numV (cutL l 17 19) 99).2 = true) (_h4 : (numV (cutL l 20 22) 99).2 = true) (_h5 : (numV (cutL l 23 25) 99).2 = true)
    {t : Int} (ht : t = (daysV (numV (cutL l 12 16) 9999).1 (monUp (cutL l 8 11) 12) (numV (cutL l 5 7) 99).1).1 * 86400 + clkV (numV (cutL l 17 19) 99).1 (numV (cutL l 20 22) 99).1 (numV (cutL l 23 25) 99).1) (hl : l ≠ []) :
    rdHttp l = if httpT t = l then (t, 0) else (0, 10) := by
  by_cases h : httpT t = l
  · rw [if_pos h]
    cases hin : inD t
    · rw [httpT_out hin] at h
      exact absurd h.symm hl
    · exact rdHttp_is ⟨hin, h⟩
  · rw [if_neg h]
    refine rdHttp_no fun n hn => h ?_
    rw [ht, ← (http_parts hn).2.2.2.2.2.2.2.2]
    exact hn.2
theorem numV_range (l : List UInt8) (most : Int) (hm : 0 ≤ most) : 0 ≤ (numV l most).1 ∧ (numV l most).1 ≤ most := by
  unfold numV
  split
  · exact ⟨Int.le_refl _, hm⟩
  · split
    · rename_i n _
      split
      · exact ⟨Int.le_refl _, hm⟩
      · exact ⟨Int.natCast_nonneg n, by omega⟩
    · exact ⟨Int.le_refl _, hm⟩

end Go.Proofs.YtnidkcedomhofaaGreatDoor
