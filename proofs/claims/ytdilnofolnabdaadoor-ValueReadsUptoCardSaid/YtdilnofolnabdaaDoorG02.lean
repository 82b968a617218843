/-
  Plain mathematics for layer 8 (text): letters, digits, percent coding, base 64, UTF-8, as functions on lists of bytes.
-/
import Derived.WalkKit
import Derived.Test.YtdilnofolnabdaaDoorG01
namespace Go.Proofs.YtdilnofolnabdaaDoor
open Go.RowKit

theorem bsize (b : ByteArray) : b.size = b.data.toList.length := Array.length_toList.symm
theorem mk_toList (b : ByteArray) : (⟨b.data.toList.toArray⟩ : ByteArray) = b := by simp
theorem mk_inj {a b : List UInt8} (h : (⟨a.toArray⟩ : ByteArray) = ⟨b.toArray⟩) : a = b := by
  have := congrArg (fun x : ByteArray => x.data.toList) h
  simpa using this
theorem of_mk {s : ByteArray} {l : List UInt8} (h : s.data.toList = l) : s = ⟨l.toArray⟩ := by subst h; simp

/-- A small letter for a great one. -/
def lowN (n : Nat) : Nat := if 65 ≤ n ∧ n ≤ 90 then n + 32 else n
theorem lowN_lt {n : Nat} (h : n < 256) : lowN n < 256 := by unfold lowN; split <;> omega
def lowC (c : UInt8) : UInt8 := UInt8.ofNat (lowN c.toNat)
theorem lowC_nat (c : UInt8) : (lowC c).toNat = lowN c.toNat := by
  have := lowN_lt c.toNat_lt
  unfold lowC
  rw [UInt8.toNat_ofNat']; omega
theorem lowN_low (n : Nat) : lowN (lowN n) = lowN n := by unfold lowN; split <;> (try split) <;> omega
theorem lowC_low (c : UInt8) : lowC (lowC c) = lowC c := by
  apply UInt8.toNat_inj.1
  rw [lowC_nat, lowC_nat, lowN_low]
def lowL (l : List UInt8) : List UInt8 := l.map lowC
theorem lowL_low (l : List UInt8) : lowL (lowL l) = lowL l := by
  unfold lowL
  rw [List.map_map]
  exact List.map_congr_left fun c _ => lowC_low c
theorem lowL_append (a b : List UInt8) : lowL (a ++ b) = lowL a ++ lowL b := by simp [lowL]
theorem lowL_length (a : List UInt8) : (lowL a).length = a.length := by simp [lowL]

/-- One of 0 to 9. -/
def digN (n : Nat) : Bool := decide (48 ≤ n) && decide (n ≤ 57)
/-- A letter. -/
def letN (n : Nat) : Bool := (decide (97 ≤ n) && decide (n ≤ 122)) || (decide (65 ≤ n) && decide (n ≤ 90))
/-- What stands in a path as it is. -/
def keepN (n : Nat) : Bool := digN n || letN n || n == 45 || n == 46 || n == 95 || n == 126 || n == 47
/-- What a digit of base 16 means; below 0: it is none. -/
def hexN (n : Nat) : Int := if 48 ≤ n ∧ n ≤ 57 then (n : Int) - 48 else if 65 ≤ n ∧ n ≤ 70 then (n : Int) - 55 else if 97 ≤ n ∧ n ≤ 102 then (n : Int) - 87 else -1
/-- A digit of base 16, as its letter. -/
def hexL (n : Nat) : Nat := if n < 10 then n + 48 else n + 55

/-- Percent coding. -/
def pct : List UInt8 → List UInt8
  | [] => []
  | c :: l => (if keepN c.toNat then [c] else [37, UInt8.ofNat (hexL (c.toNat / 16)), UInt8.ofNat (hexL (c.toNat % 16))]) ++ pct l
theorem pct_length (l : List UInt8) : (pct l).length ≤ 3 * l.length := by
  induction l with
  | nil => simp [pct]
  | cons c l ih =>
    simp only [pct, List.length_append, List.length_cons]
    split <;> simp <;> omega
theorem pct_append (a b : List UInt8) : pct (a ++ b) = pct a ++ pct b := by
  induction a with
  | nil => simp [pct]
  | cons c a ih => simp only [List.cons_append, pct, ih, List.append_assoc]
/-- Taken back: what has come, and what is left; none: a % that no two digits follow. -/
def unp : List UInt8 → Option (List UInt8)
  | [] => some []
  | c :: l => if c.toNat = 37 then
      match l with
      | x :: y :: r => if hexN x.toNat < 0 ∨ hexN y.toNat < 0 then none else (unp r).map (UInt8.ofNat (hexN x.toNat * 16 + hexN y.toNat).toNat :: ·)
      | _ => none
    else (unp l).map (c :: ·)
theorem unp_other {c : UInt8} (hc : c.toNat ≠ 37) (l : List UInt8) : unp (c :: l) = (unp l).map (c :: ·) := by
  rw [unp.eq_def]
  dsimp only
  rw [if_neg hc]
theorem unp_short {c : UInt8} (hc : c.toNat = 37) (l : List UInt8) (hl : l.length < 2) : unp (c :: l) = none := by
  rw [unp.eq_def]
  dsimp only
  rw [if_pos hc]
  match l, hl with
  | [], _ => rfl
  | [x], _ => rfl
theorem unp_bad {c x y : UInt8} (hc : c.toNat = 37) (r : List UInt8) (h : hexN x.toNat < 0 ∨ hexN y.toNat < 0) : unp (c :: x :: y :: r) = none := by
  rw [unp.eq_def]
  dsimp only
  rw [if_pos hc, if_pos h]
theorem unp_hex {c x y : UInt8} (hc : c.toNat = 37) (r : List UInt8) (h : ¬ (hexN x.toNat < 0 ∨ hexN y.toNat < 0)) : unp (c :: x :: y :: r) = (unp r).map (UInt8.ofNat (hexN x.toNat * 16 + hexN y.toNat).toNat :: ·) := by
  rw [unp.eq_def]
  dsimp only
  rw [if_pos hc, if_neg h]
theorem unp_length (n : Nat) : ∀ (l r : List UInt8), l.length ≤ n → unp l = some r → r.length ≤ l.length := by
  induction n with
  | zero => intro l r hl h; cases l with
    | nil => simp [unp] at h; subst h; simp
    | cons c l => simp at hl
  | succ n ih =>
    intro l r hl h
    cases l with
    | nil => simp [unp] at h; subst h; simp
    | cons c l =>
      simp only [List.length_cons] at hl
      by_cases hc : c.toNat = 37
      · match l, hl, h with
        | [], _, h => rw [unp_short hc _ (by simp)] at h; cases h
        | [x], _, h => rw [unp_short hc _ (by simp)] at h; cases h
        | x :: y :: l, hl, h =>
          by_cases hx : hexN x.toNat < 0 ∨ hexN y.toNat < 0
          · rw [unp_bad hc _ hx] at h; cases h
          · rw [unp_hex hc _ hx, Option.map_eq_some_iff] at h
            obtain ⟨q, hq, rfl⟩ := h
            simp only [List.length_cons] at hl
            have := ih l q (by omega) hq
            simp; omega
      · rw [unp_other hc, Option.map_eq_some_iff] at h
        obtain ⟨q, hq, rfl⟩ := h
        have := ih l q (by omega) hq
        simp; omega

/-- A number of decimal digits; none: another byte. -/
def numL : List UInt8 → Nat → Option Nat
  | [], n => some n
  | c :: l, n => if digN c.toNat then numL l (n * 10 + (c.toNat - 48)) else none
def numV (l : List UInt8) (most : Int) : Int × Bool :=
  if l = [] ∨ 18 < l.length then (0, false) else
  match numL l 0 with
  | some n => if most < n then (0, false) else (n, true)
  | none => (0, false)

end Go.Proofs.YtdilnofolnabdaaDoor

/-
  Plain mathematics for layer 10 (date): numbers with noughts ahead, days and times as bytes, and what is read of them.
-/
namespace Go.Proofs.YtdilnofolnabdaaDoor
open Go.RowKit

def digC (n : Nat) : UInt8 := UInt8.ofNat (48 + n % 10)
theorem digC_nat (n : Nat) : (digC n).toNat = 48 + n % 10 := by
  unfold digC
  rw [UInt8.toNat_ofNat']; omega
/-- A number with noughts ahead, so many digits. -/
def padT : Nat → Nat → List UInt8
  | 0, _ => []
  | k + 1, n => padT k (n / 10) ++ [digC n]
theorem padT_length : ∀ k n, (padT k n).length = k
  | 0, _ => rfl
  | k + 1, n => by rw [padT, List.length_append, padT_length k]; rfl
theorem padT_cons : ∀ k n, padT (k + 1) n = digC (n / 10 ^ k) :: padT k n
  | 0, n => by simp [padT]
  | k + 1, n => by
    rw [padT, padT_cons k (n / 10), padT, Nat.div_div_eq_div_mul, Nat.pow_succ, Nat.mul_comm 10]
    rfl
theorem padT_app (j : Nat) : ∀ k a b, b < 10 ^ k → padT (j + k) (a * 10 ^ k + b) = padT j a ++ padT k b
  | 0, a, b, h => by
    have : b = 0 := by simpa using h
    subst this; simp [padT]
  | k + 1, a, b, h => by
    have hb : b / 10 < 10 ^ k := by rw [Nat.pow_succ] at h; omega
    have e : (a * 10 ^ (k + 1) + b) / 10 = a * 10 ^ k + b / 10 := by
      rw [Nat.pow_succ, ← Nat.mul_assoc, Nat.add_comm, Nat.add_mul_div_right _ _ (by omega), Nat.add_comm]
    have e2 : digC (a * 10 ^ (k + 1) + b) = digC b := by
      unfold digC
      have : (a * 10 ^ (k + 1) + b) % 10 = b % 10 := by rw [Nat.pow_succ, ← Nat.mul_assoc, Nat.add_comm, Nat.add_mul_mod_self_right]
      rw [this]
    show padT (j + k) _ ++ _ = _
    rw [e, e2, padT_app j k a (b / 10) hb, padT, List.append_assoc]
theorem digC_dig (n : Nat) : digN (digC n).toNat = true := by rw [digC_nat]; unfold digN; simp; omega
theorem numL_app : ∀ (a b : List UInt8) (n : Nat), numL (a ++ b) n = (numL a n).bind (numL b)
  | [], b, n => rfl
  | c :: a, b, n => by
    simp only [List.cons_append, numL]
    split
    · exact numL_app a b _
    · rfl
theorem numL_pad : ∀ k n, numL (padT k n) 0 = some (n % 10 ^ k)
  | 0, n => by simp [padT, numL, Nat.mod_one]
  | k + 1, n => by
    rw [padT, numL_app, numL_pad k (n / 10)]
    show numL [digC n] _ = _
    rw [numL, if_pos (digC_dig n), numL, digC_nat, Nat.pow_succ, Nat.mul_comm (10 ^ k) 10, Nat.mod_mul]
    congr 1; omega
theorem numL_snoc (a : List UInt8) (c : UInt8) (v : Nat) : numL (a ++ [c]) 0 = some v ↔ ∃ u, numL a 0 = some u ∧ digN c.toNat = true ∧ v = u * 10 + (c.toNat - 48) := by
  rw [numL_app]
  cases h : numL a 0 with
  | none => simp
  | some u =>
    simp only [Option.bind_some, numL]
    cases hd : digN c.toNat
    · simp
    · simp [eq_comm]
theorem digN_bound {n : Nat} (h : digN n = true) : 48 ≤ n ∧ n ≤ 57 := by simpa [digN] using h
/-- Digits are their number with noughts ahead. -/
theorem pad_numL : ∀ (k : Nat) (l : List UInt8) (v : Nat), l.length = k → numL l 0 = some v → l = padT k v ∧ v < 10 ^ k
  | 0, l, v, hl, h => by
    obtain rfl := List.eq_nil_of_length_eq_zero hl
    simp only [numL, Option.some.injEq] at h
    subst h; exact ⟨rfl, by decide⟩
  | k + 1, l, v, hl, h => by
    obtain ⟨a, c, rfl⟩ : ∃ a c, l = a ++ [c] := ⟨l.dropLast, l.getLast (by intro e; simp [e] at hl), (List.dropLast_concat_getLast _).symm⟩
    obtain ⟨u, hu, hc, rfl⟩ := (numL_snoc a c v).1 h
    obtain ⟨rfl, hb⟩ := pad_numL k a u (by simpa using hl) hu
    have hc := digN_bound hc
    refine ⟨?_, by rw [Nat.pow_succ]; omega⟩
    rw [padT, show (u * 10 + (c.toNat - 48)) / 10 = u by omega]
    congr 2
    apply UInt8.toNat_inj.1
    rw [digC_nat]; omega
theorem padT_inj {k a b : Nat} (ha : a < 10 ^ k) (hb : b < 10 ^ k) (h : padT k a = padT k b) : a = b := by
  have := congrArg (numL · 0) h
  simp only [numL_pad, Option.some.injEq] at this
  rwa [Nat.mod_eq_of_lt ha, Nat.mod_eq_of_lt hb] at this

/-- A day as bytes. -/
def dayT (n : Int) : List UInt8 := if (civV n).2.2.2 = true then padT 4 (civV n).1.toNat ++ padT 2 (civV n).2.1.toNat ++ padT 2 (civV n).2.2.1.toNat else []
/-- A time of the day as bytes. -/
def clkT (sep : List UInt8) (s : Nat) : List UInt8 := padT 2 (s / 3600) ++ sep ++ padT 2 (s / 60 % 60) ++ sep ++ padT 2 (s % 60)
def stampT (t : Int) : List UInt8 := if inD t = true then dayT (t / 86400) ++ [84] ++ clkT [] (t % 86400).toNat else []
def weekL : List UInt8 := [77, 111, 110, 84, 117, 101, 87, 101, 100, 84, 104, 117, 70, 114, 105, 83, 97, 116, 83, 117, 110]
def monthL : List UInt8 := [74, 97, 110, 70, 101, 98, 77, 97, 114, 65, 112, 114, 77, 97, 121, 74, 117, 110, 74, 117, 108, 65, 117, 103, 83, 101, 112, 79, 99, 116, 78, 111, 118, 68, 101, 99]
def wdT (w : Nat) : List UInt8 := (weekL.drop (3 * w)).take 3
def monT (m : Nat) : List UInt8 := (monthL.drop (3 * m - 3)).take 3
def httpT (t : Int) : List UInt8 :=
  if inD t = true then
    wdT (wdD (t / 86400)).toNat ++ [44, 32] ++ padT 2 (civV (t / 86400)).2.2.1.toNat ++ [32] ++ monT (civV (t / 86400)).2.1.toNat ++ [32] ++ padT 4 (civV (t / 86400)).1.toNat ++ [32] ++ clkT [58] (t % 86400).toNat ++ [32, 71, 77, 84]
  else []
theorem dayT_num {y m d : Int} (h : dateD y m d) : dayT (numD y m d) = padT 8 (y.toNat * 10000 + m.toNat * 100 + d.toNat) ∧ y.toNat < 10000 ∧ m.toNat < 100 ∧ d.toNat < 100 := by
  obtain ⟨hy, hm⟩ := lenD_range h
  have hp := lenD_pos hy hm
  unfold dateD at h
  unfold dayT
  rw [civ_num h]
  refine ⟨?_, by omega, by omega, by omega⟩
  simp only [if_true]
  have e1 := padT_app 4 2 y.toNat m.toNat (by omega)
  have e2 := padT_app 6 2 (y.toNat * 100 + m.toNat) d.toNat (by omega)
  rw [show (10 : Nat) ^ 2 = 100 by rfl] at e1 e2
  rw [← e1, show 4 + 2 = 6 by rfl, ← e2, show 6 + 2 = 8 by rfl]
  congr 1; omega
theorem dayT_length {n : Int} (h : -719162 ≤ n ∧ n ≤ 2932896) : (dayT n).length = 8 := by
  obtain ⟨y, m, d, hd, rfl⟩ := num_of h
  rw [(dayT_num hd).1, padT_length]
theorem dayT_bad {n : Int} (h : n < -719162 ∨ 2932896 < n) : dayT n = [] := by unfold dayT; rw [civ_bad h]; rfl
theorem dayT_inj {a b : Int} (ha : -719162 ≤ a ∧ a ≤ 2932896) (hb : -719162 ≤ b ∧ b ≤ 2932896) (h : dayT a = dayT b) : a = b := by
  obtain ⟨y, m, d, hd, rfl⟩ := num_of ha
  obtain ⟨y', m', d', hd', rfl⟩ := num_of hb
  obtain ⟨e, b1, b2, b3⟩ := dayT_num hd
  obtain ⟨e', c1, c2, c3⟩ := dayT_num hd'
  rw [e, e'] at h
  have := padT_inj (k := 8) (by omega) (by omega) h
  obtain ⟨hy, hm⟩ := lenD_range hd
  obtain ⟨hy', hm'⟩ := lenD_range hd'
  unfold dateD at hd hd'
  have e1 : y = y' := by omega
  have e2 : m = m' := by omega
  have e3 : d = d' := by omega
  rw [e1, e2, e3]
theorem clk_num {s : Nat} (_h : s < 86400) : clkT [] s = padT 6 (s / 3600 * 10000 + s / 60 % 60 * 100 + s % 60) := by
  have e1 := padT_app 2 2 (s / 3600) (s / 60 % 60) (by omega)
  have e2 := padT_app 4 2 (s / 3600 * 100 + s / 60 % 60) (s % 60) (by omega)
  rw [show (10 : Nat) ^ 2 = 100 by rfl] at e1 e2
  unfold clkT
  simp only [List.append_nil]
  rw [← e1, show 2 + 2 = 4 by rfl, ← e2, show 4 + 2 = 6 by rfl]
  congr 1; omega

open Classical in
/-- What is read: the only number that is written so; error 10, if none is. -/
noncomputable def readV (P : Int → Prop) : Int × Int := if h : ∃ n, P n then (h.choose, 0) else (0, 10)
theorem readV_is {P : Int → Prop} {n : Int} (h : P n) (hu : ∀ m, P m → m = n) : readV P = (n, 0) := by
  unfold readV
  have he : ∃ n, P n := ⟨n, h⟩
  rw [dif_pos he, hu _ he.choose_spec]
theorem readV_no {P : Int → Prop} (h : ∀ n, ¬ P n) : readV P = (0, 10) := by
  unfold readV
  rw [dif_neg (fun ⟨n, hn⟩ => h n hn)]
def isDay (s : List UInt8) (n : Int) : Prop := (-719162 ≤ n ∧ n ≤ 2932896) ∧ dayT n = s
def isStamp (s : List UInt8) (t : Int) : Prop := inD t = true ∧ stampT t = s
def isHttp (s : List UInt8) (t : Int) : Prop := inD t = true ∧ httpT t = s
noncomputable def rdDay (s : List UInt8) : Int × Int := readV (isDay s)
noncomputable def rdStamp (s : List UInt8) : Int × Int := readV (isStamp s)
noncomputable def rdHttp (s : List UInt8) : Int × Int := readV (isHttp s)
theorem rdDay_back {n : Int} (h : -719162 ≤ n ∧ n ≤ 2932896) : rdDay (dayT n) = (n, 0) :=
  readV_is ⟨h, rfl⟩ fun _ hm => dayT_inj hm.1 h hm.2
/-- What eight bytes are as a day. -/
theorem rdDay_len {s : List UInt8} (h : s.length ≠ 8) : rdDay s = (0, 10) :=
  readV_no fun n hn => h (by rw [← hn.2, dayT_length hn.1])
theorem rdDay_num {s : List UInt8} {v : Nat} (hl : s.length = 8) (hv : numL s 0 = some v) :
    rdDay s = (if (daysV (v / 10000 : Nat) (v / 100 % 100 : Nat) (v % 100 : Nat)).2 = true then ((daysV (v / 10000 : Nat) (v / 100 % 100 : Nat) (v % 100 : Nat)).1, 0) else (0, 10)) := by
  obtain ⟨rfl, hb⟩ := pad_numL 8 s v hl hv
  by_cases hd : dateD (v / 10000 : Nat) (v / 100 % 100 : Nat) (v % 100 : Nat)
  · rw [daysV_ok hd, if_pos rfl]
    obtain ⟨e, _⟩ := dayT_num hd
    have e2 : dayT (numD (v / 10000 : Nat) (v / 100 % 100 : Nat) (v % 100 : Nat)) = padT 8 v := by
      rw [e]; congr 1; omega
    have r := numD_range hd
    rw [← e2]
    exact rdDay_back ⟨by omega, by omega⟩
  · rw [daysV_bad hd, if_neg (by decide)]
    refine readV_no fun n hn => hd ?_
    obtain ⟨hr, he⟩ := hn
    obtain ⟨y, m, d, hd', rfl⟩ := num_of hr
    obtain ⟨e', c1, c2, c3⟩ := dayT_num hd'
    rw [e'] at he
    have := padT_inj (k := 8) (by omega) hb he
    obtain ⟨hy', hm'⟩ := lenD_range hd'
    have h' := hd'
    unfold dateD at h'
    rw [show ((v / 10000 : Nat) : Int) = y by omega, show ((v / 100 % 100 : Nat) : Int) = m by omega, show ((v % 100 : Nat) : Int) = d by omega]
    exact hd'
theorem rdDay_none {s : List UInt8} (hv : numL s 0 = none) : rdDay s = (0, 10) :=
  readV_no fun n hn => by
    obtain ⟨hr, he⟩ := hn
    obtain ⟨y, m, d, hd', rfl⟩ := num_of hr
    rw [← he, (dayT_num hd').1, numL_pad] at hv
    cases hv

end Go.Proofs.YtdilnofolnabdaaDoor

/-
  Plain mathematics for layer 10 (date): what bytes are as a stamp, and as HTTP writes a time.
-/
namespace Go.Proofs.YtdilnofolnabdaaDoor
open Go.RowKit

theorem isDay_uniq {s : List UInt8} {a b : Int} (ha : isDay s a) (hb : isDay s b) : a = b := dayT_inj ha.1 hb.1 (ha.2.trans hb.2.symm)
theorem rdDay_is {s : List UInt8} {n : Int} (h : isDay s n) : rdDay s = (n, 0) := readV_is h fun _ hm => isDay_uniq hm h
theorem rdDay_cases (s : List UInt8) : (∃ n, isDay s n ∧ rdDay s = (n, 0)) ∨ ((∀ n, ¬ isDay s n) ∧ rdDay s = (0, 10)) := by
  by_cases h : ∃ n, isDay s n
  · obtain ⟨n, hn⟩ := h
    exact .inl ⟨n, hn, rdDay_is hn⟩
  · exact .inr ⟨fun n hn => h ⟨n, hn⟩, readV_no fun n hn => h ⟨n, hn⟩⟩
theorem inD_of_day {t : Int} : inD t = true ↔ -719162 ≤ t / 86400 ∧ t / 86400 ≤ 2932896 := by rw [inD_iff]; omega
theorem clkT_length (s : Nat) : (clkT [] s).length = 6 := by simp [clkT, padT_length]
/-- The seconds of a clock; below 0: there is no such time. -/
def clkV (h m s : Int) : Int := if 23 < h ∨ 59 < m ∨ 59 < s then -1 else h * 3600 + m * 60 + s
theorem isStamp_iff (s : List UInt8) (t : Int) : isStamp s t ↔ s.length = 15 ∧ s[8]? = some 84 ∧ isDay (s.take 8) (t / 86400) ∧ s.drop 9 = clkT [] (t % 86400).toNat := by
  constructor
  · rintro ⟨h, rfl⟩
    have hd := inD_of_day.1 h
    have hl := dayT_length hd
    unfold stampT
    rw [h, if_pos rfl]
    refine ⟨?_, ?_, ⟨hd, ?_⟩, ?_⟩
    · simp [hl, clkT_length]
    · rw [List.append_assoc, List.getElem?_append_right (by omega), hl]; rfl
    · rw [List.append_assoc, List.take_append_of_le_length (by omega), List.take_of_length_le (by omega)]
    · rw [List.append_assoc, List.drop_append, List.drop_eq_nil_of_le (by omega), hl]; rfl
  · rintro ⟨hl, h8, hd, hc⟩
    have hin := inD_of_day.2 hd.1
    refine ⟨hin, ?_⟩
    unfold stampT
    rw [hin, if_pos rfl, hd.2, ← hc]
    have e : s = s.take 8 ++ s.drop 8 := (List.take_append_drop 8 s).symm
    have e2 : s.drop 8 = 84 :: s.drop 9 := by
      rw [List.drop_eq_getElem_cons (by omega)]
      rw [List.getElem?_eq_getElem (by omega)] at h8
      rw [Option.some.inj h8]
    rw [List.append_assoc, List.singleton_append, ← e2, ← e]
theorem isStamp_uniq {s : List UInt8} {a b : Int} (ha : isStamp s a) (hb : isStamp s b) : a = b := by
  obtain ⟨_, _, h3, h4⟩ := (isStamp_iff s a).1 ha
  obtain ⟨_, _, g3, g4⟩ := (isStamp_iff s b).1 hb
  have e := isDay_uniq h3 g3
  rw [h4, clk_num (by omega), clk_num (by omega)] at g4
  have := padT_inj (k := 6) (by omega) (by omega) g4
  omega
theorem rdStamp_is {s : List UInt8} {n : Int} (h : isStamp s n) : rdStamp s = (n, 0) := readV_is h fun _ hm => isStamp_uniq hm h
theorem rdStamp_no {s : List UInt8} (h : ∀ n, ¬ isStamp s n) : rdStamp s = (0, 10) := readV_no h
theorem rdStamp_back {t : Int} (h : inD t = true) : rdStamp (stampT t) = (t, 0) := rdStamp_is ⟨h, rfl⟩
theorem rdStamp_len {s : List UInt8} (h : s.length ≠ 15) : rdStamp s = (0, 10) := rdStamp_no fun n hn => h ((isStamp_iff s n).1 hn).1
theorem rdStamp_t {s : List UInt8} (h : s[8]? ≠ some 84) : rdStamp s = (0, 10) := rdStamp_no fun n hn => h ((isStamp_iff s n).1 hn).2.1
theorem rdStamp_day {s : List UInt8} (h : ∀ n, ¬ isDay (s.take 8) n) : rdStamp s = (0, 10) := rdStamp_no fun n hn => h _ ((isStamp_iff s n).1 hn).2.2.1
theorem rdStamp_num {s : List UInt8} (h : numL (s.drop 9) 0 = none) : rdStamp s = (0, 10) := rdStamp_no fun n hn => by
  rw [((isStamp_iff s n).1 hn).2.2.2, clk_num (by omega), numL_pad] at h
  cases h
theorem rdStamp_clk {s : List UInt8} {v : Nat} (hl : s.length = 15) (h : numL (s.drop 9) 0 = some v) (hc : clkV (v / 10000 : Nat) (v / 100 % 100 : Nat) (v % 100 : Nat) < 0) : rdStamp s = (0, 10) := rdStamp_no fun n hn => by
  obtain ⟨e, hb⟩ := pad_numL 6 _ v (by rw [List.length_drop]; omega) h
  have e2 := ((isStamp_iff s n).1 hn).2.2.2
  rw [e, clk_num (by omega)] at e2
  have := padT_inj (k := 6) hb (by omega) e2
  unfold clkV at hc
  split at hc <;> omega
theorem rdStamp_all {s : List UInt8} {v : Nat} {n : Int} (hl : s.length = 15) (h8 : s[8]? = some 84) (hd : isDay (s.take 8) n) (h : numL (s.drop 9) 0 = some v) (hc : ¬ clkV (v / 10000 : Nat) (v / 100 % 100 : Nat) (v % 100 : Nat) < 0) :
    rdStamp s = (n * 86400 + clkV (v / 10000 : Nat) (v / 100 % 100 : Nat) (v % 100 : Nat), 0) := by
  obtain ⟨e, hb⟩ := pad_numL 6 _ v (by rw [List.length_drop]; omega) h
  have hcv : clkV (v / 10000 : Nat) (v / 100 % 100 : Nat) (v % 100 : Nat) = (v / 10000 : Nat) * 3600 + (v / 100 % 100 : Nat) * 60 + (v % 100 : Nat) ∧ (v / 10000 ≤ 23 ∧ v / 100 % 100 ≤ 59 ∧ v % 100 ≤ 59) := by
    unfold clkV at hc ⊢
    split at hc
    · omega
    · rename_i hx
      rw [if_neg hx]
      exact ⟨rfl, by omega⟩
  rw [hcv.1]
  have hb2 := hcv.2
  apply rdStamp_is
  rw [isStamp_iff]
  have d1 : (n * 86400 + ((v / 10000 : Nat) * 3600 + (v / 100 % 100 : Nat) * 60 + (v % 100 : Nat))) / 86400 = n := by omega
  have d2 : ((n * 86400 + ((v / 10000 : Nat) * 3600 + (v / 100 % 100 : Nat) * 60 + (v % 100 : Nat))) % 86400).toNat = v / 10000 * 3600 + v / 100 % 100 * 60 + v % 100 := by omega
  refine ⟨hl, h8, by rw [d1]; exact hd, ?_⟩
  rw [e, d2, clk_num (by omega)]
  congr 1; omega

end Go.Proofs.YtdilnofolnabdaaDoor
