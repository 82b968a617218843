/-
  Plain mathematics for layer 10 (date): years, months, days and times of the Gregorian calendar, as functions on whole numbers.
-/
import Derived.WalkKit
namespace Go.Proofs.YtnidkcedomhofaaGreatDoor
open Go.RowKit

/-- A year of 366 days. -/
def leapD (y : Int) : Bool := (decide (y % 4 = 0) && !decide (y % 100 = 0)) || decide (y % 400 = 0)
/-- The days of a month. -/
def lenD (y m : Int) : Int :=
  if y < 1 ∨ 9999 < y ∨ m < 1 ∨ 12 < m then 0
  else if m = 2 then (if leapD y = true then 29 else 28)
  else if m = 4 ∨ m = 6 ∨ m = 9 ∨ m = 11 then 30 else 31
/-- The days ahead of a year, from year 1 on. -/
def aheadD (y : Int) : Int := (y - 1) * 365 + (y - 1) / 4 - (y - 1) / 100 + (y - 1) / 400
/-- The days ahead of a month in its year (l: whether it is a year of 366 days). -/
def monD (l : Bool) (m : Int) : Int :=
  let x : Int := if l = true then 1 else 0
  if m ≤ 1 then 0 else if m = 2 then 31 else if m = 3 then 59 + x else if m = 4 then 90 + x else if m = 5 then 120 + x else if m = 6 then 151 + x
  else if m = 7 then 181 + x else if m = 8 then 212 + x else if m = 9 then 243 + x else if m = 10 then 273 + x else if m = 11 then 304 + x else if m = 12 then 334 + x else 365 + x
theorem leapD_iff (y : Int) : leapD y = true ↔ (y % 4 = 0 ∧ y % 100 ≠ 0) ∨ y % 400 = 0 := by
  unfold leapD
  rw [Bool.or_eq_true, Bool.and_eq_true, Bool.not_eq_true', decide_eq_true_iff, decide_eq_true_iff, decide_eq_false_iff_not]
theorem aheadD_next (y : Int) : aheadD (y + 1) = aheadD y + monD (leapD y) 13 := by
  have h := leapD_iff y
  cases hl : leapD y
  · rw [hl] at h
    have h' : ¬ ((y % 4 = 0 ∧ y % 100 ≠ 0) ∨ y % 400 = 0) := fun x => by simpa using h.2 x
    simp [monD, aheadD]; omega
  · rw [hl] at h
    have h' := h.1 rfl
    simp [monD, aheadD]; omega
theorem aheadD_le {y z : Int} (h : y ≤ z) : aheadD y ≤ aheadD z := by unfold aheadD; omega
theorem aheadD_lt {y z : Int} (h : y < z) : aheadD y < aheadD z := by unfold aheadD; omega
theorem aheadD_one : aheadD 1 = 0 := rfl
theorem aheadD_end : aheadD 10000 = 3652059 := rfl
theorem monD_next {y m : Int} (hy : 1 ≤ y ∧ y ≤ 9999) (hm : 1 ≤ m ∧ m ≤ 12) : monD (leapD y) (m + 1) = monD (leapD y) m + lenD y m := by
  have : m = 1 ∨ m = 2 ∨ m = 3 ∨ m = 4 ∨ m = 5 ∨ m = 6 ∨ m = 7 ∨ m = 8 ∨ m = 9 ∨ m = 10 ∨ m = 11 ∨ m = 12 := by omega
  unfold lenD
  rw [if_neg (by omega)]
  rcases this with rfl | rfl | rfl | rfl | rfl | rfl | rfl | rfl | rfl | rfl | rfl | rfl <;> cases leapD y <;> rfl
theorem monD_one (l : Bool) : monD l 1 = 0 := rfl
theorem monD_nonneg (l : Bool) (m : Int) : 0 ≤ monD l m := by
  unfold monD
  cases l <;> dsimp only <;> repeat (first | omega | split)
theorem lenD_pos {y m : Int} (hy : 1 ≤ y ∧ y ≤ 9999) (hm : 1 ≤ m ∧ m ≤ 12) : 28 ≤ lenD y m ∧ lenD y m ≤ 31 := by
  unfold lenD
  rw [if_neg (by omega)]
  split <;> (try split) <;> omega
theorem lenD_range {y m d : Int} (h : 1 ≤ d ∧ d ≤ lenD y m) : (1 ≤ y ∧ y ≤ 9999) ∧ (1 ≤ m ∧ m ≤ 12) := by
  by_cases hx : y < 1 ∨ 9999 < y ∨ m < 1 ∨ 12 < m
  · have : lenD y m = 0 := by unfold lenD; rw [if_pos hx]
    omega
  · omega
theorem monD_le {y m k : Int} (hy : 1 ≤ y ∧ y ≤ 9999) (hm : 1 ≤ m) (hk : m < k) (hk2 : k ≤ 13) : monD (leapD y) m + lenD y m ≤ monD (leapD y) k := by
  obtain ⟨j, rfl⟩ : ∃ j : Nat, k = m + 1 + j := ⟨(k - (m + 1)).toNat, by omega⟩
  clear hk
  induction j with
  | zero => rw [show m + 1 + ((0 : Nat) : Int) = m + 1 by omega, monD_next hy (by omega)]; omega
  | succ j ih =>
    have e := monD_next (m := m + 1 + j) hy (by omega)
    have p := lenD_pos (m := m + 1 + j) hy (by omega)
    have := ih (by omega)
    rw [show m + 1 + ((j + 1 : Nat) : Int) = m + 1 + j + 1 by omega, e]; omega
/-- A date as there is one. -/
def dateD (y m d : Int) : Prop := 1 ≤ d ∧ d ≤ lenD y m
/-- The number of a date. -/
def numD (y m d : Int) : Int := -719162 + aheadD y + monD (leapD y) m + (d - 1)
/-- What Days tells. -/
def daysV (y m d : Int) : Int × Bool := if d < 1 ∨ lenD y m < d then (0, false) else (numD y m d, true)
theorem daysV_ok {y m d : Int} (h : dateD y m d) : daysV y m d = (numD y m d, true) := by
  unfold daysV dateD at *; rw [if_neg (by omega)]
theorem daysV_bad {y m d : Int} (h : ¬ dateD y m d) : daysV y m d = (0, false) := by
  unfold daysV dateD at *; rw [if_pos (by omega)]

/-- The greatest year up to k that begins by a day. -/
def yearF : Nat → Int → Nat
  | 0, _ => 0
  | k + 1, n => if -719162 + aheadD ((k : Int) + 1) ≤ n then k + 1 else yearF k n
def monthF : Nat → Bool → Int → Nat
  | 0, _, _ => 0
  | k + 1, l, n => if monD l ((k : Int) + 1) ≤ n then k + 1 else monthF k l n
def yearD (n : Int) : Int := yearF 9999 n
def restD (n : Int) : Int := n - (-719162 + aheadD (yearD n))
def monthD (n : Int) : Int := monthF 12 (leapD (yearD n)) (restD n)
/-- What Civil tells. -/
def civV (n : Int) : Int × Int × Int × Bool :=
  if n < -719162 ∨ 2932896 < n then (0, 0, 0, false)
  else (yearD n, monthD n, restD n - monD (leapD (yearD n)) (monthD n) + 1, true)
theorem yearF_is {n : Int} {y : Nat} (h1 : 1 ≤ y) (h : -719162 + aheadD y ≤ n) (h2 : n < -719162 + aheadD ((y : Int) + 1)) : ∀ k, y ≤ k → yearF k n = y
  | 0, hk => by omega
  | k + 1, hk => by
    unfold yearF
    by_cases e : y = k + 1
    · subst e; rw [if_pos (by simpa using h)]
    · rw [if_neg (by have := aheadD_le (y := (y : Int) + 1) (z := (k : Int) + 1) (by omega); omega), yearF_is h1 h h2 k (by omega)]
theorem monthF_is {n y : Int} {m : Nat} (hy : 1 ≤ y ∧ y ≤ 9999) (h1 : 1 ≤ m) (h : monD (leapD y) m ≤ n) (h2 : n < monD (leapD y) m + lenD y m) : ∀ k, m ≤ k → k ≤ 12 → monthF k (leapD y) n = m
  | 0, hk, _ => by omega
  | k + 1, hk, hk2 => by
    unfold monthF
    by_cases e : m = k + 1
    · subst e; rw [if_pos (by simpa using h)]
    · rw [if_neg (by have := monD_le (m := (m : Int)) (k := (k : Int) + 1) hy (by omega) (by omega) (by omega); omega), monthF_is hy h1 h h2 k (by omega) (by omega)]
theorem numD_range {y m d : Int} (h : dateD y m d) : -719162 + aheadD y ≤ numD y m d ∧ numD y m d < -719162 + aheadD (y + 1) ∧ -719162 ≤ numD y m d ∧ numD y m d ≤ 2932896 := by
  obtain ⟨hy, hm⟩ := lenD_range h
  have a := monD_nonneg (leapD y) m
  have b := aheadD_next y
  have c := monD_le (y := y) (m := m) (k := 13) hy (by omega) (by omega) (by omega)
  have p := aheadD_le (y := 1) (z := y) (by omega)
  have q := aheadD_le (y := y + 1) (z := 10000) (by omega)
  have e := aheadD_end
  have f := aheadD_one
  unfold dateD at h
  unfold numD
  omega
/-- Civil of a date's number is the date. -/
theorem civ_num {y m d : Int} (h : dateD y m d) : civV (numD y m d) = (y, m, d, true) := by
  obtain ⟨hy, hm⟩ := lenD_range h
  obtain ⟨r1, r2, r3, r4⟩ := numD_range h
  have h' := h
  unfold dateD at h'
  have ey : yearD (numD y m d) = y := by
    obtain ⟨k, rfl⟩ : ∃ k : Nat, y = k := ⟨y.toNat, by omega⟩
    unfold yearD
    rw [yearF_is (y := k) (by omega) r1 r2 9999 (by omega)]
  have er : restD (numD y m d) = monD (leapD y) m + (d - 1) := by
    unfold restD; rw [ey]; unfold numD; omega
  have em : monthD (numD y m d) = m := by
    unfold monthD
    rw [ey, er]
    obtain ⟨k, rfl⟩ : ∃ k : Nat, m = k := ⟨m.toNat, by omega⟩
    rw [monthF_is (m := k) hy (by omega) (by omega) (by omega) 12 (by omega) (by omega)]
  unfold civV
  rw [if_neg (by omega), ey, em, er]
  simp only [Prod.mk.injEq, and_true, true_and]
  omega
theorem num_inj {y m d y' m' d' : Int} (h : dateD y m d) (h' : dateD y' m' d') (e : numD y m d = numD y' m' d') : y = y' ∧ m = m' ∧ d = d' := by
  have := civ_num h
  rw [e, civ_num h'] at this
  simp only [Prod.mk.injEq, and_true] at this
  omega
theorem year_of {n : Int} (h : -719162 ≤ n) : ∀ k : Nat, n < -719162 + aheadD ((k : Int) + 1) → ∃ y : Nat, 1 ≤ y ∧ y ≤ k ∧ -719162 + aheadD y ≤ n ∧ n < -719162 + aheadD ((y : Int) + 1)
  | 0, hn => by
    have := aheadD_one
    rw [show (((0 : Nat) : Int) + 1) = 1 by rfl] at hn; omega
  | k + 1, hn => by
    by_cases hk : n < -719162 + aheadD ((k : Int) + 1)
    · obtain ⟨y, a, b, c, d⟩ := year_of h k hk
      exact ⟨y, a, by omega, c, d⟩
    · exact ⟨k + 1, by omega, by omega, by push_cast; omega, hn⟩
theorem month_of {l : Bool} {n : Int} (h : 0 ≤ n) : ∀ k : Nat, n < monD l ((k : Int) + 1) → ∃ m : Nat, 1 ≤ m ∧ m ≤ k ∧ monD l m ≤ n ∧ n < monD l ((m : Int) + 1)
  | 0, hn => by
    have := monD_one l
    rw [show (((0 : Nat) : Int) + 1) = 1 by rfl] at hn; omega
  | k + 1, hn => by
    by_cases hk : n < monD l ((k : Int) + 1)
    · obtain ⟨y, a, b, c, d⟩ := month_of h k hk
      exact ⟨y, a, by omega, c, d⟩
    · exact ⟨k + 1, by omega, by omega, by push_cast; omega, hn⟩
/-- Each day in the years is a date's number. -/
theorem num_of {n : Int} (h : -719162 ≤ n ∧ n ≤ 2932896) : ∃ y m d, dateD y m d ∧ n = numD y m d := by
  obtain ⟨y, a, b, c, e⟩ := year_of h.1 9999 (by
    have := aheadD_end
    rw [show (((9999 : Nat) : Int) + 1) = 10000 by rfl]; omega)
  have hn := aheadD_next y
  obtain ⟨m, p, q, r, s⟩ := month_of (l := leapD y) (n := n - (-719162 + aheadD y)) (by omega) 12 (by rw [show (((12 : Nat) : Int) + 1) = 13 by rfl]; omega)
  have hl := monD_next (y := y) (m := m) (by omega) (by omega)
  refine ⟨y, m, n - (-719162 + aheadD y) - monD (leapD y) m + 1, ⟨by omega, by omega⟩, ?_⟩
  unfold numD; omega
theorem civ_bad {n : Int} (h : n < -719162 ∨ 2932896 < n) : civV n = (0, 0, 0, false) := by unfold civV; rw [if_pos h]

/-- The day of the week, 0 for Monday. -/
def wdD (n : Int) : Int := (n + 3) % 7
theorem wdD_range (n : Int) : 0 ≤ wdD n ∧ wdD n ≤ 6 := by unfold wdD; omega
def inD (t : Int) : Bool := decide (-62135596800 ≤ t) && decide (t ≤ 253402300799)
theorem inD_iff (t : Int) : inD t = true ↔ -62135596800 ≤ t ∧ t ≤ 253402300799 := by simp [inD]
theorem inD_day {t : Int} (h : inD t = true) : -719162 ≤ t / 86400 ∧ t / 86400 ≤ 2932896 := by rw [inD_iff] at h; omega

/-- The day behind. -/
theorem next_day {y m d : Int} (h : dateD y m d) (hn : numD y m d < 2932896) :
    (d < lenD y m ∧ civV (numD y m d + 1) = (y, m, d + 1, true)) ∨ (d = lenD y m ∧ m ≤ 11 ∧ civV (numD y m d + 1) = (y, m + 1, 1, true)) ∨ (d = lenD y m ∧ m = 12 ∧ civV (numD y m d + 1) = (y + 1, 1, 1, true)) := by
  obtain ⟨hy, hm⟩ := lenD_range h
  have h' := h
  unfold dateD at h'
  by_cases hd : d < lenD y m
  · refine .inl ⟨hd, ?_⟩
    rw [← civ_num (y := y) (m := m) (d := d + 1) ⟨by omega, by omega⟩]
    congr 1; unfold numD; omega
  · have e : d = lenD y m := by omega
    by_cases hm2 : m ≤ 11
    · refine .inr (.inl ⟨e, hm2, ?_⟩)
      have p := lenD_pos (y := y) (m := m + 1) hy (by omega)
      rw [← civ_num (y := y) (m := m + 1) (d := 1) ⟨by omega, by omega⟩]
      have := monD_next (y := y) (m := m) hy hm
      congr 1; unfold numD; omega
    · obtain rfl : m = 12 := by omega
      have a := aheadD_next y
      have b := monD_next (y := y) (m := 12) hy (by omega)
      have hy2 : y ≤ 9998 := by
        by_cases hh : y ≤ 9998
        · exact hh
        · obtain rfl : y = 9999 := by omega
          have := aheadD_end
          rw [show (12 : Int) + 1 = 13 by rfl] at b
          rw [show (9999 : Int) + 1 = 10000 by rfl] at a
          unfold numD at hn; omega
      refine .inr (.inr ⟨e, rfl, ?_⟩)
      have p := lenD_pos (y := y + 1) (m := 1) (by omega) (by omega)
      rw [← civ_num (y := y + 1) (m := 1) (d := 1) ⟨by omega, by omega⟩]
      rw [show (12 : Int) + 1 = 13 by rfl] at b
      congr 1; unfold numD
      rw [monD_one]; omega
theorem wd_next (n : Int) : wdD (n + 1) = (wdD n + 1) % 7 := by unfold wdD; omega

end Go.Proofs.YtnidkcedomhofaaGreatDoor

/-
  Plain mathematics for layer 8 (text): letters, digits, percent coding, base 64, UTF-8, as functions on lists of bytes.
-/
namespace Go.Proofs.YtnidkcedomhofaaGreatDoor
open Go.RowKit

theorem bsize (b : ByteArray) : b.size = b.data.toList.length := Array.length_toList.symm
theorem mk_toList (b : ByteArray) : (⟨b.data.toList.toArray⟩ : ByteArray) = b := by simp
theorem mk_inj {a b : List UInt8} (h : (⟨a.toArray⟩ : ByteArray) = ⟨b.toArray⟩) : a = b := by
  have := congrArg (fun x : ByteArray => x.data.toList) h
  simpa using this
theorem of_mk {s : ByteArray} {l : List UInt8} (h : s.data.toList = l) : s = ⟨l.toArray⟩ := by subst h; simp

/-- A small letter for a great one. -/
def lowN (n : Nat) : Nat := if 65 ≤ n ∧ n ≤ 90 then n + 32 else n
theorem lowN_lt {n : Nat} (h : n < 256) : lowN n < 256 := by unfold lowN; split <;> omega
def lowC (c : UInt8) : UInt8 := UInt8.ofNat (lowN c.toNat)
theorem lowC_nat (c : UInt8) : (lowC c).toNat = lowN c.toNat := by
  have := lowN_lt c.toNat_lt
  unfold lowC
  rw [UInt8.toNat_ofNat']; omega
theorem lowN_low (n : Nat) : lowN (lowN n) = lowN n := by unfold lowN; split <;> (try split) <;> omega
theorem lowC_low (c : UInt8) : lowC (lowC c) = lowC c := by
  apply UInt8.toNat_inj.1
  rw [lowC_nat, lowC_nat, lowN_low]
def lowL (l : List UInt8) : List UInt8 := l.map lowC
theorem lowL_low (l : List UInt8) : lowL (lowL l) = lowL l := by
  unfold lowL
  rw [List.map_map]
  exact List.map_congr_left fun c _ => lowC_low c
theorem lowL_append (a b : List UInt8) : lowL (a ++ b) = lowL a ++ lowL b := by simp [lowL]
theorem lowL_length (a : List UInt8) : (lowL a).length = a.length := by simp [lowL]

/-- One of 0 to 9. -/
def digN (n : Nat) : Bool := decide (48 ≤ n) && decide (n ≤ 57)
/-- A letter. -/
def letN (n : Nat) : Bool := (decide (97 ≤ n) && decide (n ≤ 122)) || (decide (65 ≤ n) && decide (n ≤ 90))
/-- What stands in a path as it is. -/
def keepN (n : Nat) : Bool := digN n || letN n || n == 45 || n == 46 || n == 95 || n == 126 || n == 47
/-- What a digit of base 16 means; below 0: it is none. -/
def hexN (n : Nat) : Int := if 48 ≤ n ∧ n ≤ 57 then (n : Int) - 48 else if 65 ≤ n ∧ n ≤ 70 then (n : Int) - 55 else if 97 ≤ n ∧ n ≤ 102 then (n : Int) - 87 else -1
/-- A digit of base 16, as its letter. -/
def hexL (n : Nat) : Nat := if n < 10 then n + 48 else n + 55

/-- Percent coding. -/
def pct : List UInt8 → List UInt8
  | [] => []
  | c :: l => (if keepN c.toNat then [c] else [37, UInt8.ofNat (hexL (c.toNat / 16)), UInt8.ofNat (hexL (c.toNat % 16))]) ++ pct l
theorem pct_length (l : List UInt8) : (pct l).length ≤ 3 * l.length := by
  induction l with
  | nil => simp [pct]
  | cons c l ih =>
    simp only [pct, List.length_append, List.length_cons]
    split <;> simp <;> omega
theorem pct_append (a b : List UInt8) : pct (a ++ b) = pct a ++ pct b := by
  induction a with
  | nil => simp [pct]
  | cons c a ih => simp only [List.cons_append, pct, ih, List.append_assoc]
/-- Taken back: what has come, and what is left; none: a % that no two digits follow. -/
def unp : List UInt8 → Option (List UInt8)
  | [] => some []
  | c :: l => if c.toNat = 37 then
      match l with
      | x :: y :: r => if hexN x.toNat < 0 ∨ hexN y.toNat < 0 then none else (unp r).map (UInt8.ofNat (hexN x.toNat * 16 + hexN y.toNat).toNat :: ·)
      | _ => none
    else (unp l).map (c :: ·)
theorem unp_other {c : UInt8} (hc : c.toNat ≠ 37) (l : List UInt8) : unp (c :: l) = (unp l).map (c :: ·) := by
  rw [unp.eq_def]
  dsimp only
  rw [if_neg hc]
theorem unp_short {c : UInt8} (hc : c.toNat = 37) (l : List UInt8) (hl : l.length < 2) : unp (c :: l) = none := by
  rw [unp.eq_def]
  dsimp only
  rw [if_pos hc]
  match l, hl with
  | [], _ => rfl
  | [x], _ => rfl
theorem unp_bad {c x y : UInt8} (hc : c.toNat = 37) (r : List UInt8) (h : hexN x.toNat < 0 ∨ hexN y.toNat < 0) : unp (c :: x :: y :: r) = none := by
  rw [unp.eq_def]
  dsimp only
  rw [if_pos hc, if_pos h]
theorem unp_hex {c x y : UInt8} (hc : c.toNat = 37) (r : List UInt8) (h : ¬ (hexN x.toNat < 0 ∨ hexN y.toNat < 0)) : unp (c :: x :: y :: r) = (unp r).map (UInt8.ofNat (hexN x.toNat * 16 + hexN y.toNat).toNat :: ·) := by
  rw [unp.eq_def]
  dsimp only
  rw [if_pos hc, if_neg h]
theorem unp_length (n : Nat) : ∀ (l r : List UInt8), l.length ≤ n → unp l = some r → r.length ≤ l.length := by
  induction n with
  | zero => intro l r hl h; cases l with
    | nil => simp [unp] at h; subst h; simp
    | cons c l => simp at hl
  | succ n ih =>
    intro l r hl h
    cases l with
    | nil => simp [unp] at h; subst h; simp
    | cons c l =>
      simp only [List.length_cons] at hl
      by_cases hc : c.toNat = 37
      · match l, hl, h with
        | [], _, h => rw [unp_short hc _ (by simp)] at h; cases h
        | [x], _, h => rw [unp_short hc _ (by simp)] at h; cases h
        | x :: y :: l, hl, h =>
          by_cases hx : hexN x.toNat < 0 ∨ hexN y.toNat < 0
          · rw [unp_bad hc _ hx] at h; cases h
          · rw [unp_hex hc _ hx, Option.map_eq_some_iff] at h
            obtain ⟨q, hq, rfl⟩ := h
            simp only [List.length_cons] at hl
            have := ih l q (by omega) hq
            simp; omega
      · rw [unp_other hc, Option.map_eq_some_iff] at h
        obtain ⟨q, hq, rfl⟩ := h
        have := ih l q (by omega) hq
        simp; omega

/-- A number of decimal digits; none: another byte. -/
def numL : List UInt8 → Nat → Option Nat
  | [], n => some n
  | c :: l, n => if digN c.toNat then numL l (n * 10 + (c.toNat - 48)) else none
def numV (l : List UInt8) (most : Int) : Int × Bool :=
  if l = [] ∨ 18 < l.length then (0, false) else
  match numL l 0 with
  | some n => if most < n then (0, false) else (n, true)
  | none => (0, false)

end Go.Proofs.YtnidkcedomhofaaGreatDoor
