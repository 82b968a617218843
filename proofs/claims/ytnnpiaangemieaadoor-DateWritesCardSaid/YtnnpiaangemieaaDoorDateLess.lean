/-
  Plain mathematics for layer 10 (date): stamps rise as their times do.
-/
import Derived.Test.YtnnpiaangemieaaDoorDateRead
namespace Go.Proofs.YtnnpiaangemieaaDoor
open Go.RowKit

theorem padT_mod : ∀ k n, padT k n = padT k (n % 10 ^ k)
  | 0, _ => rfl
  | k + 1, n => by
    have e : n % 10 ^ (k + 1) / 10 = n / 10 % 10 ^ k := by rw [Nat.pow_succ, Nat.mul_comm, Nat.mod_mul_right_div_self]
    have e2 : digC (n % 10 ^ (k + 1)) = digC n := by
      unfold digC
      rw [Nat.pow_succ, Nat.mul_comm, Nat.mod_mul_right_mod]
    rw [padT, padT, e, e2, padT_mod k (n / 10)]
theorem digC_lt {a b : Nat} (ha : a < 10) (hb : b < 10) : (digC a < digC b) ↔ a < b := by
  rw [UInt8.lt_iff_toNat_lt, digC_nat, digC_nat]; omega
theorem digC_eq {a b : Nat} (ha : a < 10) (hb : b < 10) : (digC a = digC b) ↔ a = b := by
  rw [← UInt8.toNat_inj, digC_nat, digC_nat]; omega
theorem less_pad : ∀ (k a b : Nat) (x y : List UInt8), a < 10 ^ k → b < 10 ^ k → Op.bytesLess (padT k a ++ x) (padT k b ++ y) = (decide (a < b) || (decide (a = b) && Op.bytesLess x y))
  | 0, a, b, x, y, ha, hb => by
    have : a = 0 := by simpa using ha
    have : b = 0 := by simpa using hb
    subst a b; simp [padT]
  | k + 1, a, b, x, y, ha, hb => by
    have hP : 0 < 10 ^ k := Nat.pow_pos (by omega)
    have qa : a / 10 ^ k < 10 := by rw [Nat.div_lt_iff_lt_mul hP]; rw [Nat.pow_succ] at ha; omega
    have qb : b / 10 ^ k < 10 := by rw [Nat.div_lt_iff_lt_mul hP]; rw [Nat.pow_succ] at hb; omega
    have ra : a % 10 ^ k < 10 ^ k := Nat.mod_lt _ hP
    have rb : b % 10 ^ k < 10 ^ k := Nat.mod_lt _ hP
    have ea := Nat.div_add_mod a (10 ^ k)
    have eb := Nat.div_add_mod b (10 ^ k)
    rw [padT_cons, padT_cons, List.cons_append, List.cons_append, Op.bytesLess, padT_mod k a, padT_mod k b, less_pad k _ _ x y ra rb]
    generalize a / 10 ^ k = q at *
    generalize b / 10 ^ k = q' at *
    generalize a % 10 ^ k = r at *
    generalize b % 10 ^ k = r' at *
    generalize 10 ^ k = P at *
    rcases Nat.lt_trichotomy q q' with h | h | h
    · have h1 : P * (q + 1) ≤ P * q' := Nat.mul_le_mul_left _ h
      rw [Nat.mul_add] at h1
      rw [decide_eq_true ((digC_lt qa qb).2 h), decide_eq_true (show a < b by omega)]
      rfl
    · subst h
      have h1 : ¬ digC q < digC q := fun h => by have := (digC_lt qa qa).1 h; omega
      rw [decide_eq_false h1, show (digC q == digC q) = true by simp]
      rw [show decide (r < r') = decide (a < b) by congr 1; apply propext; omega, show decide (r = r') = decide (a = b) by congr 1; apply propext; omega]
      simp
    · have h1 : P * (q' + 1) ≤ P * q := Nat.mul_le_mul_left _ h
      rw [Nat.mul_add] at h1
      have h2 : ¬ digC q < digC q' := fun h => by have := (digC_lt qa qb).1 h; omega
      have h3 : (digC q == digC q') = false := by
        rw [beq_eq_false_iff_ne]
        intro e
        have := (digC_eq qa qb).1 e
        omega
      rw [decide_eq_false h2, h3, decide_eq_false (show ¬ a < b by omega), decide_eq_false (show ¬ a = b by omega)]
      rfl
theorem num_lt {y m d y' m' d' : Int} (h : dateD y m d) (h' : dateD y' m' d') (hl : y.toNat * 10000 + m.toNat * 100 + d.toNat < y'.toNat * 10000 + m'.toNat * 100 + d'.toNat) : numD y m d < numD y' m' d' := by
  obtain ⟨hy, hm⟩ := lenD_range h
  obtain ⟨hy', hm'⟩ := lenD_range h'
  have hp := lenD_pos hy hm
  have hp' := lenD_pos hy' hm'
  have r := numD_range h
  have r' := numD_range h'
  unfold dateD at h h'
  by_cases e1 : y < y'
  · have := aheadD_le (y := y + 1) (z := y') (by omega); omega
  · have e2 : y = y' := by omega
    subst e2
    by_cases e3 : m < m'
    · have := monD_le (y := y) (m := m) (k := m') hy (by omega) e3 (by omega)
      unfold numD; omega
    · have e4 : m = m' := by omega
      subst e4
      unfold numD; omega
theorem clk_lt (S T : Nat) : (S / 3600 * 10000 + S / 60 % 60 * 100 + S % 60 < T / 3600 * 10000 + T / 60 % 60 * 100 + T % 60) ↔ S < T := by
  have e1 : S / 3600 = S / 60 / 60 := by rw [Nat.div_div_eq_div_mul]
  have e2 : T / 3600 = T / 60 / 60 := by rw [Nat.div_div_eq_div_mul]
  rw [e1, e2]
  obtain ⟨p, hp⟩ : ∃ p, S / 60 / 60 = p := ⟨_, rfl⟩
  obtain ⟨p', hp'⟩ : ∃ p, T / 60 / 60 = p := ⟨_, rfl⟩
  obtain ⟨q, hq⟩ : ∃ q, S / 60 % 60 = q := ⟨_, rfl⟩
  obtain ⟨q', hq'⟩ : ∃ q, T / 60 % 60 = q := ⟨_, rfl⟩
  rw [hp, hp', hq, hq']
  have a : S = 60 * (60 * p + q) + S % 60 := by omega
  have b : T = 60 * (60 * p' + q') + T % 60 := by omega
  have c : q < 60 := by omega
  have d : q' < 60 := by omega
  have r : S % 60 < 60 := by omega
  have r' : T % 60 < 60 := by omega
  generalize S % 60 = x at *
  generalize T % 60 = y at *
  clear hp hp' hq hq' e1 e2
  subst a b
  rcases Nat.lt_trichotomy p p' with h | h | h
  · omega
  · subst h
    rcases Nat.lt_trichotomy q q' with h | h | h <;> omega
  · omega
/-- A stamp's bytes rise as its time does. -/
theorem stamp_less {t u : Int} (ht : inD t = true) (hu : inD u = true) : Op.bytesLess (stampT t) (stampT u) = decide (t < u) := by
  have dt := inD_day ht
  have du := inD_day hu
  obtain ⟨y, m, d, hd, e⟩ := num_of dt
  obtain ⟨y', m', d', hd', e'⟩ := num_of du
  obtain ⟨et, b1, b2, b3⟩ := dayT_num hd
  obtain ⟨eu, c1, c2, c3⟩ := dayT_num hd'
  have lt1 := num_lt hd hd'
  have lt2 := num_lt hd' hd
  have inj := fun h => congrArg (fun x : Int × Int × Int => numD x.1 x.2.1 x.2.2) (show (y, m, d) = (y', m', d') from h)
  obtain ⟨hy, hm⟩ := lenD_range hd
  obtain ⟨hy', hm'⟩ := lenD_range hd'
  unfold dateD at hd hd'
  unfold stampT
  rw [ht, hu, if_pos rfl, if_pos rfl, e, e', et, eu, clk_num (by omega), clk_num (by omega), List.append_assoc, List.append_assoc, less_pad 8 _ _ _ _ (by omega) (by omega)]
  have hin : ∀ c1 c2 : Nat, c1 < 10 ^ 6 → c2 < 10 ^ 6 → Op.bytesLess ([84] ++ padT 6 c1) ([84] ++ padT 6 c2) = decide (c1 < c2) := by
    intro p q hp hq
    have := less_pad 6 p q [] [] hp hq
    simp only [List.append_nil] at this
    rw [List.singleton_append, List.singleton_append, Op.bytesLess, this]
    simp [Op.bytesLess]
  rw [hin _ _ (by omega) (by omega)]
  by_cases h1 : y.toNat * 10000 + m.toNat * 100 + d.toNat < y'.toNat * 10000 + m'.toNat * 100 + d'.toNat
  · have := lt1 h1
    rw [decide_eq_true h1, decide_eq_true (show t < u by omega)]
    rfl
  · by_cases h2 : y'.toNat * 10000 + m'.toNat * 100 + d'.toNat < y.toNat * 10000 + m.toNat * 100 + d.toNat
    · have := lt2 h2
      rw [decide_eq_false h1, decide_eq_false (show ¬ (y.toNat * 10000 + m.toNat * 100 + d.toNat = y'.toNat * 10000 + m'.toNat * 100 + d'.toNat) by omega), decide_eq_false (show ¬ t < u by omega)]
      rfl
    · have q1 : y = y' := by omega
      have q2 : m = m' := by omega
      have q3 : d = d' := by omega
      have := inj (by rw [q1, q2, q3])
      dsimp only at this
      rw [decide_eq_false h1, decide_eq_true (show y.toNat * 10000 + m.toNat * 100 + d.toNat = y'.toNat * 10000 + m'.toNat * 100 + d'.toNat by omega), Bool.false_or, Bool.true_and]
      congr 1
      apply propext
      rw [clk_lt]
      omega

end Go.Proofs.YtnnpiaangemieaaDoor
