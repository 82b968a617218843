/-
  Plain mathematics for layer 13 (value): how durations and offsets are written and read back, and what is escaped.
-/
import Derived.Test.YtnidkcedomhofaaGreatDoorG06
import Derived.Lib.ItoaNum
namespace Go.Proofs.YtnidkcedomhofaaGreatDoor
open Go.RowKit

theorem dec_small {n : Nat} (h : n < 10) : Lib.decDigits n = [UInt8.ofNat (48 + n)] := by rw [Lib.decDigits, dif_pos h]
theorem dec_big {n : Nat} (h : ¬ n < 10) : Lib.decDigits n = Lib.decDigits (n / 10) ++ [UInt8.ofNat (48 + n % 10)] := by rw [Lib.decDigits, dif_neg h]
theorem byte_dig {k : Nat} (h : k < 10) : (UInt8.ofNat (48 + k)).toNat = 48 + k := by rw [UInt8.toNat_ofNat']; omega
theorem digN_byte {k : Nat} (h : k < 10) : digN (UInt8.ofNat (48 + k)).toNat = true := by rw [byte_dig h]; unfold digN; simp; omega
theorem dec_num : ∀ (k n : Nat), n < 10 ^ k → numL (Lib.decDigits n) 0 = some n
  | 0, n, h => by
    have : n = 0 := by simpa using h
    subst this
    rw [dec_small (by omega)]
    rfl
  | k + 1, n, h => by
    by_cases h1 : n < 10
    · rw [dec_small h1, numL, if_pos (digN_byte h1), byte_dig h1, numL]
      congr 1; omega
    · rw [dec_big h1]
      exact (numL_snoc _ _ _).2 ⟨n / 10, dec_num k (n / 10) (by rw [Nat.pow_succ] at h; omega), digN_byte (by omega), by rw [byte_dig (by omega)]; omega⟩
theorem dec_digs : ∀ (k n : Nat), n < 10 ^ k → ∀ c ∈ Lib.decDigits n, digN c.toNat = true
  | 0, n, h => by
    have : n = 0 := by simpa using h
    subst this
    rw [dec_small (by omega)]
    intro c hc
    simp only [List.mem_singleton] at hc
    subst hc
    rfl
  | k + 1, n, h => by
    by_cases h1 : n < 10
    · rw [dec_small h1]
      intro c hc
      simp only [List.mem_singleton] at hc
      subst hc
      exact digN_byte h1
    · rw [dec_big h1]
      intro c hc
      rcases List.mem_append.1 hc with hc | hc
      · exact dec_digs k (n / 10) (by rw [Nat.pow_succ] at h; omega) c hc
      · simp only [List.mem_singleton] at hc
        subst hc
        exact digN_byte (by omega)
theorem dec_len : ∀ (k n : Nat), n < 10 ^ (k + 1) → (Lib.decDigits n).length ≤ k + 1
  | 0, n, h => by rw [dec_small (by simpa using h)]; simp
  | k + 1, n, h => by
    by_cases h1 : n < 10
    · rw [dec_small h1]; simp
    · rw [dec_big h1, List.length_append]
      have := dec_len k (n / 10) (by rw [Nat.pow_succ] at h; omega)
      simp; omega
theorem dec_ne (n : Nat) : Lib.decDigits n ≠ [] := by
  by_cases h1 : n < 10
  · rw [dec_small h1]; simp
  · rw [dec_big h1]; simp
theorem numR_dec {v : Nat} (hv : v < 10000000) {c : UInt8} (hc : digN c.toNat = false) (r : List UInt8) : numR (Lib.decDigits v ++ c :: r) c = some ((v : Int), r) := by
  have e := spanD_of (Lib.decDigits v) (c :: r) (dec_digs 7 v hv) (fun b r' h => by injection h with h1 h2; subst h1; exact hc)
  unfold numR
  rw [e]
  simp only
  have hl := dec_len 6 v hv
  rw [if_pos ⟨dec_ne v, hl, by trivial⟩]
  unfold valD numV
  rw [if_neg (fun hx => hx.elim (dec_ne v) (fun k => by omega)), dec_num 7 v hv]
  simp only
  rw [if_neg (by omega)]
/-- A time of less than a day, as parts. -/
def clkQ (c : Nat) : List UInt8 :=
  (if 0 < c / 3600 then Lib.decDigits (c / 3600) ++ [72] else []) ++ ((if 0 < c / 60 % 60 ∨ (0 < c / 3600 ∧ 0 < c % 60) then Lib.decDigits (c / 60 % 60) ++ [77] else []) ++ (if 0 < c % 60 ∨ (c / 3600 = 0 ∧ c / 60 % 60 = 0) then Lib.decDigits (c % 60) ++ [83] else []))
/-- What stands behind a duration's P. -/
def bodyT (m : Nat) : List UInt8 :=
  if 0 < m ∧ m % 604800 = 0 then Lib.decDigits (m / 604800) ++ [87]
  else (if 0 < m / 86400 then Lib.decDigits (m / 86400) ++ [68] else []) ++ (if m % 86400 = 0 ∧ 0 < m then [] else 84 :: clkQ (m % 86400))
/-- A duration as it is written. -/
def durT (n : Int) : List UInt8 := if 1000000000 < n ∨ n < -1000000000 then [] else (if n < 0 then [45, 80] else [80]) ++ bodyT n.natAbs
theorem go_dec {c x : UInt8} {a : Int} (h : unitP x ≠ 0) (hc : c ∈ behP x) (hx : digN x.toNat = false) {v : Nat} (hv : v < 10000000) (r : List UInt8) : goP c a (Lib.decDigits v ++ x :: r) = goP x (a + v * unitP x) r :=
  go_num h hc (numR_dec hv hx r)
theorem goS_nil (a : Int) : goP 83 a [] = some a := rfl
theorem goM_nil (a : Int) : goP 77 a [] = some a := rfl
theorem goH_nil (a : Int) : goP 72 a [] = some a := rfl
theorem goD_nil (a : Int) : goP 68 a [] = some a := rfl
theorem go_clk (a : Int) {c : Nat} (h : c < 86400) : goP 84 a (clkQ c) = some (a + c) := by
  unfold clkQ
  by_cases h1 : 0 < c / 3600
  · rw [if_pos h1, List.append_assoc, List.singleton_append, go_dec (by decide) ((beh84 72).2 (by simp)) (by decide) (by omega)]
    by_cases h2 : 0 < c / 60 % 60 ∨ (0 < c / 3600 ∧ 0 < c % 60)
    · rw [if_pos h2, List.append_assoc, List.singleton_append, go_dec (by decide) ((beh72 77).2 rfl) (by decide) (by omega)]
      by_cases h3 : 0 < c % 60 ∨ (c / 3600 = 0 ∧ c / 60 % 60 = 0)
      · rw [if_pos h3, go_dec (by decide) ((beh77 83).2 rfl) (by decide) (by omega), goS_nil]
        congr 1
        rw [show unitP 72 = 3600 by rfl, show unitP 77 = 60 by rfl, show unitP 83 = 1 by rfl]; omega
      · rw [if_neg h3, goM_nil]
        congr 1
        rw [show unitP 72 = 3600 by rfl, show unitP 77 = 60 by rfl]; omega
    · rw [if_neg h2, if_neg (by omega)]
      simp only [List.append_nil]
      rw [goH_nil]
      congr 1
      rw [show unitP 72 = 3600 by rfl]; omega
  · rw [if_neg h1, List.nil_append]
    by_cases h2 : 0 < c / 60 % 60 ∨ (0 < c / 3600 ∧ 0 < c % 60)
    · rw [if_pos h2, List.append_assoc, List.singleton_append, go_dec (by decide) ((beh84 77).2 (by simp)) (by decide) (by omega)]
      by_cases h3 : 0 < c % 60 ∨ (c / 3600 = 0 ∧ c / 60 % 60 = 0)
      · rw [if_pos h3, go_dec (by decide) ((beh77 83).2 rfl) (by decide) (by omega), goS_nil]
        congr 1
        rw [show unitP 77 = 60 by rfl, show unitP 83 = 1 by rfl]; omega
      · rw [if_neg h3, goM_nil]
        congr 1
        rw [show unitP 77 = 60 by rfl]; omega
    · rw [if_neg h2, List.nil_append, if_pos (by omega), go_dec (by decide) ((beh84 83).2 (by simp)) (by decide) (by omega), goS_nil]
      congr 1
      rw [show unitP 83 = 1 by rfl]; omega
theorem go_body {m : Nat} (h : m ≤ 1000000000) : goP 80 0 (bodyT m) = some (m : Int) := by
  unfold bodyT
  by_cases h1 : 0 < m ∧ m % 604800 = 0
  · rw [if_pos h1, go_dec (by decide) ((beh80 87).2 (by simp)) (by decide) (by omega), goW, if_pos rfl]
    congr 1
    rw [show unitP 87 = 604800 by rfl]; omega
  · rw [if_neg h1]
    by_cases h2 : 0 < m / 86400
    · rw [if_pos h2, List.append_assoc, List.singleton_append, go_dec (by decide) ((beh80 68).2 (by simp)) (by decide) (by omega)]
      rw [show unitP 68 = 86400 by rfl]
      by_cases h3 : m % 86400 = 0 ∧ 0 < m
      · rw [if_pos h3, goD_nil]
        congr 1; omega
      · rw [if_neg h3, go_T (.inr rfl), go_clk _ (by omega)]
        congr 1; omega
    · rw [if_neg h2, if_neg (by omega), List.nil_append, go_T (.inl rfl), go_clk _ (by omega)]
      congr 1; omega
/-- What a duration is read as, its sign read. -/
def durB (sg : Int) (l : List UInt8) : Int × Int :=
  match l with
  | 80 :: r => (match goP 80 0 r with
    | some n => (sg * n, 0)
    | none => (0, 10))
  | _ => (0, 10)
def durV (l : List UInt8) : Int × Int :=
  match l with
  | 43 :: r => durB 1 r
  | 45 :: r => durB (-1) r
  | _ => durB 1 l
theorem durV_back {n : Int} (h : ¬ (1000000000 < n ∨ n < -1000000000)) : durV (durT n) = (n, 0) ∧ durT n ≠ [] := by
  unfold durT
  rw [if_neg h]
  have hb := go_body (m := n.natAbs) (by omega)
  by_cases hn : n < 0
  · rw [if_pos hn]
    refine ⟨?_, by simp⟩
    show durB (-1) (80 :: bodyT n.natAbs) = _
    unfold durB
    simp only [hb, Prod.mk.injEq, and_true]; omega
  · rw [if_neg hn]
    refine ⟨?_, by simp⟩
    show durB 1 (80 :: bodyT n.natAbs) = _
    unfold durB
    simp only [hb, Prod.mk.injEq, and_true]; omega
theorem partsA_digs : ∀ (l acc : List UInt8), (∀ c ∈ acc, digN c.toNat = true) → ∀ x ∈ partsA acc l, ∀ c ∈ x.2, digN c.toNat = true
  | [], acc, h, x, hx => by
    rw [partsA] at hx
    split at hx
    · cases hx
    · simp only [List.mem_singleton] at hx
      subst hx
      exact h
  | b :: l, acc, h, x, hx => by
    rw [partsA] at hx
    split at hx
    · rename_i hb
      refine partsA_digs l _ (fun c hc => ?_) x hx
      rcases List.mem_append.1 hc with hc | hc
      · exact h c hc
      · simp only [List.mem_singleton] at hc
        subst hc
        exact hb
    · rcases List.mem_cons.1 hx with rfl | hx
      · exact h
      · exact partsA_digs l [] (fun c hc => by cases hc) x hx
theorem rkP_le (c : UInt8) : 0 ≤ rkP c ∧ rkP c ≤ 5 := by unfold rkP; repeat (first | omega | split)
theorem runP_bound : ∀ (xs : List (UInt8 × List UInt8)) (st s : UInt8 × Int), runP st xs = some s → (0 ≤ st.2 ∧ st.2 ≤ rkP st.1 * 6048000000000) → (∀ x ∈ xs, ∀ c ∈ x.2, digN c.toNat = true) → 0 ≤ s.2 ∧ s.2 ≤ rkP s.1 * 6048000000000
  | [], st, s, h, hb, _ => by
    simp only [runP, Option.some.injEq] at h
    subst h
    exact hb
  | x :: xs, (c, a), s, h, hb, hd => by
    rw [runP] at h
    cases hs : stepP (c, a) x with
    | none => rw [hs] at h; cases h
    | some t =>
      rw [hs] at h
      obtain ⟨b1, b2, _⟩ := stepP_bound hs hb (hd x (by simp))
      exact runP_bound xs t s h ⟨b1, b2⟩ (fun y hy => hd y (by simp [hy]))
theorem goP_bound {l : List UInt8} {n : Int} (h : goP 80 0 l = some n) : 0 ≤ n ∧ n ≤ 30240000000000 := by
  unfold goP at h
  cases hr : runP (80, 0) (partsA [] l) with
  | none => rw [hr] at h; cases h
  | some s =>
    rw [hr] at h
    have b := runP_bound _ _ _ hr (by simp [rkP]) (partsA_digs l [] (fun c hc => by cases hc))
    have k := rkP_le s.1
    simp only [Option.bind_some, finP] at h
    split at h
    · cases h
    · simp only [Option.some.injEq] at h
      subst h
      omega
theorem durB_range (sg : Int) (hs : sg = 1 ∨ sg = -1) (l : List UInt8) : (-30240000000000 ≤ (durB sg l).1 ∧ (durB sg l).1 ≤ 30240000000000) ∧ ((durB sg l).2 = 0 ∨ (durB sg l = (0, 10))) := by
  unfold durB
  split
  · rename_i r
    cases h : goP 80 0 r with
    | none => simp
    | some n =>
      have := goP_bound h
      rcases hs with rfl | rfl <;> exact ⟨by simp only; omega, .inl rfl⟩
  · simp
theorem durV_range (l : List UInt8) : (-30240000000000 ≤ (durV l).1 ∧ (durV l).1 ≤ 30240000000000) ∧ ((durV l).2 = 0 ∨ (durV l = (0, 10))) := by
  unfold durV
  split
  · exact durB_range 1 (.inl rfl) _
  · exact durB_range (-1) (.inr rfl) _
  · exact durB_range 1 (.inl rfl) _

/-- An offset's hours, minutes and seconds. -/
def off6 (sg : Int) (l : List UInt8) : Int × Int :=
  if (clkP (l.take 2) (cutL l 2 4) (l.drop 4)).2 = true ∧ ¬ (sg < 0 ∧ (clkP (l.take 2) (cutL l 2 4) (l.drop 4)).1 = 0) then (sg * (clkP (l.take 2) (cutL l 2 4) (l.drop 4)).1, 0) else (0, 10)
def offB (sg : Int) (l : List UInt8) : Int × Int := if l.length = 4 then off6 sg (l ++ [48, 48]) else if l.length = 6 then off6 sg l else (0, 10)
def offV (l : List UInt8) : Int × Int :=
  match l with
  | 43 :: r => offB 1 r
  | 45 :: r => offB (-1) r
  | _ => (0, 10)
def offT (n : Int) : List UInt8 := if n ≤ -86400 ∨ 86400 ≤ n then [] else (if n < 0 then 45 else 43) :: (padT 2 (n.natAbs / 3600) ++ (padT 2 (n.natAbs / 60 % 60) ++ (if 0 < n.natAbs % 60 then padT 2 (n.natAbs % 60) else [])))
theorem six_cut (x y z : List UInt8) (hx : x.length = 2) (hy : y.length = 2) : (x ++ (y ++ z)).take 2 = x ∧ cutL (x ++ (y ++ z)) 2 4 = y ∧ (x ++ (y ++ z)).drop 4 = z := by
  refine ⟨?_, ?_, ?_⟩
  · rw [List.take_append_of_le_length (by omega), List.take_of_length_le (by omega)]
  · unfold cutL
    rw [List.drop_append_of_le_length (by omega), List.drop_of_length_le (by omega), List.nil_append, List.take_append_of_le_length (by omega), List.take_of_length_le (by omega)]
  · rw [← List.append_assoc, List.drop_append_of_le_length (by rw [List.length_append]; omega), List.drop_of_length_le (by rw [List.length_append]; omega), List.nil_append]
theorem off6_pad {sg : Int} {a b c : Nat} (ha : a < 24) (hb : b < 60) (hc : c < 60) : off6 sg (padT 2 a ++ (padT 2 b ++ padT 2 c)) = if sg < 0 ∧ (a : Int) * 3600 + b * 60 + c = 0 then (0, 10) else (sg * ((a : Int) * 3600 + b * 60 + c), 0) := by
  obtain ⟨e1, e2, e3⟩ := six_cut (padT 2 a) (padT 2 b) (padT 2 c) (padT_length _ _) (padT_length _ _)
  unfold off6
  rw [e1, e2, e3]
  unfold clkP
  rw [numV_pad (k := 2) (n := a) (by omega) (by omega), numV_pad (k := 2) (n := b) (by omega) (by omega), numV_pad (k := 2) (n := c) (by omega) (by omega), if_neg (show ¬ (23 : Int) < (a : Int) by omega), if_neg (show ¬ (59 : Int) < (b : Int) by omega), if_neg (show ¬ (59 : Int) < (c : Int) by omega)]
  simp only [Bool.and_self, true_and]
  by_cases h : sg < 0 ∧ (a : Int) * 3600 + b * 60 + c = 0
  · rw [if_pos h, if_neg (fun k => k h)]
  · rw [if_neg h, if_pos h]
theorem offV_back {n : Int} (h : ¬ (n ≤ -86400 ∨ 86400 ≤ n)) : offV (offT n) = (n, 0) ∧ offT n ≠ [] := by
  unfold offT
  rw [if_neg h]
  refine ⟨?_, by simp⟩
  have hz : ∀ sg : Int, offB sg (padT 2 (n.natAbs / 3600) ++ (padT 2 (n.natAbs / 60 % 60) ++ (if 0 < n.natAbs % 60 then padT 2 (n.natAbs % 60) else []))) = off6 sg (padT 2 (n.natAbs / 3600) ++ (padT 2 (n.natAbs / 60 % 60) ++ padT 2 (n.natAbs % 60))) := fun sg => by
    unfold offB
    by_cases hs : 0 < n.natAbs % 60
    · rw [if_pos hs, if_neg (by simp [padT_length]), if_pos (by simp [padT_length])]
    · rw [if_neg hs, if_pos (by simp [padT_length])]
      rw [show n.natAbs % 60 = 0 by omega]
      simp only [List.append_nil, List.append_assoc]
      rfl
  by_cases hn : n < 0
  · rw [if_pos hn]
    show offB (-1) _ = _
    rw [hz, off6_pad (by omega) (by omega) (by omega), if_neg (by omega)]
    simp only [Prod.mk.injEq, and_true]; omega
  · rw [if_neg hn]
    show offB 1 _ = _
    rw [hz, off6_pad (by omega) (by omega) (by omega), if_neg (by omega)]
    simp only [Prod.mk.injEq, and_true]; omega
/-- The first day that times are told of. -/
def firstL : List UInt8 := [49, 57, 55, 48, 48, 49, 48, 49]
theorem day_zero : dayT 0 = firstL := by
  have h : dateD 1970 1 1 := by unfold dateD; decide
  have e := (dayT_num h).1
  rw [show numD 1970 1 1 = 0 by decide] at e
  rw [e]
  decide
theorem rd_zero : rdDay firstL = (0, 0) := by rw [← day_zero]; exact rdDay_back (by decide)
theorem stamp_first (sz : List UInt8) : rdStamp ((firstL ++ [84]) ++ sz) = if sz.length = 6 ∧ (clkP (sz.take 2) (cutL sz 2 4) (sz.drop 4)).2 = true then ((clkP (sz.take 2) (cutL sz 2 4) (sz.drop 4)).1, 0) else (0, 10) := by
  by_cases h : sz.length = 6
  · rw [rdStamp_cut (by rw [List.length_append, h]; rfl) (by simp [firstL])]
    have e1 : ((firstL ++ [84]) ++ sz).take 8 = firstL := by simp [firstL]
    have e2 : cutL ((firstL ++ [84]) ++ sz) 9 11 = sz.take 2 := by simp [cutL, firstL]
    have e3 : cutL ((firstL ++ [84]) ++ sz) 11 13 = cutL sz 2 4 := by simp [cutL, firstL]
    have e4 : ((firstL ++ [84]) ++ sz).drop 13 = sz.drop 4 := by simp [firstL]
    rw [e1, e2, e3, e4, rd_zero]
    simp [h]
  · rw [if_neg (fun k => h k.1)]
    exact rdStamp_len (by rw [List.length_append]; simp [firstL]; omega)
theorem stamp_zero {m : Nat} (h : m < 86400) : stampT (m : Int) = (firstL ++ [84]) ++ (padT 2 (m / 3600) ++ (padT 2 (m / 60 % 60) ++ padT 2 (m % 60))) := by
  unfold stampT
  rw [if_pos (by rw [inD_iff]; omega), show (m : Int) / 86400 = 0 by omega, day_zero, show ((m : Int) % 86400).toNat = m by omega]
  simp [clkT]

/-- A byte as it is escaped. -/
def escB (c : UInt8) : List UInt8 := if c = 92 ∨ c = 59 ∨ c = 44 then [92, c] else if c = 10 then [92, 110] else [c]
def escL (l : List UInt8) : List UInt8 := l.flatMap escB
def unB (d : UInt8) : Option UInt8 := if d = 92 ∨ d = 59 ∨ d = 44 then some d else if d = 110 ∨ d = 78 then some 10 else none
def unescL : List UInt8 → Option (List UInt8)
  | [] => some []
  | [c] => if c = 92 then none else some [c]
  | c :: d :: l => if c = 92 then (unB d).bind fun x => (unescL l).map (x :: ·) else (unescL (d :: l)).map (c :: ·)
theorem unescL_on {c : UInt8} (h : c ≠ 92) : ∀ l, unescL (c :: l) = (unescL l).map (c :: ·)
  | [] => by simp [unescL, h]
  | d :: l => by rw [unescL, if_neg h]
theorem unesc_esc : ∀ l, unescL (escL l) = some l
  | [] => rfl
  | c :: l => by
    rw [show escL (c :: l) = escB c ++ escL l by simp [escL]]
    unfold escB
    by_cases h1 : c = 92 ∨ c = 59 ∨ c = 44
    · rw [if_pos h1]
      show unescL (92 :: c :: escL l) = _
      rw [unescL, if_pos rfl, unesc_esc l, unB, if_pos h1]
      rfl
    · rw [if_neg h1]
      by_cases h2 : c = 10
      · rw [if_pos h2]
        show unescL (92 :: 110 :: escL l) = _
        rw [unescL, if_pos rfl, unesc_esc l, h2]
        rfl
      · rw [if_neg h2]
        show unescL (c :: escL l) = _
        rw [unescL_on (fun e => h1 (.inl e)), unesc_esc l]
        rfl
theorem esc_no10 : ∀ l, (10 : UInt8) ∉ escL l
  | [] => by simp [escL]
  | c :: l => by
    rw [show escL (c :: l) = escB c ++ escL l by simp [escL]]
    intro h
    rcases List.mem_append.1 h with h | h
    · unfold escB at h
      split at h
      · rename_i h1
        rcases h1 with rfl | rfl | rfl <;> revert h <;> decide
      · split at h
        · revert h; decide
        · rename_i h2
          simp only [List.mem_singleton] at h
          exact h2 h.symm
    · exact esc_no10 l h
theorem escL_len : ∀ l, l.length ≤ (escL l).length ∧ (escL l).length ≤ 2 * l.length
  | [] => by simp [escL]
  | c :: l => by
    rw [show escL (c :: l) = escB c ++ escL l by simp [escL], List.length_append, List.length_cons]
    have := escL_len l
    have : 1 ≤ (escB c).length ∧ (escB c).length ≤ 2 := by unfold escB; repeat (first | split | simp)
    omega
end Go.Proofs.YtnidkcedomhofaaGreatDoor
