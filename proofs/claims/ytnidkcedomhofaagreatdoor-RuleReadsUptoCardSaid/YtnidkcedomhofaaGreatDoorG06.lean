/-
  Plain mathematics for layer 13 (value): durations as a machine over parts, and as the document reads them.
-/
import Derived.Test.YtnidkcedomhofaaGreatDoorG05
namespace Go.Proofs.YtnidkcedomhofaaGreatDoor
open Go.RowKit

/-- The digits that a text begins with, and what stands behind them. -/
def spanD : List UInt8 → List UInt8 × List UInt8
  | [] => ([], [])
  | c :: l => if digN c.toNat = true then (c :: (spanD l).1, (spanD l).2) else ([], c :: l)
theorem spanD_app : ∀ l, (spanD l).1 ++ (spanD l).2 = l
  | [] => rfl
  | c :: l => by
    rw [spanD]
    split
    · simp [spanD_app l]
    · rfl
theorem spanD_head : ∀ l c r, (spanD l).2 = c :: r → digN c.toNat = false
  | [], c, r, h => by cases h
  | b :: l, c, r, h => by
    rw [spanD] at h
    split at h
    · exact spanD_head l c r h
    · rename_i hb
      injection h with h1 h2
      subst h1
      simpa using hb
theorem spanD_digs : ∀ l, ∀ c ∈ (spanD l).1, digN c.toNat = true
  | [], c, h => by cases h
  | b :: l, c, h => by
    rw [spanD] at h
    split at h
    · rename_i hb
      rcases List.mem_cons.1 h with rfl | h
      · exact hb
      · exact spanD_digs l c h
    · cases h
theorem spanD_of : ∀ (ds r : List UInt8), (∀ c ∈ ds, digN c.toNat = true) → (∀ c r', r = c :: r' → digN c.toNat = false) → spanD (ds ++ r) = (ds, r)
  | [], r, _, h2 => by
    cases r with
    | nil => rfl
    | cons c r' => simp [spanD, h2 c r' rfl]
  | d :: ds, r, h1, h2 => by
    rw [List.cons_append, spanD, if_pos (h1 d (by simp)), spanD_of ds r (fun c hc => h1 c (by simp [hc])) h2]
theorem spanD_len (l : List UInt8) : (spanD l).1.length + (spanD l).2.length = l.length := by
  have := congrArg List.length (spanD_app l)
  rwa [List.length_append] at this
theorem numL_digs : ∀ (l : List UInt8) (n : Nat), (∀ c ∈ l, digN c.toNat = true) → ∃ v, numL l n = some v
  | [], n, _ => ⟨n, rfl⟩
  | c :: l, n, h => by
    rw [numL, if_pos (h c (by simp))]
    exact numL_digs l _ (fun d hd => h d (by simp [hd]))
/-- What digits mean. -/
def valD (ds : List UInt8) : Int := (numV ds 9999999).1
theorem numV_digs {ds : List UInt8} (h : ∀ c ∈ ds, digN c.toNat = true) (h1 : ds ≠ []) (h2 : ds.length ≤ 7) {most : Int} (hm : 9999999 ≤ most) : numV ds most = (valD ds, true) ∧ 0 ≤ valD ds ∧ valD ds ≤ 9999999 := by
  obtain ⟨v, hv⟩ := numL_digs ds 0 h
  obtain ⟨_, hb⟩ := pad_numL ds.length ds v rfl hv
  have hb7 : v < 10 ^ 7 := Nat.lt_of_lt_of_le hb (Nat.pow_le_pow_right (by omega) h2)
  have hx : ¬ (ds = [] ∨ 18 < ds.length) := fun hx => hx.elim h1 (fun k => by omega)
  unfold valD numV
  rw [if_neg hx, if_neg hx, hv]
  simp only
  rw [if_neg (by omega), if_neg (by omega)]
  exact ⟨rfl, by simp only; omega, by simp only; omega⟩
/-- A number and its letter, and what stands behind. -/
def numR (l : List UInt8) (c : UInt8) : Option (Int × List UInt8) :=
  match (spanD l).2 with
  | [] => none
  | x :: r => if (spanD l).1 ≠ [] ∧ (spanD l).1.length ≤ 7 ∧ x = c then some (valD (spanD l).1, r) else none
theorem numR_bound {l r : List UInt8} {c : UInt8} {v : Int} (h : numR l c = some (v, r)) : 0 ≤ v ∧ v ≤ 9999999 ∧ r.length < l.length := by
  unfold numR at h
  have hl := spanD_len l
  cases hs : (spanD l).2 with
  | nil => rw [hs] at h; cases h
  | cons x r' =>
    rw [hs] at h hl
    simp only at h
    split at h
    · rename_i hx
      simp only [Option.some.injEq, Prod.mk.injEq] at h
      obtain ⟨rfl, rfl⟩ := h
      obtain ⟨_, a, b⟩ := numV_digs (spanD_digs l) hx.1 hx.2.1 (Int.le_refl _)
      exact ⟨a, b, by rw [List.length_cons] at hl; omega⟩
    · cases h

/-- The parts, each with the digits ahead of it; at the end digits that no letter follows, with 0 for it. -/
def partsA : List UInt8 → List UInt8 → List (UInt8 × List UInt8)
  | acc, [] => if acc = [] then [] else [(0, acc)]
  | acc, c :: l => if digN c.toNat = true then partsA (acc ++ [c]) l else (c, acc) :: partsA [] l
theorem partsA_span : ∀ (l acc : List UInt8), partsA acc l = match (spanD l).2 with
    | [] => if acc ++ (spanD l).1 = [] then [] else [(0, acc ++ (spanD l).1)]
    | x :: r => (x, acc ++ (spanD l).1) :: partsA [] r
  | [], acc => by simp [partsA, spanD]
  | c :: l, acc => by
    rw [partsA]
    by_cases h : digN c.toNat = true
    · have e : spanD (c :: l) = (c :: (spanD l).1, (spanD l).2) := by rw [spanD, if_pos h]
      rw [if_pos h, partsA_span l, e]
      simp only [List.append_assoc, List.singleton_append]
    · have e : spanD (c :: l) = ([], c :: l) := by rw [spanD, if_neg h]
      rw [if_neg h, e]
      simp
/-- How many seconds a part's letter means; 0: no number stands ahead of it. -/
def unitP (c : UInt8) : Int := if c = 87 then 604800 else if c = 68 then 86400 else if c = 72 then 3600 else if c = 77 then 60 else if c = 83 then 1 else 0
/-- What a part may stand behind. -/
def behP (c : UInt8) : List UInt8 := if c = 87 then [80] else if c = 68 then [80] else if c = 84 then [80, 68] else if c = 72 then [84] else if c = 77 then [84, 72] else if c = 83 then [84, 77] else []
def cntP (c : UInt8) (ah : List UInt8) : Int × Bool := if unitP c = 0 then (0, decide (ah = [])) else ((numV ah 9223372036854775807).1, (numV ah 9223372036854775807).2 && decide (ah.length ≤ 7))
def stepP (st : UInt8 × Int) (x : UInt8 × List UInt8) : Option (UInt8 × Int) := if (cntP x.1 x.2).2 = true ∧ st.1 ∈ behP x.1 then some (x.1, st.2 + (cntP x.1 x.2).1 * unitP x.1) else none
def runP : UInt8 × Int → List (UInt8 × List UInt8) → Option (UInt8 × Int)
  | st, [] => some st
  | st, x :: xs => (stepP st x).bind fun s => runP s xs
theorem runP_app : ∀ (a b : List (UInt8 × List UInt8)) (st : UInt8 × Int), runP st (a ++ b) = (runP st a).bind fun s => runP s b
  | [], b, st => rfl
  | x :: a, b, st => by
    rw [List.cons_append, runP, runP]
    cases stepP st x with
    | none => rfl
    | some s => exact runP_app a b s
def finP (st : UInt8 × Int) : Option Int := if unitP st.1 = 0 then none else some st.2
def goP (c : UInt8) (a : Int) (l : List UInt8) : Option Int := (runP (c, a) (partsA [] l)).bind finP
theorem stepP_no {st : UInt8 × Int} {x : UInt8 × List UInt8} (h : st.1 ∉ behP x.1) : stepP st x = none := by unfold stepP; rw [if_neg (fun k => h k.2)]
theorem stepP_num {c x : UInt8} {a : Int} {ds : List UInt8} (h : unitP x ≠ 0) (hc : c ∈ behP x) (hd : ∀ c ∈ ds, digN c.toNat = true) : stepP (c, a) (x, ds) = if ds ≠ [] ∧ ds.length ≤ 7 then some (x, a + valD ds * unitP x) else none := by
  unfold stepP cntP
  simp only [if_neg h]
  by_cases h1 : ds ≠ [] ∧ ds.length ≤ 7
  · obtain ⟨e, _, _⟩ := numV_digs hd h1.1 h1.2 (most := 9223372036854775807) (by decide)
    rw [if_pos h1, e, if_pos ⟨by simp [h1.2], hc⟩]
  · rw [if_neg h1, if_neg]
    rintro ⟨k, _⟩
    apply h1
    rw [Bool.and_eq_true, decide_eq_true_iff] at k
    exact ⟨fun e => by subst e; simp [numV] at k, k.2⟩
theorem goP_eq (c : UInt8) (a : Int) (l : List UInt8) : goP c a l = match (spanD l).2 with
    | [] => if (spanD l).1 = [] then finP (c, a) else none
    | x :: r => (stepP (c, a) (x, (spanD l).1)).bind fun st => goP st.1 st.2 r := by
  unfold goP
  rw [partsA_span l []]
  cases h : (spanD l).2 with
  | nil =>
    simp only [List.nil_append]
    by_cases h1 : (spanD l).1 = []
    · rw [if_pos h1, if_pos h1]; rfl
    · rw [if_neg h1, if_neg h1, runP, stepP_no (by simp [behP])]; rfl
  | cons x r =>
    simp only [List.nil_append, runP]
    cases stepP (c, a) (x, (spanD l).1) <;> rfl
theorem span_nil {l : List UInt8} (h1 : (spanD l).2 = []) (h2 : (spanD l).1 = []) : l = [] := by
  have := spanD_app l
  rw [h1, h2] at this
  exact this.symm
theorem span_ne {l : List UInt8} {x : UInt8} {r : List UInt8} (h1 : (spanD l).2 = x :: r) : l ≠ [] := by
  rintro rfl
  cases h1
/-- Ahead of the end: the parts whose letter may come. -/
theorem goP_none {c : UInt8} {a : Int} (hb : ∀ x, c ∉ behP x) (l : List UInt8) : goP c a l = if l = [] then finP (c, a) else none := by
  rw [goP_eq]
  cases h : (spanD l).2 with
  | nil =>
    simp only
    by_cases h1 : (spanD l).1 = []
    · rw [if_pos h1, if_pos (span_nil h h1)]
    · rw [if_neg h1, if_neg]; rintro rfl; exact h1 rfl
  | cons x r => simp only; rw [stepP_no (hb x), if_neg (span_ne h)]; rfl
theorem beh80 (x : UInt8) : (80 : UInt8) ∈ behP x ↔ x = 87 ∨ x = 68 ∨ x = 84 := by unfold behP; repeat (first | split | simp_all)
theorem beh68 (x : UInt8) : (68 : UInt8) ∈ behP x ↔ x = 84 := by unfold behP; repeat (first | split | simp_all)
theorem beh84 (x : UInt8) : (84 : UInt8) ∈ behP x ↔ x = 72 ∨ x = 77 ∨ x = 83 := by unfold behP; repeat (first | split | simp_all)
theorem beh72 (x : UInt8) : (72 : UInt8) ∈ behP x ↔ x = 77 := by unfold behP; repeat (first | split | simp_all)
theorem beh77 (x : UInt8) : (77 : UInt8) ∈ behP x ↔ x = 83 := by unfold behP; repeat (first | split | simp_all)
theorem beh87 (x : UInt8) : (87 : UInt8) ∉ behP x := by unfold behP; repeat (first | split | simp_all)
theorem beh83 (x : UInt8) : (83 : UInt8) ∉ behP x := by unfold behP; repeat (first | split | simp_all)
theorem goS (a : Int) (l : List UInt8) : goP 83 a l = if l = [] then some a else none := goP_none beh83 l
theorem goW (a : Int) (l : List UInt8) : goP 87 a l = if l = [] then some a else none := goP_none beh87 l
/-- A part with a number. -/
theorem go_num {c x : UInt8} {a : Int} {l : List UInt8} (h : unitP x ≠ 0) (hc : c ∈ behP x) {v : Int} {r : List UInt8} (hn : numR l x = some (v, r)) : goP c a l = goP x (a + v * unitP x) r := by
  rw [goP_eq]
  unfold numR at hn
  cases hs : (spanD l).2 with
  | nil => rw [hs] at hn; cases hn
  | cons y r' =>
    rw [hs] at hn
    simp only at hn ⊢
    split at hn
    · rename_i hx
      obtain ⟨h1, h2, rfl⟩ := hx
      simp only [Option.some.injEq, Prod.mk.injEq] at hn
      obtain ⟨rfl, rfl⟩ := hn
      rw [stepP_num h hc (spanD_digs l), if_pos ⟨h1, h2⟩]
      rfl
    · cases hn
/-- No part that may come. -/
theorem go_bad {c : UInt8} {a : Int} {l : List UInt8} (hl : l ≠ []) (h : ∀ x, c ∈ behP x → (unitP x ≠ 0 ∧ numR l x = none) ∨ (unitP x = 0 ∧ ∀ r, l ≠ x :: r)) : goP c a l = none := by
  rw [goP_eq]
  cases hs : (spanD l).2 with
  | nil =>
    simp only
    rw [if_neg (fun h1 => hl (span_nil hs h1))]
  | cons x r =>
    simp only
    by_cases hc : c ∈ behP x
    · rcases h x hc with ⟨hu, hn⟩ | ⟨hu, hn⟩
      · rw [stepP_num hu hc (spanD_digs l)]
        unfold numR at hn
        rw [hs] at hn
        simp only at hn
        split at hn
        · cases hn
        · rename_i hx
          rw [if_neg (fun k : (spanD l).1 ≠ [] ∧ (spanD l).1.length ≤ 7 => hx ⟨k.1, k.2, by trivial⟩)]
          rfl
      · unfold stepP cntP
        simp only [if_pos hu]
        rw [if_neg]
        · rfl
        · rintro ⟨k, _⟩
          have e := spanD_app l
          rw [hs, (by simpa using k : (spanD l).1 = [])] at e
          exact hn r e.symm
    · rw [stepP_no hc]; rfl
theorem go_T {c : UInt8} {a : Int} (hc : c = 80 ∨ c = 68) (r : List UInt8) : goP c a (84 :: r) = goP 84 a r := by
  rw [goP_eq]
  have e : spanD (84 :: r) = ([], 84 :: r) := by simp [spanD, digN]
  rw [e]
  simp only
  rcases hc with rfl | rfl <;> simp [stepP, cntP, unitP, behP]
theorem goM (a : Int) (l : List UInt8) : goP 77 a l = if l = [] then some a else match numR l 83 with | some (v, r) => if r = [] then some (a + v) else none | none => none := by
  by_cases hl : l = []
  · subst hl; rfl
  · rw [if_neg hl]
    cases h : numR l 83 with
    | none => exact go_bad hl fun x hx => by obtain rfl := (beh77 x).1 hx; exact .inl ⟨by decide, h⟩
    | some p =>
      obtain ⟨v, r⟩ := p
      rw [go_num (by decide) ((beh77 83).2 rfl) h, goS]
      rw [show unitP 83 = 1 by rfl, Int.mul_one]
theorem goH (a : Int) (l : List UInt8) : goP 72 a l = if l = [] then some a else match numR l 77 with | some (v, r) => goP 77 (a + v * 60) r | none => none := by
  by_cases hl : l = []
  · subst hl; rfl
  · rw [if_neg hl]
    cases h : numR l 77 with
    | none => exact go_bad hl fun x hx => by obtain rfl := (beh72 x).1 hx; exact .inl ⟨by decide, h⟩
    | some p =>
      obtain ⟨v, r⟩ := p
      exact go_num (by decide) ((beh72 77).2 rfl) h
theorem goT (a : Int) (l : List UInt8) : goP 84 a l = match numR l 72 with
    | some (v, r) => goP 72 (a + v * 3600) r
    | none => match numR l 77 with
      | some (v, r) => goP 77 (a + v * 60) r
      | none => match numR l 83 with | some (v, r) => if r = [] then some (a + v) else none | none => none := by
  by_cases hl : l = []
  · subst hl; rfl
  · cases h : numR l 72 with
    | some p =>
      obtain ⟨v, r⟩ := p
      exact go_num (by decide) ((beh84 72).2 (by simp)) h
    | none =>
      cases h2 : numR l 77 with
      | some p =>
        obtain ⟨v, r⟩ := p
        exact go_num (by decide) ((beh84 77).2 (by simp)) h2
      | none =>
        cases h3 : numR l 83 with
        | some p =>
          obtain ⟨v, r⟩ := p
          simp only
          rw [go_num (by decide) ((beh84 83).2 (by simp)) h3, goS, show unitP 83 = 1 by rfl, Int.mul_one]
        | none => exact go_bad hl fun x hx => by rcases (beh84 x).1 hx with rfl | rfl | rfl <;> exact .inl ⟨by decide, by assumption⟩
theorem goD (a : Int) (l : List UInt8) : goP 68 a l = if l = [] then some a else match l with | 84 :: r => goP 84 a r | _ => none := by
  by_cases hl : l = []
  · subst hl; rfl
  · rw [if_neg hl]
    split
    · exact go_T (.inr rfl) _
    · rename_i hn
      exact go_bad hl fun x hx => by obtain rfl := (beh68 x).1 hx; exact .inr ⟨by decide, fun r e => hn r e⟩
theorem goPP (a : Int) (l : List UInt8) : goP 80 a l = match numR l 87 with
    | some (v, r) => if r = [] then some (a + v * 604800) else none
    | none => match numR l 68 with
      | some (v, r) => goP 68 (a + v * 86400) r
      | none => match l with | 84 :: r => goP 84 a r | _ => none := by
  by_cases hl : l = []
  · subst hl; rfl
  · cases h : numR l 87 with
    | some p =>
      obtain ⟨v, r⟩ := p
      simp only
      rw [go_num (by decide) ((beh80 87).2 (by simp)) h, goW]
      rfl
    | none =>
      cases h2 : numR l 68 with
      | some p =>
        obtain ⟨v, r⟩ := p
        exact go_num (by decide) ((beh80 68).2 (by simp)) h2
      | none =>
        simp only
        split
        · exact go_T (.inl rfl) _
        · rename_i hn
          exact go_bad hl fun x hx => by
            rcases (beh80 x).1 hx with rfl | rfl | rfl
            · exact .inl ⟨by decide, h⟩
            · exact .inl ⟨by decide, h2⟩
            · exact .inr ⟨by decide, fun r e => hn r e⟩
/-- How far the machine has come: a letter's place. -/
def rkP (c : UInt8) : Int := if c = 68 then 1 else if c = 84 then 2 else if c = 72 then 3 else if c = 77 then 4 else if c = 83 then 5 else if c = 87 then 5 else 0
theorem stepP_bound {c : UInt8} {a : Int} {x : UInt8 × List UInt8} {s : UInt8 × Int} (h : stepP (c, a) x = some s) (ha : 0 ≤ a ∧ a ≤ rkP c * 6048000000000) (hd : ∀ c ∈ x.2, digN c.toNat = true) :
    0 ≤ s.2 ∧ s.2 ≤ rkP s.1 * 6048000000000 ∧ (0 ≤ (cntP x.1 x.2).1 ∧ (cntP x.1 x.2).1 ≤ 9999999) := by
  unfold stepP at h
  split at h
  · rename_i hx
    obtain ⟨h1, h2⟩ := hx
    simp only [Option.some.injEq] at h
    subst h
    have hv : 0 ≤ (cntP x.1 x.2).1 ∧ (cntP x.1 x.2).1 ≤ 9999999 := by
      unfold cntP at h1 ⊢
      split
      · simp
      · rename_i hu
        rw [if_neg hu, Bool.and_eq_true, decide_eq_true_iff] at h1
        have hne : x.2 ≠ [] := fun e => by rw [e] at h1; simp [numV] at h1
        obtain ⟨e, b1, b2⟩ := numV_digs hd hne h1.2 (most := 9223372036854775807) (by decide)
        rw [e]; exact ⟨b1, b2⟩
    refine ⟨?_, ?_, hv⟩
    · simp only
      have : 0 ≤ unitP x.1 := by unfold unitP; repeat (first | split | omega)
      have := Int.mul_nonneg hv.1 this
      omega
    · simp only at h2 ⊢
      generalize (cntP x.1 x.2).1 = q at hv ⊢
      unfold behP at h2
      unfold unitP
      by_cases e1 : x.1 = 87
      · simp [e1] at h2 ⊢; subst h2; rw [show rkP 80 = 0 by rfl] at ha; rw [show rkP 87 = 5 by rfl]; omega
      by_cases e2 : x.1 = 68
      · simp [e2] at h2 ⊢; subst h2; rw [show rkP 80 = 0 by rfl] at ha; rw [show rkP 68 = 1 by rfl]; omega
      by_cases e3 : x.1 = 84
      · simp [e3] at h2 ⊢
        rw [show rkP 84 = 2 by rfl]
        rcases h2 with rfl | rfl
        · rw [show rkP 80 = 0 by rfl] at ha; omega
        · rw [show rkP 68 = 1 by rfl] at ha; omega
      by_cases e4 : x.1 = 72
      · simp [e4] at h2 ⊢; subst h2; rw [show rkP 84 = 2 by rfl] at ha; rw [show rkP 72 = 3 by rfl]; omega
      by_cases e5 : x.1 = 77
      · simp [e5] at h2 ⊢
        rw [show rkP 77 = 4 by rfl]
        rcases h2 with rfl | rfl
        · rw [show rkP 84 = 2 by rfl] at ha; omega
        · rw [show rkP 72 = 3 by rfl] at ha; omega
      by_cases e6 : x.1 = 83
      · simp [e6] at h2 ⊢
        rw [show rkP 83 = 5 by rfl]
        rcases h2 with rfl | rfl
        · rw [show rkP 84 = 2 by rfl] at ha; omega
        · rw [show rkP 77 = 4 by rfl] at ha; omega
      simp [e1, e2, e3, e4, e5, e6] at h2
  · cases h
end Go.Proofs.YtnidkcedomhofaaGreatDoor
