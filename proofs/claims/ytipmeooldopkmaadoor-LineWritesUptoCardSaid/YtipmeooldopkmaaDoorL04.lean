/-
  Plain mathematics of UTF-8: how a number is written, and texts of such numbers joined.
-/
import Derived.Test.YtipmeooldopkmaaDoorL03
namespace Go.Proofs.YtipmeooldopkmaaDoor

/-- Does the byte at a place go on with a number? -/
def cont (l : List UInt8) (i : Nat) : Bool := decide (128 ≤ byt l i) && decide (byt l i < 192)
/-- How many bytes the number at the beginning has; 0: none is there. -/
def runeL (l : List UInt8) : Nat :=
  if byt l 0 < 128 then 1
  else if 194 ≤ byt l 0 ∧ byt l 0 < 224 then (if cont l 1 = true then 2 else 0)
  else if 224 ≤ byt l 0 ∧ byt l 0 < 240 then (if cont l 1 = true ∧ cont l 2 = true ∧ ¬ (byt l 0 = 224 ∧ byt l 1 < 160) ∧ ¬ (byt l 0 = 237 ∧ 160 ≤ byt l 1) then 3 else 0)
  else if 240 ≤ byt l 0 ∧ byt l 0 < 245 then (if cont l 1 = true ∧ cont l 2 = true ∧ cont l 3 = true ∧ ¬ (byt l 0 = 240 ∧ byt l 1 < 144) ∧ ¬ (byt l 0 = 244 ∧ 144 ≤ byt l 1) then 4 else 0)
  else 0
theorem cont_len {l : List UInt8} {i : Nat} (h : cont l i = true) : i < l.length := by
  rcases Nat.lt_or_ge i l.length with h1 | h1
  · exact h1
  · unfold cont at h
    rw [byt_out h1] at h
    simp at h
theorem runeL_le (l : List UInt8) (h : 0 < l.length) : runeL l ≤ l.length := by
  unfold runeL
  split
  · exact h
  · split
    · split
      · rename_i hc; have := cont_len hc; omega
      · omega
    · split
      · split
        · rename_i hc; have := cont_len hc.2.1; omega
        · omega
      · split
        · split
          · rename_i hc; have := cont_len hc.2.2.1; omega
          · omega
        · omega
/-- Valid bytes. -/
def vld (l : List UInt8) : Bool :=
  if _h : l.length = 0 ∨ runeL l = 0 then decide (l.length = 0) else vld (l.drop (runeL l))
  termination_by l.length
  decreasing_by simp only [List.length_drop]; omega
theorem vld_nil : vld [] = true := by rw [vld]; simp
theorem vld_bad {l : List UInt8} (h : 0 < l.length) (hr : runeL l = 0) : vld l = false := by
  rw [vld, dif_pos (.inr hr)]
  simp; intro e; rw [e] at h; simp at h
theorem vld_step {l : List UInt8} (h : 0 < l.length) (hr : runeL l ≠ 0) : vld l = vld (l.drop (runeL l)) := by
  rw [vld, dif_neg (by omega)]
theorem byt_app {a b : List UInt8} {i : Nat} (h : i < a.length) : byt (a ++ b) i = byt a i := by
  unfold byt
  rw [List.getD_eq_getElem?_getD, List.getD_eq_getElem?_getD, List.getElem?_append_left h]
theorem runeL_app {a b : List UInt8} (h : 0 < a.length) (hr : runeL a ≠ 0) : runeL (a ++ b) = runeL a := by
  have e0 := byt_app (b := b) h
  have ec : ∀ i, cont a i = true → byt (a ++ b) i = byt a i ∧ cont (a ++ b) i = true := fun i hc => by
    have := byt_app (b := b) (cont_len hc)
    refine ⟨this, ?_⟩
    unfold cont at hc ⊢
    rw [this]; exact hc
  unfold runeL at hr ⊢
  rw [e0]
  by_cases h1 : byt a 0 < 128
  · rw [if_pos h1, if_pos h1]
  · rw [if_neg h1] at hr ⊢
    rw [if_neg h1]
    by_cases h2 : 194 ≤ byt a 0 ∧ byt a 0 < 224
    · rw [if_pos h2] at hr ⊢
      rw [if_pos h2]
      by_cases c1 : cont a 1 = true
      · rw [if_pos c1, if_pos (ec 1 c1).2]
      · rw [if_neg c1] at hr; exact absurd rfl hr
    · rw [if_neg h2] at hr ⊢
      rw [if_neg h2]
      by_cases h3 : 224 ≤ byt a 0 ∧ byt a 0 < 240
      · rw [if_pos h3] at hr ⊢
        rw [if_pos h3]
        by_cases c : cont a 1 = true ∧ cont a 2 = true ∧ ¬ (byt a 0 = 224 ∧ byt a 1 < 160) ∧ ¬ (byt a 0 = 237 ∧ 160 ≤ byt a 1)
        · rw [if_pos c, if_pos ⟨(ec 1 c.1).2, (ec 2 c.2.1).2, by rw [(ec 1 c.1).1]; exact c.2.2.1, by rw [(ec 1 c.1).1]; exact c.2.2.2⟩]
        · rw [if_neg c] at hr; exact absurd rfl hr
      · rw [if_neg h3] at hr ⊢
        rw [if_neg h3]
        by_cases h4 : 240 ≤ byt a 0 ∧ byt a 0 < 245
        · rw [if_pos h4] at hr ⊢
          rw [if_pos h4]
          by_cases c : cont a 1 = true ∧ cont a 2 = true ∧ cont a 3 = true ∧ ¬ (byt a 0 = 240 ∧ byt a 1 < 144) ∧ ¬ (byt a 0 = 244 ∧ 144 ≤ byt a 1)
          · rw [if_pos c, if_pos ⟨(ec 1 c.1).2, (ec 2 c.2.1).2, (ec 3 c.2.2.1).2, by rw [(ec 1 c.1).1]; exact c.2.2.2.1, by rw [(ec 1 c.1).1]; exact c.2.2.2.2⟩]
          · rw [if_neg c] at hr; exact absurd rfl hr
        · rw [if_neg h4] at hr; exact absurd rfl hr
theorem vld_app (n : Nat) : ∀ a b : List UInt8, a.length ≤ n → vld a = true → vld b = true → vld (a ++ b) = true := by
  induction n with
  | zero =>
    intro a b hl ha hb
    obtain rfl := List.eq_nil_of_length_eq_zero (show a.length = 0 by omega)
    exact hb
  | succ n ih =>
    intro a b hl ha hb
    by_cases h0 : a.length = 0
    · obtain rfl := List.eq_nil_of_length_eq_zero h0
      exact hb
    · by_cases hr : runeL a = 0
      · rw [vld_bad (by omega) hr] at ha; cases ha
      · have hle := runeL_le a (by omega)
        rw [vld_step (by omega) hr] at ha
        rw [vld_step (by rw [List.length_append]; omega) (by rw [runeL_app (by omega) hr]; exact hr), runeL_app (by omega) hr, List.drop_append_of_le_length hle]
        exact ih _ _ (by rw [List.length_drop]; omega) ha hb

/-- The program's own: a number by its form. -/
def valN (l : List UInt8) (M : Nat) : Nat → Nat
  | 0 => byt l 0 % M
  | k + 1 => valN l M k * 64 + byt l (1 + k) % 64
def conts (l : List UInt8) : Nat → Bool
  | 0 => true
  | k + 1 => conts l k && cont l (1 + k)
def surr (v : Nat) : Bool := decide (v < 55296) || decide (57343 < v)
def begF (h M lo hi : Nat) (l : List UInt8) (more : Nat) : Bool :=
  decide (byt l 0 - byt l 0 % M = h) && decide (more < l.length) && conts l more && (decide (lo ≤ valN l M more) && decide (valN l M more ≤ hi) && surr (valN l M more))
def formH : Nat → Nat
  | 0 => 0
  | 1 => 192
  | 2 => 224
  | _ => 240
def formM : Nat → Nat
  | 0 => 128
  | 1 => 32
  | 2 => 16
  | _ => 8
def formLo : Nat → Nat
  | 0 => 0
  | 1 => 128
  | 2 => 2048
  | _ => 65536
def formHi : Nat → Nat
  | 0 => 127
  | 1 => 2047
  | 2 => 65535
  | _ => 1114111
def begK (l : List UInt8) (k : Nat) : Bool := begF (formH k) (formM k) (formLo k) (formHi k) l k
theorem cont_iff (l : List UInt8) (i : Nat) : cont l i = true ↔ 128 ≤ byt l i ∧ byt l i < 192 := by simp [cont]
theorem surr_iff (v : Nat) : surr v = true ↔ v < 55296 ∨ 57343 < v := by simp [surr]
theorem begK_iff (l : List UInt8) (hl : 0 < l.length) (k : Nat) (hk : k < 4) : begK l k = true ↔ runeL l = k + 1 := by
  have b0 := byt_lt l 0
  have b1 := byt_lt l 1
  have b2 := byt_lt l 2
  have b3 := byt_lt l 3
  rcases (show k = 0 ∨ k = 1 ∨ k = 2 ∨ k = 3 by omega) with rfl | rfl | rfl | rfl
  · simp only [begK, begF, formH, formM, formLo, formHi, valN, conts, Bool.and_eq_true, decide_eq_true_eq, surr_iff, Bool.and_true]
    unfold runeL
    constructor
    · intro h
      rw [if_pos (by omega)]
    · intro h
      by_cases h1 : byt l 0 < 128
      · omega
      · exfalso
        rw [if_neg h1] at h
        repeat' split at h
        all_goals omega
  · simp only [begK, begF, formH, formM, formLo, formHi, valN, conts, Bool.and_eq_true, decide_eq_true_eq, surr_iff, Bool.true_and, Nat.add_zero]
    unfold runeL
    constructor
    · rintro ⟨⟨⟨h1, h2⟩, h3⟩, h4⟩
      have c1 := (cont_iff l 1).1 h3
      rw [if_neg (by omega), if_pos (by omega), if_pos h3]
    · intro h
      by_cases h1 : byt l 0 < 128
      · rw [if_pos h1] at h; omega
      · rw [if_neg h1] at h
        by_cases h2 : 194 ≤ byt l 0 ∧ byt l 0 < 224
        · rw [if_pos h2] at h
          by_cases c1 : cont l 1 = true
          · have c1' := (cont_iff l 1).1 c1
            have := cont_len c1
            refine ⟨⟨⟨by omega, by omega⟩, c1⟩, by omega⟩
          · rw [if_neg c1] at h; omega
        · exfalso
          rw [if_neg h2] at h
          repeat' split at h
          all_goals omega
  · simp only [begK, begF, formH, formM, formLo, formHi, valN, conts, Bool.and_eq_true, decide_eq_true_eq, surr_iff, Bool.true_and, Nat.add_zero, Nat.reduceAdd]
    unfold runeL
    constructor
    · rintro ⟨⟨⟨h1, h2⟩, h3, h3'⟩, h4⟩
      have c1 := (cont_iff l 1).1 h3
      have c2 := (cont_iff l 2).1 h3'
      rw [if_neg (by omega), if_neg (by omega), if_pos (by omega), if_pos ⟨h3, h3', by omega, by omega⟩]
    · intro h
      by_cases h1 : byt l 0 < 128
      · rw [if_pos h1] at h; omega
      · rw [if_neg h1] at h
        by_cases h2 : 194 ≤ byt l 0 ∧ byt l 0 < 224
        · exfalso
          rw [if_pos h2] at h
          split at h <;> omega
        · rw [if_neg h2] at h
          by_cases h3 : 224 ≤ byt l 0 ∧ byt l 0 < 240
          · rw [if_pos h3] at h
            by_cases c : cont l 1 = true ∧ cont l 2 = true ∧ ¬ (byt l 0 = 224 ∧ byt l 1 < 160) ∧ ¬ (byt l 0 = 237 ∧ 160 ≤ byt l 1)
            · have c1 := (cont_iff l 1).1 c.1
              have c2 := (cont_iff l 2).1 c.2.1
              have := cont_len c.2.1
              refine ⟨⟨⟨by omega, by omega⟩, c.1, c.2.1⟩, by omega⟩
            · rw [if_neg c] at h; omega
          · exfalso
            rw [if_neg h3] at h
            repeat' split at h
            all_goals omega
  · simp only [begK, begF, formH, formM, formLo, formHi, valN, conts, Bool.and_eq_true, decide_eq_true_eq, surr_iff, Bool.true_and, Nat.add_zero, Nat.reduceAdd]
    unfold runeL
    constructor
    · rintro ⟨⟨⟨h1, h2⟩, ⟨h3, h3'⟩, h3''⟩, h4⟩
      have c1 := (cont_iff l 1).1 h3
      have c2 := (cont_iff l 2).1 h3'
      have c3 := (cont_iff l 3).1 h3''
      rw [if_neg (by omega), if_neg (by omega), if_neg (by omega), if_pos (by omega), if_pos ⟨h3, h3', h3'', by omega, by omega⟩]
    · intro h
      by_cases h1 : byt l 0 < 128
      · rw [if_pos h1] at h; omega
      · rw [if_neg h1] at h
        by_cases h2 : 194 ≤ byt l 0 ∧ byt l 0 < 224
        · exfalso
          rw [if_pos h2] at h
          split at h <;> omega
        · rw [if_neg h2] at h
          by_cases h3 : 224 ≤ byt l 0 ∧ byt l 0 < 240
          · exfalso
            rw [if_pos h3] at h
            split at h <;> omega
          · rw [if_neg h3] at h
            by_cases h4 : 240 ≤ byt l 0 ∧ byt l 0 < 245
            · rw [if_pos h4] at h
              by_cases c : cont l 1 = true ∧ cont l 2 = true ∧ cont l 3 = true ∧ ¬ (byt l 0 = 240 ∧ byt l 1 < 144) ∧ ¬ (byt l 0 = 244 ∧ 144 ≤ byt l 1)
              · have c1 := (cont_iff l 1).1 c.1
                have c2 := (cont_iff l 2).1 c.2.1
                have c3 := (cont_iff l 3).1 c.2.2.1
                have := cont_len c.2.2.1
                refine ⟨⟨⟨by omega, by omega⟩, ⟨c.1, c.2.1⟩, c.2.2.1⟩, by omega⟩
              · rw [if_neg c] at h; omega
            · exfalso
              rw [if_neg h4] at h
              omega
theorem runeL_lt (l : List UInt8) : runeL l ≤ 4 := by
  unfold runeL
  repeat' split
  all_goals omega
end Go.Proofs.YtipmeooldopkmaaDoor
