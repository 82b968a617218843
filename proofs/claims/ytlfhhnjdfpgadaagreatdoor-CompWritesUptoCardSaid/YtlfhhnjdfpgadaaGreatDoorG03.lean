/-
  Plain mathematics of base 64: sextets, their letters, and what can be taken back.
-/
import Derived.Test.YtlfhhnjdfpgadaaGreatDoorG02
import Derived.Lib.Bytealg
namespace Go.Proofs.YtlfhhnjdfpgadaaGreatDoor

/-- The letters. -/
def letters : List UInt8 := [65, 66, 67, 68, 69, 70, 71, 72, 73, 74, 75, 76, 77, 78, 79, 80, 81, 82, 83, 84, 85, 86, 87, 88, 89, 90, 97, 98, 99, 100, 101, 102, 103, 104, 105, 106, 107, 108, 109, 110, 111, 112, 113, 114, 115, 116, 117, 118, 119, 120, 121, 122, 48, 49, 50, 51, 52, 53, 54, 55, 56, 57, 43, 47]
def letter (v : Nat) : UInt8 := letters.getD v 0
/-- The byte at a place, as a number; behind the end: 0. -/
def byt (l : List UInt8) (i : Nat) : Nat := (l.getD i 0).toNat
theorem byt_lt (l : List UInt8) (i : Nat) : byt l i < 256 := (l.getD i 0).toNat_lt
theorem byt_out {l : List UInt8} {i : Nat} (h : l.length ≤ i) : byt l i = 0 := by
  unfold byt
  rw [List.getD_eq_getElem?_getD, List.getElem?_eq_none h]; rfl
/-- The sextet number m. -/
def yAt (l : List UInt8) (m : Nat) : Nat :=
  if m % 4 = 0 then byt l (3 * (m / 4)) / 4
  else if m % 4 = 1 then byt l (3 * (m / 4)) % 4 * 16 + byt l (3 * (m / 4) + 1) / 16
  else if m % 4 = 2 then byt l (3 * (m / 4) + 1) % 16 * 4 + byt l (3 * (m / 4) + 2) / 64
  else byt l (3 * (m / 4) + 2) % 64
theorem yAt_lt (l : List UInt8) (m : Nat) : yAt l m < 64 := by
  have h1 := byt_lt l (3 * (m / 4))
  have h2 := byt_lt l (3 * (m / 4) + 1)
  have h3 := byt_lt l (3 * (m / 4) + 2)
  unfold yAt
  split
  · omega
  · split
    · omega
    · split <;> omega
theorem y0 (l : List UInt8) (q : Nat) : yAt l (4 * q) = byt l (3 * q) / 4 := by
  unfold yAt
  rw [if_pos (by omega), show 4 * q / 4 = q by omega]
theorem y1 (l : List UInt8) (q : Nat) : yAt l (4 * q + 1) = byt l (3 * q) % 4 * 16 + byt l (3 * q + 1) / 16 := by
  unfold yAt
  rw [if_neg (by omega), if_pos (by omega), show (4 * q + 1) / 4 = q by omega]
theorem y2 (l : List UInt8) (q : Nat) : yAt l (4 * q + 2) = byt l (3 * q + 1) % 16 * 4 + byt l (3 * q + 2) / 64 := by
  unfold yAt
  rw [if_neg (by omega), if_neg (by omega), if_pos (by omega), show (4 * q + 2) / 4 = q by omega]
theorem y3 (l : List UInt8) (q : Nat) : yAt l (4 * q + 3) = byt l (3 * q + 2) % 64 := by
  unfold yAt
  rw [if_neg (by omega), if_neg (by omega), if_neg (by omega), show (4 * q + 3) / 4 = q by omega]
/-- How many sextets. -/
def cnt (n : Nat) : Nat := (8 * n + 5) / 6
/-- How many letters, padding and all. -/
def full (n : Nat) : Nat := 4 * ((n + 2) / 3)
/-- The letter number m. -/
def b64At (l : List UInt8) (m : Nat) : UInt8 := if m < cnt l.length then letter (yAt l m) else 61
def b64 (l : List UInt8) : List UInt8 := (List.range (full l.length)).map (b64At l)
theorem b64_length (l : List UInt8) : (b64 l).length = full l.length := by simp [b64]
theorem b64_get {l : List UInt8} {m : Nat} (h : m < full l.length) : (b64 l).getD m 0 = b64At l m := by
  simp [b64, List.getD_eq_getElem?_getD, h]
theorem cnt_full (n : Nat) : cnt n ≤ full n ∧ full n < cnt n + 4 := by unfold cnt full; omega
theorem letter_table : ∀ v : Fin 64, letter v.val ≠ 61 ∧ Lib.indexByte letters (letter v.val) = v.val := by decide +kernel
theorem letter_ne {v : Nat} (h : v < 64) : letter v ≠ 61 := (letter_table ⟨v, h⟩).1
theorem letter_index {v : Nat} (h : v < 64) : Lib.indexByte letters (letter v) = v := (letter_table ⟨v, h⟩).2
theorem letter_inj {v w : Nat} (hv : v < 64) (hw : w < 64) (h : letter v = letter w) : v = w := by
  have h1 := letter_index hv
  have h2 := letter_index hw
  rw [h, h2] at h1
  omega
/-- What a letter means; below 0: it is none. -/
theorem index_table : ∀ x : Fin 256, Lib.indexByte letters (UInt8.ofNat x.val) < 64 ∧ -1 ≤ Lib.indexByte letters (UInt8.ofNat x.val) ∧ (0 ≤ Lib.indexByte letters (UInt8.ofNat x.val) → x.val ≠ 61) := by decide +kernel
theorem index_at (c : UInt8) : Lib.indexByte letters c < 64 ∧ -1 ≤ Lib.indexByte letters c := by
  have := index_table ⟨c.toNat, c.toNat_lt⟩
  simp only [UInt8.ofNat_toNat] at this
  exact ⟨this.1, this.2.1⟩

/-- Two texts of one length with the same sextets are one. -/
theorem byt_of {x y : List UInt8} (hl : x.length = y.length) (h : ∀ i, i < x.length → byt x i = byt y i) : x = y := by
  refine List.ext_getElem hl fun i h1 h2 => ?_
  have := h i h1
  unfold byt at this
  rw [List.getD_eq_getElem?_getD, List.getD_eq_getElem?_getD, List.getElem?_eq_getElem h1, List.getElem?_eq_getElem h2] at this
  exact UInt8.toNat_inj.1 this
theorem byt_sext (x : List UInt8) (q : Nat) : byt x (3 * q) = yAt x (4 * q) * 4 + yAt x (4 * q + 1) / 16 ∧ byt x (3 * q + 1) = yAt x (4 * q + 1) % 16 * 16 + yAt x (4 * q + 2) / 4 ∧ byt x (3 * q + 2) = yAt x (4 * q + 2) % 4 * 64 + yAt x (4 * q + 3) := by
  have h1 := byt_lt x (3 * q)
  have h2 := byt_lt x (3 * q + 1)
  have h3 := byt_lt x (3 * q + 2)
  rw [y0, y1, y2, y3]
  omega
theorem b64_inj {x y : List UInt8} (h : b64 x = b64 y) : x = y := by
  have hf : full x.length = full y.length := by rw [← b64_length, ← b64_length, h]
  have hget : ∀ m, m < full x.length → b64At x m = b64At y m := fun m hm => by
    rw [← b64_get hm, ← b64_get (by rw [← hf]; exact hm), h]
  have hc : ∀ m, m < full x.length → (m < cnt x.length ↔ m < cnt y.length) := fun m hm => by
    have := hget m hm
    unfold b64At at this
    by_cases h1 : m < cnt x.length <;> by_cases h2 : m < cnt y.length
    · simp [h1, h2]
    · rw [if_pos h1, if_neg h2] at this
      exact absurd this (letter_ne (yAt_lt x m))
    · rw [if_neg h1, if_pos h2] at this
      exact absurd this.symm (letter_ne (yAt_lt y m))
    · simp [h1, h2]
  have hcx := cnt_full x.length
  have hcy := cnt_full y.length
  have hcnt : cnt x.length = cnt y.length := by
    rcases Nat.lt_trichotomy (cnt x.length) (cnt y.length) with h1 | h1 | h1
    · have := (hc (cnt x.length) (by omega)).2 h1; omega
    · exact h1
    · have := (hc (cnt y.length) (by omega)).1 h1; omega
  have hl : x.length = y.length := by
    unfold cnt at hcnt
    unfold full at hf
    omega
  have hy : ∀ m, m < cnt x.length → yAt x m = yAt y m := fun m hm => by
    have := hget m (by omega)
    unfold b64At at this
    rw [if_pos hm, if_pos (by rw [← hcnt]; exact hm)] at this
    exact letter_inj (yAt_lt x m) (yAt_lt y m) this
  refine byt_of hl fun i hi => ?_
  obtain ⟨q, hq⟩ : ∃ q, q = i / 3 := ⟨_, rfl⟩
  have hbx := byt_sext x q
  have hby := byt_sext y q
  have hcu : cnt x.length = (8 * x.length + 5) / 6 := rfl
  rcases (show i = 3 * q ∨ i = 3 * q + 1 ∨ i = 3 * q + 2 by omega) with e | e | e
  · rw [e, hbx.1, hby.1, hy (4 * q) (by omega), hy (4 * q + 1) (by omega)]
  · rw [e, hbx.2.1, hby.2.1, hy (4 * q + 1) (by omega), hy (4 * q + 2) (by omega)]
  · rw [e, hbx.2.2, hby.2.2, hy (4 * q + 2) (by omega), hy (4 * q + 3) (by omega)]

open Classical in
/-- What base 64 is taken back to: the bytes and 0; none: 10. -/
noncomputable def unb (s : List UInt8) : List UInt8 × Int := if h : ∃ x, b64 x = s then (Classical.choose h, 0) else ([], 10)
theorem unb_yes {s x : List UInt8} (h : b64 x = s) : unb s = (x, 0) := by
  have hh : ∃ x, b64 x = s := ⟨x, h⟩
  unfold unb
  rw [dif_pos hh]
  have := Classical.choose_spec hh
  rw [b64_inj (this.trans h.symm)]
theorem unb_no {s : List UInt8} (h : ∀ x, b64 x ≠ s) : unb s = ([], 10) := by
  unfold unb
  rw [dif_neg fun ⟨x, hx⟩ => h x hx]
theorem unb_back (x : List UInt8) : unb (b64 x) = (x, 0) := unb_yes rfl

/-- Bits: a number moved to the left by i, and one below 2^i. -/
theorem or_low (y c i : Nat) (hc : c < 2 ^ i) : y * 2 ^ i ||| c = y * 2 ^ i + c := by
  rw [← Nat.shiftLeft_eq]
  exact (Nat.shiftLeft_add_eq_or_of_lt hc y).symm
theorem bits_or32 (a b : Nat) (ha : a < 4294967296) (hb : b < 4294967296) : bits .or .u32 (a : Int) (b : Int) = ((a ||| b : Nat) : Int) := by
  show IntKind.u32.wrap ((BitVec.ofInt 32 (a : Int) ||| BitVec.ofInt 32 (b : Int)).toNat : Int) = _
  rw [BitVec.toNat_or, BitVec.ofInt_natCast, BitVec.ofInt_natCast, BitVec.toNat_ofNat, BitVec.toNat_ofNat, Nat.mod_eq_of_lt ha, Nat.mod_eq_of_lt hb]
  have : a ||| b < 2 ^ 32 := Nat.or_lt_two_pow ha hb
  rw [IntKind.wrap_u32]
  omega
/-- A byte behind what is held. -/
theorem held8 (H c : Nat) (hc : c < 256) : bits .or .u32 (IntKind.u32.wrap ((H : Int) * 256)) (c : Int) = ((H % 16777216 * 256 + c : Nat) : Int) := by
  have e : IntKind.u32.wrap ((H : Int) * 256) = ((H % 16777216 * 256 : Nat) : Int) := by rw [IntKind.wrap_u32]; omega
  rw [e, bits_or32 _ _ (by omega) (by omega), show H % 16777216 * 256 = H % 16777216 * 2 ^ 8 by rfl, or_low _ _ 8 (by omega)]
theorem held8e (H c : Nat) (hc : c < 256) : bits .or .u32 ((H : Int) * 256 % 4294967296) (c : Int) = ((H % 16777216 * 256 + c : Nat) : Int) := by
  rw [← held8 H c hc, IntKind.wrap_u32]
/-- A sextet behind what is held. -/
theorem held6 (H c : Nat) (hc : c < 64) : bits .or .u32 (IntKind.u32.wrap ((H : Int) * 64)) (c : Int) = ((H % 67108864 * 64 + c : Nat) : Int) := by
  have e : IntKind.u32.wrap ((H : Int) * 64) = ((H % 67108864 * 64 : Nat) : Int) := by rw [IntKind.wrap_u32]; omega
  rw [e, bits_or32 _ _ (by omega) (by omega), show H % 67108864 * 64 = H % 67108864 * 2 ^ 6 by rfl, or_low _ _ 6 (by omega)]
theorem held6e (H c : Nat) (hc : c < 64) : bits .or .u32 ((H : Int) * 64 % 4294967296) (c : Int) = ((H % 67108864 * 64 + c : Nat) : Int) := by
  rw [← held6 H c hc, IntKind.wrap_u32]
theorem and63 (n : Nat) (h : n < 256) : bits .and .u8 (n : Int) 63 = ((n % 64 : Nat) : Int) := by
  have h' : ∀ x : Fin 256, bits .and .u8 (x.val : Int) 63 = ((x.val % 64 : Nat) : Int) := by decide +kernel
  exact h' ⟨n, h⟩
end Go.Proofs.YtlfhhnjdfpgadaaGreatDoor

/-
  Plain mathematics of UTF-8: how a number is written, and texts of such numbers joined.
-/
namespace Go.Proofs.YtlfhhnjdfpgadaaGreatDoor

/-- Does the byte at a place go on with a number? -/
def cont (l : List UInt8) (i : Nat) : Bool := decide (128 ≤ byt l i) && decide (byt l i < 192)
/-- How many bytes the number at the beginning has; 0: none is there. -/
def runeL (l : List UInt8) : Nat :=
  if byt l 0 < 128 then 1
  else if 194 ≤ byt l 0 ∧ byt l 0 < 224 then (if cont l 1 = true then 2 else 0)
  else if 224 ≤ byt l 0 ∧ byt l 0 < 240 then (if cont l 1 = true ∧ cont l 2 = true ∧ ¬ (byt l 0 = 224 ∧ byt l 1 < 160) ∧ ¬ (byt l 0 = 237 ∧ 160 ≤ byt l 1) then 3 else 0)
  else if 240 ≤ byt l 0 ∧ byt l 0 < 245 then (if cont l 1 = true ∧ cont l 2 = true ∧ cont l 3 = true ∧ ¬ (byt l 0 = 240 ∧ byt l 1 < 144) ∧ ¬ (byt l 0 = 244 ∧ 144 ≤ byt l 1) then 4 else 0)
  else 0
theorem cont_len {l : List UInt8} {i : Nat} (h : cont l i = true) : i < l.length := by
  rcases Nat.lt_or_ge i l.length with h1 | h1
  · exact h1
  · unfold cont at h
    rw [byt_out h1] at h
    simp at h
theorem runeL_le (l : List UInt8) (h : 0 < l.length) : runeL l ≤ l.length := by
  unfold runeL
  split
  · exact h
  · split
    · split
      · rename_i hc; have := cont_len hc; omega
      · omega
    · split
      · split
        · rename_i hc; have := cont_len hc.2.1; omega
        · omega
      · split
        · split
          · rename_i hc; have := cont_len hc.2.2.1; omega
          · omega
        · omega
/-- Valid bytes. -/
def vld (l : List UInt8) : Bool :=
  if _h : l.length = 0 ∨ runeL l = 0 then decide (l.length = 0) else vld (l.drop (runeL l))
  termination_by l.length
  decreasing_by simp only [List.length_drop]; omega
theorem vld_nil : vld [] = true := by rw [vld]; simp
theorem vld_bad {l : List UInt8} (h : 0 < l.length) (hr : runeL l = 0) : vld l = false := by
  rw [vld, dif_pos (.inr hr)]
  simp; intro e; rw [e] at h; simp at h
theorem vld_step {l : List UInt8} (h : 0 < l.length) (hr : runeL l ≠ 0) : vld l = vld (l.drop (runeL l)) := by
  rw [vld, dif_neg (by omega)]
theorem byt_app {a b : List UInt8} {i : Nat} (h : i < a.length) : byt (a ++ b) i = byt a i := by
  unfold byt
  rw [List.getD_eq_getElem?_getD, List.getD_eq_getElem?_getD, List.getElem?_append_left h]
theorem runeL_app {a b : List UInt8} (h : 0 < a.length) (hr : runeL a ≠ 0) : runeL (a ++ b) = runeL a := by
  have e0 := byt_app (b := b) h
  have ec : ∀ i, cont a i = true → byt (a ++ b) i = byt a i ∧ cont (a ++ b) i = true := fun i hc => by
    have := byt_app (b := b) (cont_len hc)
    refine ⟨this, ?_⟩
    unfold cont at hc ⊢
    rw [this]; exact hc
  unfold runeL at hr ⊢
  rw [e0]
  by_cases h1 : byt a 0 < 128
  · rw [if_pos h1, if_pos h1]
  · rw [if_neg h1] at hr ⊢
    rw [if_neg h1]
    by_cases h2 : 194 ≤ byt a 0 ∧ byt a 0 < 224
    · rw [if_pos h2] at hr ⊢
      rw [if_pos h2]
      by_cases c1 : cont a 1 = true
      · rw [if_pos c1, if_pos (ec 1 c1).2]
      · rw [if_neg c1] at hr; exact absurd rfl hr
    · rw [if_neg h2] at hr ⊢
      rw [if_neg h2]
      by_cases h3 : 224 ≤ byt a 0 ∧ byt a 0 < 240
      · rw [if_pos h3] at hr ⊢
        rw [if_pos h3]
        by_cases c : cont a 1 = true ∧ cont a 2 = true ∧ ¬ (byt a 0 = 224 ∧ byt a 1 < 160) ∧ ¬ (byt a 0 = 237 ∧ 160 ≤ byt a 1)
        · rw [if_pos c, if_pos ⟨(ec 1 c.1).2, (ec 2 c.2.1).2, by rw [(ec 1 c.1).1]; exact c.2.2.1, by rw [(ec 1 c.1).1]; exact c.2.2.2⟩]
        · rw [if_neg c] at hr; exact absurd rfl hr
      · rw [if_neg h3] at hr ⊢
        rw [if_neg h3]
        by_cases h4 : 240 ≤ byt a 0 ∧ byt a 0 < 245
        · rw [if_pos h4] at hr ⊢
          rw [if_pos h4]
          by_cases c : cont a 1 = true ∧ cont a 2 = true ∧ cont a 3 = true ∧ ¬ (byt a 0 = 240 ∧ byt a 1 < 144) ∧ ¬ (byt a 0 = 244 ∧ 144 ≤ byt a 1)
          · rw [if_pos c, if_pos ⟨(ec 1 c.1).2, (ec 2 c.2.1).2, (ec 3 c.2.2.1).2, by rw [(ec 1 c.1).1]; exact c.2.2.2.1, by rw [(ec 1 c.1).1]; exact c.2.2.2.2⟩]
          · rw [if_neg c] at hr; exact absurd rfl hr
        · rw [if_neg h4] at hr; exact absurd rfl hr
theorem vld_app (n : Nat) : ∀ a b : List UInt8, a.length ≤ n → vld a = true → vld b = true → vld (a ++ b) = true := by
  induction n with
  | zero =>
    intro a b hl ha hb
    obtain rfl := List.eq_nil_of_length_eq_zero (show a.length = 0 by omega)
    exact hb
  | succ n ih =>
    intro a b hl ha hb
    by_cases h0 : a.length = 0
    · obtain rfl := List.eq_nil_of_length_eq_zero h0
      exact hb
    · by_cases hr : runeL a = 0
      · rw [vld_bad (by omega) hr] at ha; cases ha
      · have hle := runeL_le a (by omega)
        rw [vld_step (by omega) hr] at ha
        rw [vld_step (by rw [List.length_append]; omega) (by rw [runeL_app (by omega) hr]; exact hr), runeL_app (by omega) hr, List.drop_append_of_le_length hle]
        exact ih _ _ (by rw [List.length_drop]; omega) ha hb

/-- The program's own: a number by its form. -/
def valN (l : List UInt8) (M : Nat) : Nat → Nat
  | 0 => byt l 0 % M
  | k + 1 => valN l M k * 64 + byt l (1 + k) % 64
def conts (l : List UInt8) : Nat → Bool
  | 0 => true
  | k + 1 => conts l k && cont l (1 + k)
def surr (v : Nat) : Bool := decide (v < 55296) || decide (57343 < v)
def begF (h M lo hi : Nat) (l : List UInt8) (more : Nat) : Bool :=
  decide (byt l 0 - byt l 0 % M = h) && decide (more < l.length) && conts l more && (decide (lo ≤ valN l M more) && decide (valN l M more ≤ hi) && surr (valN l M more))
def formH : Nat → Nat
  | 0 => 0
  | 1 => 192
  | 2 => 224
  | _ => 240
def formM : Nat → Nat
  | 0 => 128
  | 1 => 32
  | 2 => 16
  | _ => 8
def formLo : Nat → Nat
  | 0 => 0
  | 1 => 128
  | 2 => 2048
  | _ => 65536
def formHi : Nat → Nat
  | 0 => 127
  | 1 => 2047
  | 2 => 65535
  | _ => 1114111
def begK (l : List UInt8) (k : Nat) : Bool := begF (formH k) (formM k) (formLo k) (formHi k) l k
theorem cont_iff (l : List UInt8) (i : Nat) : cont l i = true ↔ 128 ≤ byt l i ∧ byt l i < 192 := by simp [cont]
theorem surr_iff (v : Nat) : surr v = true ↔ v < 55296 ∨ 57343 < v := by simp [surr]
theorem begK_iff (l : List UInt8) (hl : 0 < l.length) (k : Nat) (hk : k < 4) : begK l k = true ↔ runeL l = k + 1 := by
  have b0 := byt_lt l 0
  have b1 := byt_lt l 1
  have b2 := byt_lt l 2
  have b3 := byt_lt l 3
  rcases (show k = 0 ∨ k = 1 ∨ k = 2 ∨ k = 3 by omega) with rfl | rfl | rfl | rfl
  · simp only [begK, begF, formH, formM, formLo, formHi, valN, conts, Bool.and_eq_true, decide_eq_true_eq, surr_iff, Bool.and_true]
    unfold runeL
    constructor
    · intro h
      rw [if_pos (by omega)]
    · intro h
      by_cases h1 : byt l 0 < 128
      · omega
      · exfalso
        rw [if_neg h1] at h
        repeat' split at h
        all_goals omega
  · simp only [begK, begF, formH, formM, formLo, formHi, valN, conts, Bool.and_eq_true, decide_eq_true_eq, surr_iff, Bool.true_and, Nat.add_zero]
    unfold runeL
    constructor
    · rintro ⟨⟨⟨h1, h2⟩, h3⟩, h4⟩
      have c1 := (cont_iff l 1).1 h3
      rw [if_neg (by omega), if_pos (by omega), if_pos h3]
    · intro h
      by_cases h1 : byt l 0 < 128
      · rw [if_pos h1] at h; omega
      · rw [if_neg h1] at h
        by_cases h2 : 194 ≤ byt l 0 ∧ byt l 0 < 224
        · rw [if_pos h2] at h
          by_cases c1 : cont l 1 = true
          · have c1' := (cont_iff l 1).1 c1
            have := cont_len c1
            refine ⟨⟨⟨by omega, by omega⟩, c1⟩, by omega⟩
          · rw [if_neg c1] at h; omega
        · exfalso
          rw [if_neg h2] at h
          repeat' split at h
          all_goals omega
  · simp only [begK, begF, formH, formM, formLo, formHi, valN, conts, Bool.and_eq_true, decide_eq_true_eq, surr_iff, Bool.true_and, Nat.add_zero, Nat.reduceAdd]
    unfold runeL
    constructor
    · rintro ⟨⟨⟨h1, h2⟩, h3, h3'⟩, h4⟩
      have c1 := (cont_iff l 1).1 h3
      have c2 := (cont_iff l 2).1 h3'
      rw [if_neg (by omega), if_neg (by omega), if_pos (by omega), if_pos ⟨h3, h3', by omega, by omega⟩]
    · intro h
      by_cases h1 : byt l 0 < 128
      · rw [if_pos h1] at h; omega
      · rw [if_neg h1] at h
        by_cases h2 : 194 ≤ byt l 0 ∧ byt l 0 < 224
        · exfalso
          rw [if_pos h2] at h
          split at h <;> omega
        · rw [if_neg h2] at h
          by_cases h3 : 224 ≤ byt l 0 ∧ byt l 0 < 240
          · rw [if_pos h3] at h
            by_cases c : cont l 1 = true ∧ cont l 2 = true ∧ ¬ (byt l 0 = 224 ∧ byt l 1 < 160) ∧ ¬ (byt l 0 = 237 ∧ 160 ≤ byt l 1)
            · have c1 := (cont_iff l 1).1 c.1
              have c2 := (cont_iff l 2).1 c.2.1
              have := cont_len c.2.1
              refine ⟨⟨⟨by omega, by omega⟩, c.1, c.2.1⟩, by omega⟩
            · rw [if_neg c] at h; omega
          · exfalso
            rw [if_neg h3] at h
            repeat' split at h
            all_goals omega
  · simp only [begK, begF, formH, formM, formLo, formHi, valN, conts, Bool.and_eq_true, decide_eq_true_eq, surr_iff, Bool.true_and, Nat.add_zero, Nat.reduceAdd]
    unfold runeL
    constructor
    · rintro ⟨⟨⟨h1, h2⟩, ⟨h3, h3'⟩, h3''⟩, h4⟩
      have c1 := (cont_iff l 1).1 h3
      have c2 := (cont_iff l 2).1 h3'
      have c3 := (cont_iff l 3).1 h3''
      rw [if_neg (by omega), if_neg (by omega), if_neg (by omega), if_pos (by omega), if_pos ⟨h3, h3', h3'', by omega, by omega⟩]
    · intro h
      by_cases h1 : byt l 0 < 128
      · rw [if_pos h1] at h; omega
      · rw [if_neg h1] at h
        by_cases h2 : 194 ≤ byt l 0 ∧ byt l 0 < 224
        · exfalso
          rw [if_pos h2] at h
          split at h <;> omega
        · rw [if_neg h2] at h
          by_cases h3 : 224 ≤ byt l 0 ∧ byt l 0 < 240
          · exfalso
            rw [if_pos h3] at h
            split at h <;> omega
          · rw [if_neg h3] at h
            by_cases h4 : 240 ≤ byt l 0 ∧ byt l 0 < 245
            · rw [if_pos h4] at h
              by_cases c : cont l 1 = true ∧ cont l 2 = true ∧ cont l 3 = true ∧ ¬ (byt l 0 = 240 ∧ byt l 1 < 144) ∧ ¬ (byt l 0 = 244 ∧ 144 ≤ byt l 1)
              · have c1 := (cont_iff l 1).1 c.1
                have c2 := (cont_iff l 2).1 c.2.1
                have c3 := (cont_iff l 3).1 c.2.2.1
                have := cont_len c.2.2.1
                refine ⟨⟨⟨by omega, by omega⟩, ⟨c.1, c.2.1⟩, c.2.2.1⟩, by omega⟩
              · rw [if_neg c] at h; omega
            · exfalso
              rw [if_neg h4] at h
              omega
theorem runeL_lt (l : List UInt8) : runeL l ≤ 4 := by
  unfold runeL
  repeat' split
  all_goals omega
end Go.Proofs.YtlfhhnjdfpgadaaGreatDoor
