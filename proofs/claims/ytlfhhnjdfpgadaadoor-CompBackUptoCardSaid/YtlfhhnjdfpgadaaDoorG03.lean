/-
  Plain mathematics of base 64: sextets, their letters, and what can be taken back.
-/
import Derived.Test.YtlfhhnjdfpgadaaDoorG02
import Derived.Lib.Bytealg
import Derived.WalkSpells
import Derived.WalkLawsBesides
import Derived.Below
import Derived.OwnWalk
import Derived.WalkKit
import Derived.Lib.Hide
import Derived.BigQuiet
import Derived.Test.YtlfhhnjdfpgadaaDoorProg
namespace Go.Proofs.YtlfhhnjdfpgadaaDoor

/-- The letters. -/
def letters : List UInt8 := [65, 66, 67, 68, 69, 70, 71, 72, 73, 74, 75, 76, 77, 78, 79, 80, 81, 82, 83, 84, 85, 86, 87, 88, 89, 90, 97, 98, 99, 100, 101, 102, 103, 104, 105, 106, 107, 108, 109, 110, 111, 112, 113, 114, 115, 116, 117, 118, 119, 120, 121, 122, 48, 49, 50, 51, 52, 53, 54, 55, 56, 57, 43, 47]
def letter (v : Nat) : UInt8 := letters.getD v 0
/-- The byte at a place, as a number; behind the end: 0. -/
def byt (l : List UInt8) (i : Nat) : Nat := (l.getD i 0).toNat
theorem byt_lt (l : List UInt8) (i : Nat) : byt l i < 256 := (l.getD i 0).toNat_lt
theorem byt_out {l : List UInt8} {i : Nat} (h : l.length ≤ i) : byt l i = 0 := by
  unfold byt
  rw [List.getD_eq_getElem?_getD, List.getElem?_eq_none h]; rfl
/-- The sextet number m. -/
def yAt (l : List UInt8) (m : Nat) : Nat :=
  if m % 4 = 0 then byt l (3 * (m / 4)) / 4
  else if m % 4 = 1 then byt l (3 * (m / 4)) % 4 * 16 + byt l (3 * (m / 4) + 1) / 16
  else if m % 4 = 2 then byt l (3 * (m / 4) + 1) % 16 * 4 + byt l (3 * (m / 4) + 2) / 64
  else byt l (3 * (m / 4) + 2) % 64
theorem yAt_lt (l : List UInt8) (m : Nat) : yAt l m < 64 := by
  have h1 := byt_lt l (3 * (m / 4))
  have h2 := byt_lt l (3 * (m / 4) + 1)
  have h3 := byt_lt l (3 * (m / 4) + 2)
  unfold yAt
  split
  · omega
  · split
    · omega
    · split <;> omega
theorem y0 (l : List UInt8) (q : Nat) : yAt l (4 * q) = byt l (3 * q) / 4 := by
  unfold yAt
  rw [if_pos (by omega), show 4 * q / 4 = q by omega]
theorem y1 (l : List UInt8) (q : Nat) : yAt l (4 * q + 1) = byt l (3 * q) % 4 * 16 + byt l (3 * q + 1) / 16 := by
  unfold yAt
  rw [if_neg (by omega), if_pos (by omega), show (4 * q + 1) / 4 = q by omega]
theorem y2 (l : List UInt8) (q : Nat) : yAt l (4 * q + 2) = byt l (3 * q + 1) % 16 * 4 + byt l (3 * q + 2) / 64 := by
  unfold yAt
  rw [if_neg (by omega), if_neg (by omega), if_pos (by omega), show (4 * q + 2) / 4 = q by omega]
theorem y3 (l : List UInt8) (q : Nat) : yAt l (4 * q + 3) = byt l (3 * q + 2) % 64 := by
  unfold yAt
  rw [if_neg (by omega), if_neg (by omega), if_neg (by omega), show (4 * q + 3) / 4 = q by omega]
/-- How many sextets. -/
def cnt (n : Nat) : Nat := (8 * n + 5) / 6
/-- How many letters, padding and all. -/
def full (n : Nat) : Nat := 4 * ((n + 2) / 3)
/-- The letter number m. -/
def b64At (l : List UInt8) (m : Nat) : UInt8 := if m < cnt l.length then letter (yAt l m) else 61
def b64 (l : List UInt8) : List UInt8 := (List.range (full l.length)).map (b64At l)
theorem b64_length (l : List UInt8) : (b64 l).length = full l.length := by simp [b64]
theorem b64_get {l : List UInt8} {m : Nat} (h : m < full l.length) : (b64 l).getD m 0 = b64At l m := by
  simp [b64, List.getD_eq_getElem?_getD, h]
theorem cnt_full (n : Nat) : cnt n ≤ full n ∧ full n < cnt n + 4 := by unfold cnt full; omega
theorem letter_table : ∀ v : Fin 64, letter v.val ≠ 61 ∧ Lib.indexByte letters (letter v.val) = v.val := by decide +kernel
theorem letter_ne {v : Nat} (h : v < 64) : letter v ≠ 61 := (letter_table ⟨v, h⟩).1
theorem letter_index {v : Nat} (h : v < 64) : Lib.indexByte letters (letter v) = v := (letter_table ⟨v, h⟩).2
theorem letter_inj {v w : Nat} (hv : v < 64) (hw : w < 64) (h : letter v = letter w) : v = w := by
  have h1 := letter_index hv
  have h2 := letter_index hw
  rw [h, h2] at h1
  omega
/-- What a letter means; below 0: it is none. -/
theorem index_table : ∀ x : Fin 256, Lib.indexByte letters (UInt8.ofNat x.val) < 64 ∧ -1 ≤ Lib.indexByte letters (UInt8.ofNat x.val) ∧ (0 ≤ Lib.indexByte letters (UInt8.ofNat x.val) → x.val ≠ 61) := by decide +kernel
theorem index_at (c : UInt8) : Lib.indexByte letters c < 64 ∧ -1 ≤ Lib.indexByte letters c := by
  have := index_table ⟨c.toNat, c.toNat_lt⟩
  simp only [UInt8.ofNat_toNat] at this
  exact ⟨this.1, this.2.1⟩

/-- Two texts of one length with the same sextets are one. -/
theorem byt_of {x y : List UInt8} (hl : x.length = y.length) (h : ∀ i, i < x.length → byt x i = byt y i) : x = y := by
  refine List.ext_getElem hl fun i h1 h2 => ?_
  have := h i h1
  unfold byt at this
  rw [List.getD_eq_getElem?_getD, List.getD_eq_getElem?_getD, List.getElem?_eq_getElem h1, List.getElem?_eq_getElem h2] at this
  exact UInt8.toNat_inj.1 this
theorem byt_sext (x : List UInt8) (q : Nat) : byt x (3 * q) = yAt x (4 * q) * 4 + yAt x (4 * q + 1) / 16 ∧ byt x (3 * q + 1) = yAt x (4 * q + 1) % 16 * 16 + yAt x (4 * q + 2) / 4 ∧ byt x (3 * q + 2) = yAt x (4 * q + 2) % 4 * 64 + yAt x (4 * q + 3) := by
  have h1 := byt_lt x (3 * q)
  have h2 := byt_lt x (3 * q + 1)
  have h3 := byt_lt x (3 * q + 2)
  rw [y0, y1, y2, y3]
  omega
theorem b64_inj {x y : List UInt8} (h : b64 x = b64 y) : x = y := by
  have hf : full x.length = full y.length := by rw [← b64_length, ← b64_length, h]
  have hget : ∀ m, m < full x.length → b64At x m = b64At y m := fun m hm => by
    rw [← b64_get hm, ← b64_get (by rw [← hf]; exact hm), h]
  have hc : ∀ m, m < full x.length → (m < cnt x.length ↔ m < cnt y.length) := fun m hm => by
    have := hget m hm
    unfold b64At at this
    by_cases h1 : m < cnt x.length <;> by_cases h2 : m < cnt y.length
    · simp [h1, h2]
    · rw [if_pos h1, if_neg h2] at this
      exact absurd this (letter_ne (yAt_lt x m))
    · rw [if_neg h1, if_pos h2] at this
      exact absurd this.symm (letter_ne (yAt_lt y m))
    · simp [h1, h2]
  have hcx := cnt_full x.length
  have hcy := cnt_full y.length
  have hcnt : cnt x.length = cnt y.length := by
    rcases Nat.lt_trichotomy (cnt x.length) (cnt y.length) with h1 | h1 | h1
    · have := (hc (cnt x.length) (by omega)).2 h1; omega
    · exact h1
    · have := (hc (cnt y.length) (by omega)).1 h1; omega
  have hl : x.length = y.length := by
    unfold cnt at hcnt
    unfold full at hf
    omega
  have hy : ∀ m, m < cnt x.length → yAt x m = yAt y m := fun m hm => by
    have := hget m (by omega)
    unfold b64At at this
    rw [if_pos hm, if_pos (by rw [← hcnt]; exact hm)] at this
    exact letter_inj (yAt_lt x m) (yAt_lt y m) this
  refine byt_of hl fun i hi => ?_
  obtain ⟨q, hq⟩ : ∃ q, q = i / 3 := ⟨_, rfl⟩
  have hbx := byt_sext x q
  have hby := byt_sext y q
  have hcu : cnt x.length = (8 * x.length + 5) / 6 := rfl
  rcases (show i = 3 * q ∨ i = 3 * q + 1 ∨ i = 3 * q + 2 by omega) with e | e | e
  · rw [e, hbx.1, hby.1, hy (4 * q) (by omega), hy (4 * q + 1) (by omega)]
  · rw [e, hbx.2.1, hby.2.1, hy (4 * q + 1) (by omega), hy (4 * q + 2) (by omega)]
  · rw [e, hbx.2.2, hby.2.2, hy (4 * q + 2) (by omega), hy (4 * q + 3) (by omega)]

open Classical in
/-- What base 64 is taken back to: the bytes and 0; none: 10. -/
noncomputable def unb (s : List UInt8) : List UInt8 × Int := if h : ∃ x, b64 x = s then (Classical.choose h, 0) else ([], 10)
theorem unb_yes {s x : List UInt8} (h : b64 x = s) : unb s = (x, 0) := by
  have hh : ∃ x, b64 x = s := ⟨x, h⟩
  unfold unb
  rw [dif_pos hh]
  have := Classical.choose_spec hh
  rw [b64_inj (this.trans h.symm)]
theorem unb_no {s : List UInt8} (h : ∀ x, b64 x ≠ s) : unb s = ([], 10) := by
  unfold unb
  rw [dif_neg fun ⟨x, hx⟩ => h x hx]
theorem unb_back (x : List UInt8) : unb (b64 x) = (x, 0) := unb_yes rfl

/-- Bits: a number moved to the left by i, and one below 2^i. -/
theorem or_low (y c i : Nat) (hc : c < 2 ^ i) : y * 2 ^ i ||| c = y * 2 ^ i + c := by
  rw [← Nat.shiftLeft_eq]
  exact (Nat.shiftLeft_add_eq_or_of_lt hc y).symm
theorem bits_or32 (a b : Nat) (ha : a < 4294967296) (hb : b < 4294967296) : bits .or .u32 (a : Int) (b : Int) = ((a ||| b : Nat) : Int) := by
  show IntKind.u32.wrap ((BitVec.ofInt 32 (a : Int) ||| BitVec.ofInt 32 (b : Int)).toNat : Int) = _
  rw [BitVec.toNat_or, BitVec.ofInt_natCast, BitVec.ofInt_natCast, BitVec.toNat_ofNat, BitVec.toNat_ofNat, Nat.mod_eq_of_lt ha, Nat.mod_eq_of_lt hb]
  have : a ||| b < 2 ^ 32 := Nat.or_lt_two_pow ha hb
  rw [IntKind.wrap_u32]
  omega
/-- A byte behind what is held. -/
theorem held8 (H c : Nat) (hc : c < 256) : bits .or .u32 (IntKind.u32.wrap ((H : Int) * 256)) (c : Int) = ((H % 16777216 * 256 + c : Nat) : Int) := by
  have e : IntKind.u32.wrap ((H : Int) * 256) = ((H % 16777216 * 256 : Nat) : Int) := by rw [IntKind.wrap_u32]; omega
  rw [e, bits_or32 _ _ (by omega) (by omega), show H % 16777216 * 256 = H % 16777216 * 2 ^ 8 by rfl, or_low _ _ 8 (by omega)]
theorem held8e (H c : Nat) (hc : c < 256) : bits .or .u32 ((H : Int) * 256 % 4294967296) (c : Int) = ((H % 16777216 * 256 + c : Nat) : Int) := by
  rw [← held8 H c hc, IntKind.wrap_u32]
/-- A sextet behind what is held. -/
theorem held6 (H c : Nat) (hc : c < 64) : bits .or .u32 (IntKind.u32.wrap ((H : Int) * 64)) (c : Int) = ((H % 67108864 * 64 + c : Nat) : Int) := by
  have e : IntKind.u32.wrap ((H : Int) * 64) = ((H % 67108864 * 64 : Nat) : Int) := by rw [IntKind.wrap_u32]; omega
  rw [e, bits_or32 _ _ (by omega) (by omega), show H % 67108864 * 64 = H % 67108864 * 2 ^ 6 by rfl, or_low _ _ 6 (by omega)]
theorem held6e (H c : Nat) (hc : c < 64) : bits .or .u32 ((H : Int) * 64 % 4294967296) (c : Int) = ((H % 67108864 * 64 + c : Nat) : Int) := by
  rw [← held6 H c hc, IntKind.wrap_u32]
theorem and63 (n : Nat) (h : n < 256) : bits .and .u8 (n : Int) 63 = ((n % 64 : Nat) : Int) := by
  have h' : ∀ x : Fin 256, bits .and .u8 (x.val : Int) 63 = ((x.val % 64 : Nat) : Int) := by decide +kernel
  exact h' ⟨n, h⟩
end Go.Proofs.YtlfhhnjdfpgadaaDoor

/-
  Plain mathematics of UTF-8: how a number is written, and texts of such numbers joined.
-/
namespace Go.Proofs.YtlfhhnjdfpgadaaDoor

/-- Does the byte at a place go on with a number? -/
def cont (l : List UInt8) (i : Nat) : Bool := decide (128 ≤ byt l i) && decide (byt l i < 192)
/-- How many bytes the number at the beginning has; 0: none is there. -/
def runeL (l : List UInt8) : Nat :=
  if byt l 0 < 128 then 1
  else if 194 ≤ byt l 0 ∧ byt l 0 < 224 then (if cont l 1 = true then 2 else 0)
  else if 224 ≤ byt l 0 ∧ byt l 0 < 240 then (if cont l 1 = true ∧ cont l 2 = true ∧ ¬ (byt l 0 = 224 ∧ byt l 1 < 160) ∧ ¬ (byt l 0 = 237 ∧ 160 ≤ byt l 1) then 3 else 0)
  else if 240 ≤ byt l 0 ∧ byt l 0 < 245 then (if cont l 1 = true ∧ cont l 2 = true ∧ cont l 3 = true ∧ ¬ (byt l 0 = 240 ∧ byt l 1 < 144) ∧ ¬ (byt l 0 = 244 ∧ 144 ≤ byt l 1) then 4 else 0)
  else 0
theorem cont_len {l : List UInt8} {i : Nat} (h : cont l i = true) : i < l.length := by
  rcases Nat.lt_or_ge i l.length with h1 | h1
  · exact h1
  · unfold cont at h
    rw [byt_out h1] at h
    simp at h
theorem runeL_le (l : List UInt8) (h : 0 < l.length) : runeL l ≤ l.length := by
  unfold runeL
  split
  · exact h
  · split
    · split
      · rename_i hc; have := cont_len hc; omega
      · omega
    · split
      · split
        · rename_i hc; have := cont_len hc.2.1; omega
        · omega
      · split
        · split
          · rename_i hc; have := cont_len hc.2.2.1; omega
          · omega
        · omega
/-- Valid bytes. -/
def vld (l : List UInt8) : Bool :=
  if _h : l.length = 0 ∨ runeL l = 0 then decide (l.length = 0) else vld (l.drop (runeL l))
  termination_by l.length
  decreasing_by simp only [List.length_drop]; omega
theorem vld_nil : vld [] = true := by rw [vld]; simp
theorem vld_bad {l : List UInt8} (h : 0 < l.length) (hr : runeL l = 0) : vld l = false := by
  rw [vld, dif_pos (.inr hr)]
  simp; intro e; rw [e] at h; simp at h
theorem vld_step {l : List UInt8} (h : 0 < l.length) (hr : runeL l ≠ 0) : vld l = vld (l.drop (runeL l)) := by
  rw [vld, dif_neg (by omega)]
theorem byt_app {a b : List UInt8} {i : Nat} (h : i < a.length) : byt (a ++ b) i = byt a i := by
  unfold byt
  rw [List.getD_eq_getElem?_getD, List.getD_eq_getElem?_getD, List.getElem?_append_left h]
theorem runeL_app {a b : List UInt8} (h : 0 < a.length) (hr : runeL a ≠ 0) : runeL (a ++ b) = runeL a := by
  have e0 := byt_app (b := b) h
  have ec : ∀ i, cont a i = true → byt (a ++ b) i = byt a i ∧ cont (a ++ b) i = true := fun i hc => by
    have := byt_app (b := b) (cont_len hc)
    refine ⟨this, ?_⟩
    unfold cont at hc ⊢
    rw [this]; exact hc
  unfold runeL at hr ⊢
  rw [e0]
  by_cases h1 : byt a 0 < 128
  · rw [if_pos h1, if_pos h1]
  · rw [if_neg h1] at hr ⊢
    rw [if_neg h1]
    by_cases h2 : 194 ≤ byt a 0 ∧ byt a 0 < 224
    · rw [if_pos h2] at hr ⊢
      rw [if_pos h2]
      by_cases c1 : cont a 1 = true
      · rw [if_pos c1, if_pos (ec 1 c1).2]
      · rw [if_neg c1] at hr; exact absurd rfl hr
    · rw [if_neg h2] at hr ⊢
      rw [if_neg h2]
      by_cases h3 : 224 ≤ byt a 0 ∧ byt a 0 < 240
      · rw [if_pos h3] at hr ⊢
        rw [if_pos h3]
        by_cases c : cont a 1 = true ∧ cont a 2 = true ∧ ¬ (byt a 0 = 224 ∧ byt a 1 < 160) ∧ ¬ (byt a 0 = 237 ∧ 160 ≤ byt a 1)
        · rw [if_pos c, if_pos ⟨(ec 1 c.1).2, (ec 2 c.2.1).2, by rw [(ec 1 c.1).1]; exact c.2.2.1, by rw [(ec 1 c.1).1]; exact c.2.2.2⟩]
        · rw [if_neg c] at hr; exact absurd rfl hr
      · rw [if_neg h3] at hr ⊢
        rw [if_neg h3]
        by_cases h4 : 240 ≤ byt a 0 ∧ byt a 0 < 245
        · rw [if_pos h4] at hr ⊢
          rw [if_pos h4]
          by_cases c : cont a 1 = true ∧ cont a 2 = true ∧ cont a 3 = true ∧ ¬ (byt a 0 = 240 ∧ byt a 1 < 144) ∧ ¬ (byt a 0 = 244 ∧ 144 ≤ byt a 1)
          · rw [if_pos c, if_pos ⟨(ec 1 c.1).2, (ec 2 c.2.1).2, (ec 3 c.2.2.1).2, by rw [(ec 1 c.1).1]; exact c.2.2.2.1, by rw [(ec 1 c.1).1]; exact c.2.2.2.2⟩]
          · rw [if_neg c] at hr; exact absurd rfl hr
        · rw [if_neg h4] at hr; exact absurd rfl hr
theorem vld_app (n : Nat) : ∀ a b : List UInt8, a.length ≤ n → vld a = true → vld b = true → vld (a ++ b) = true := by
  induction n with
  | zero =>
    intro a b hl ha hb
    obtain rfl := List.eq_nil_of_length_eq_zero (show a.length = 0 by omega)
    exact hb
  | succ n ih =>
    intro a b hl ha hb
    by_cases h0 : a.length = 0
    · obtain rfl := List.eq_nil_of_length_eq_zero h0
      exact hb
    · by_cases hr : runeL a = 0
      · rw [vld_bad (by omega) hr] at ha; cases ha
      · have hle := runeL_le a (by omega)
        rw [vld_step (by omega) hr] at ha
        rw [vld_step (by rw [List.length_append]; omega) (by rw [runeL_app (by omega) hr]; exact hr), runeL_app (by omega) hr, List.drop_append_of_le_length hle]
        exact ih _ _ (by rw [List.length_drop]; omega) ha hb

/-- The program's own: a number by its form. -/
def valN (l : List UInt8) (M : Nat) : Nat → Nat
  | 0 => byt l 0 % M
  | k + 1 => valN l M k * 64 + byt l (1 + k) % 64
def conts (l : List UInt8) : Nat → Bool
  | 0 => true
  | k + 1 => conts l k && cont l (1 + k)
def surr (v : Nat) : Bool := decide (v < 55296) || decide (57343 < v)
def begF (h M lo hi : Nat) (l : List UInt8) (more : Nat) : Bool :=
  decide (byt l 0 - byt l 0 % M = h) && decide (more < l.length) && conts l more && (decide (lo ≤ valN l M more) && decide (valN l M more ≤ hi) && surr (valN l M more))
def formH : Nat → Nat
  | 0 => 0
  | 1 => 192
  | 2 => 224
  | _ => 240
def formM : Nat → Nat
  | 0 => 128
  | 1 => 32
  | 2 => 16
  | _ => 8
def formLo : Nat → Nat
  | 0 => 0
  | 1 => 128
  | 2 => 2048
  | _ => 65536
def formHi : Nat → Nat
  | 0 => 127
  | 1 => 2047
  | 2 => 65535
  | _ => 1114111
def begK (l : List UInt8) (k : Nat) : Bool := begF (formH k) (formM k) (formLo k) (formHi k) l k
theorem cont_iff (l : List UInt8) (i : Nat) : cont l i = true ↔ 128 ≤ byt l i ∧ byt l i < 192 := by simp [cont]
theorem surr_iff (v : Nat) : surr v = true ↔ v < 55296 ∨ 57343 < v := by simp [surr]
theorem begK_iff (l : List UInt8) (hl : 0 < l.length) (k : Nat) (hk : k < 4) : begK l k = true ↔ runeL l = k + 1 := by
  have b0 := byt_lt l 0
  have b1 := byt_lt l 1
  have b2 := byt_lt l 2
  have b3 := byt_lt l 3
  rcases (show k = 0 ∨ k = 1 ∨ k = 2 ∨ k = 3 by omega) with rfl | rfl | rfl | rfl
  · simp only [begK, begF, formH, formM, formLo, formHi, valN, conts, Bool.and_eq_true, decide_eq_true_eq, surr_iff, Bool.and_true]
    unfold runeL
    constructor
    · intro h
      rw [if_pos (by omega)]
    · intro h
      by_cases h1 : byt l 0 < 128
      · omega
      · exfalso
        rw [if_neg h1] at h
        repeat' split at h
        all_goals omega
  · simp only [begK, begF, formH, formM, formLo, formHi, valN, conts, Bool.and_eq_true, decide_eq_true_eq, surr_iff, Bool.true_and, Nat.add_zero]
    unfold runeL
    constructor
    · rintro ⟨⟨⟨h1, h2⟩, h3⟩, h4⟩
      have c1 := (cont_iff l 1).1 h3
      rw [if_neg (by omega), if_pos (by omega), if_pos h3]
    · intro h
      by_cases h1 : byt l 0 < 128
      · rw [if_pos h1] at h; omega
      · rw [if_neg h1] at h
        by_cases h2 : 194 ≤ byt l 0 ∧ byt l 0 < 224
        · rw [if_pos h2] at h
          by_cases c1 : cont l 1 = true
          · have c1' := (cont_iff l 1).1 c1
            have := cont_len c1
            refine ⟨⟨⟨by omega, by omega⟩, c1⟩, by omega⟩
          · rw [if_neg c1] at h; omega
        · exfalso
          rw [if_neg h2] at h
          repeat' split at h
          all_goals omega
  · simp only [begK, begF, formH, formM, formLo, formHi, valN, conts, Bool.and_eq_true, decide_eq_true_eq, surr_iff, Bool.true_and, Nat.add_zero, Nat.reduceAdd]
    unfold runeL
    constructor
    · rintro ⟨⟨⟨h1, h2⟩, h3, h3'⟩, h4⟩
      have c1 := (cont_iff l 1).1 h3
      have c2 := (cont_iff l 2).1 h3'
      rw [if_neg (by omega), if_neg (by omega), if_pos (by omega), if_pos ⟨h3, h3', by omega, by omega⟩]
    · intro h
      by_cases h1 : byt l 0 < 128
      · rw [if_pos h1] at h; omega
      · rw [if_neg h1] at h
        by_cases h2 : 194 ≤ byt l 0 ∧ byt l 0 < 224
        · exfalso
          rw [if_pos h2] at h
          split at h <;> omega
        · rw [if_neg h2] at h
          by_cases h3 : 224 ≤ byt l 0 ∧ byt l 0 < 240
          · rw [if_pos h3] at h
            by_cases c : cont l 1 = true ∧ cont l 2 = true ∧ ¬ (byt l 0 = 224 ∧ byt l 1 < 160) ∧ ¬ (byt l 0 = 237 ∧ 160 ≤ byt l 1)
            · have c1 := (cont_iff l 1).1 c.1
              have c2 := (cont_iff l 2).1 c.2.1
              have := cont_len c.2.1
              refine ⟨⟨⟨by omega, by omega⟩, c.1, c.2.1⟩, by omega⟩
            · rw [if_neg c] at h; omega
          · exfalso
            rw [if_neg h3] at h
            repeat' split at h
            all_goals omega
  · simp only [begK, begF, formH, formM, formLo, formHi, valN, conts, Bool.and_eq_true, decide_eq_true_eq, surr_iff, Bool.true_and, Nat.add_zero, Nat.reduceAdd]
    unfold runeL
    constructor
    · rintro ⟨⟨⟨h1, h2⟩, ⟨h3, h3'⟩, h3''⟩, h4⟩
      have c1 := (cont_iff l 1).1 h3
      have c2 := (cont_iff l 2).1 h3'
      have c3 := (cont_iff l 3).1 h3''
      rw [if_neg (by omega), if_neg (by omega), if_neg (by omega), if_pos (by omega), if_pos ⟨h3, h3', h3'', by omega, by omega⟩]
    · intro h
      by_cases h1 : byt l 0 < 128
      · rw [if_pos h1] at h; omega
      · rw [if_neg h1] at h
        by_cases h2 : 194 ≤ byt l 0 ∧ byt l 0 < 224
        · exfalso
          rw [if_pos h2] at h
          split at h <;> omega
        · rw [if_neg h2] at h
          by_cases h3 : 224 ≤ byt l 0 ∧ byt l 0 < 240
          · exfalso
            rw [if_pos h3] at h
            split at h <;> omega
          · rw [if_neg h3] at h
            by_cases h4 : 240 ≤ byt l 0 ∧ byt l 0 < 245
            · rw [if_pos h4] at h
              by_cases c : cont l 1 = true ∧ cont l 2 = true ∧ cont l 3 = true ∧ ¬ (byt l 0 = 240 ∧ byt l 1 < 144) ∧ ¬ (byt l 0 = 244 ∧ 144 ≤ byt l 1)
              · have c1 := (cont_iff l 1).1 c.1
                have c2 := (cont_iff l 2).1 c.2.1
                have c3 := (cont_iff l 3).1 c.2.2.1
                have := cont_len c.2.2.1
                refine ⟨⟨⟨by omega, by omega⟩, ⟨c.1, c.2.1⟩, c.2.2.1⟩, by omega⟩
              · rw [if_neg c] at h; omega
            · exfalso
              rw [if_neg h4] at h
              omega
theorem runeL_lt (l : List UInt8) : runeL l ≤ 4 := by
  unfold runeL
  repeat' split
  all_goals omega
end Go.Proofs.YtlfhhnjdfpgadaaDoor

/-
  UTF-8 as the document goes through it.
-/
namespace Go.Proofs.YtlfhhnjdfpgadaaDoor
open Go.RowKit
theorem getB {s : ByteArray} {k : Nat} (h : k < s.size) : s.data.toList.getD k 0 = s[k] := by
  have h' : k < s.data.size := h
  rw [List.getD_eq_getElem?_getD, Array.getElem?_toList, Array.getElem?_eq_getElem h']; rfl

theorem bytB {s : ByteArray} {k : Nat} (h : k < s.size) : byt s.data.toList k = s[k].toNat := by unfold byt; rw [getB h]
theorem byt_drop (l : List UInt8) (k i : Nat) : byt (l.drop k) i = byt l (k + i) := by
  unfold byt
  rw [List.getD_eq_getElem?_getD, List.getD_eq_getElem?_getD, List.getElem?_drop]
theorem cont_drop (l : List UInt8) (k i : Nat) : cont (l.drop k) i = cont l (k + i) := by unfold cont; rw [byt_drop]

end Go.Proofs.YtlfhhnjdfpgadaaDoor

/-
  Plain mathematics for layer 11 (line): a line's name, parameters and value, as they are read from a row of bytes.
-/
namespace Go.Proofs.YtlfhhnjdfpgadaaDoor
open Go.RowKit

/-- A control. -/
def ctlN (n : Nat) : Bool := (decide (n < 32) && !decide (n = 9)) || decide (n = 127)
/-- A byte of names. -/
def nbN (n : Nat) : Bool := letN n || digN n || decide (n = 45)
def upN (n : Nat) : Nat := if 97 ≤ n ∧ n ≤ 122 then n - 32 else n
def upC (c : UInt8) : UInt8 := UInt8.ofNat (upN c.toNat)
def upL (l : List UInt8) : List UInt8 := l.map upC
def nbC (c : UInt8) : Bool := nbN c.toNat
/-- A byte of a value between two ". -/
def qvC (c : UInt8) : Bool := !decide (c.toNat = 34) && !ctlN c.toNat
/-- A byte of a value that stands alone. -/
def uvC (c : UInt8) : Bool := qvC c && (!decide (c.toNat = 44) && !decide (c.toNat = 59) && !decide (c.toNat = 58))
/-- No text goes on so. -/
def eoE (l : List UInt8) : Int := if l = [] then 11 else 10
theorem eoE_pos (l : List UInt8) : eoE l ≠ 0 := by unfold eoE; split <;> decide
/-- What is read: it and what is left, or an error. -/
inductive Got (α : Type) where
  | ok (a : α) (rest : List UInt8) : Got α
  | bad (e : Int) : Got α
def rdName (l : List UInt8) : Got (List UInt8) :=
  if 64 < (l.takeWhile nbC).length then .bad 12
  else if l.takeWhile nbC = [] then .bad (eoE l)
  else .ok (upL (l.takeWhile nbC)) (l.drop (l.takeWhile nbC).length)
def rdQuoted (l : List UInt8) : Got (List UInt8) :=
  if (l.drop (l.takeWhile qvC).length).head? = some 34 then .ok (l.takeWhile qvC) (l.drop ((l.takeWhile qvC).length + 1))
  else .bad (eoE (l.drop (l.takeWhile qvC).length))
def rdVal (l : List UInt8) : Got (List UInt8) :=
  if l.head? = some 34 then rdQuoted (l.drop 1) else .ok (l.takeWhile uvC) (l.drop (l.takeWhile uvC).length)
/-- More values, each behind a comma. -/
def rdMore : Nat → List UInt8 → List (List UInt8) → Got (List (List UInt8))
  | 0, l, vs => .ok vs l
  | f + 1, l, vs => if l.head? = some 44 then (match rdVal (l.drop 1) with | .ok v r => rdMore f r (vs ++ [v]) | .bad e => .bad e) else .ok vs l
structure Par where
  name : List UInt8
  vals : List (List UInt8)
deriving DecidableEq
structure Pro where
  name : List UInt8
  pars : List Par
  value : List UInt8
deriving DecidableEq
/-- One parameter, behind its ;. -/
def rdPar (l : List UInt8) : Got Par :=
  match rdName l with
  | .bad e => .bad e
  | .ok n r => if r.head? = some 61 then
      (match rdVal (r.drop 1) with
       | .bad e => .bad e
       | .ok v r2 => (match rdMore r2.length r2 [v] with | .bad e => .bad e | .ok vs r3 => .ok ⟨n, vs⟩ r3))
    else .bad (eoE r)
def rdPars : Nat → List UInt8 → List Par → Got (List Par)
  | 0, l, ps => .ok ps l
  | f + 1, l, ps => if l.head? = some 59 then
      (if ps.length = 16 then .bad 27 else (match rdPar (l.drop 1) with | .bad e => .bad e | .ok p r => rdPars f r (ps ++ [p])))
    else .ok ps l
def rdRest (l : List UInt8) : Got Pro :=
  match rdName l with
  | .bad e => .bad e
  | .ok n r => (match rdPars r.length r [] with
    | .bad e => .bad e
    | .ok ps r2 => if r2.head? = some 58 then (if (r2.drop 1).all (fun c => !ctlN c.toNat) = true then .ok ⟨n, ps, r2.drop 1⟩ [] else .bad 10) else .bad (eoE r2))
def noPro : Pro := ⟨[], [], []⟩
/-- What Parse tells. -/
def parL (l : List UInt8) : Pro × Int :=
  if 1024 < l.length then (noPro, 12) else if vld l = true then (match rdRest l with | .ok p _ => (p, 0) | .bad e => (noPro, e)) else (noPro, 10)

theorem takeWhile_len {p : UInt8 → Bool} (l : List UInt8) : (l.takeWhile p).length ≤ l.length := (List.takeWhile_sublist p).length_le
theorem rdVal_len {l r : List UInt8} {v : List UInt8} (h : rdVal l = .ok v r) : r.length ≤ l.length := by
  unfold rdVal at h
  split at h
  · unfold rdQuoted at h
    split at h
    · injection h with h1 h2; subst h2; simp
    · cases h
  · injection h with h1 h2; subst h2; simp
theorem rdMore_len : ∀ (f : Nat) {l r : List UInt8} {vs ws : List (List UInt8)}, rdMore f l vs = .ok ws r → r.length ≤ l.length
  | 0, l, r, vs, ws, h => by unfold rdMore at h; injection h with h1 h2; subst h2; exact Nat.le_refl _
  | f + 1, l, r, vs, ws, h => by
    unfold rdMore at h
    split at h
    · split at h
      · rename_i v r2 hv
        have a := rdVal_len hv
        have b := rdMore_len f h
        simp at a; omega
      · cases h
    · injection h with h1 h2; subst h2; exact Nat.le_refl _
theorem rdName_len {l r n : List UInt8} (h : rdName l = .ok n r) : r.length < l.length := by
  unfold rdName at h
  split at h
  · cases h
  · split at h
    · cases h
    · injection h with h1 h2
      subst h2
      rename_i hne
      have : 0 < (l.takeWhile nbC).length := List.length_pos_iff.2 hne
      have := takeWhile_len (p := nbC) l
      simp; omega
theorem rdPar_len {l r : List UInt8} {p : Par} (h : rdPar l = .ok p r) : r.length < l.length := by
  unfold rdPar at h
  split at h
  · cases h
  · rename_i n r1 hn
    have a := rdName_len hn
    split at h
    · split at h
      · cases h
      · rename_i v r2 hv
        have b := rdVal_len hv
        split at h
        · cases h
        · rename_i vs r3 hm
          have c := rdMore_len _ hm
          injection h with h1 h2
          subst h2
          simp at b; omega
    · cases h

end Go.Proofs.YtlfhhnjdfpgadaaDoor

/-
  A reader's variable in memory: its text, its place, its error; what a method leaves as it was.
-/
namespace Go.Proofs.YtlfhhnjdfpgadaaDoor
open Go.RowKit

/-- All that there was is as it was, but the block g. -/
structure ButL (g : Nat) (w w' : World) : Prop where
  os : w'.os = w.os
  tape : w'.tape = w.tape
  output : w'.output = w.output
  size : w.heap.size ≤ w'.heap.size
  block : ∀ k, k < w.heap.size → k ≠ g → w'.heap[k]? = w.heap[k]?
section
variable {w w1 w' : World} {g : Nat} {s : ByteArray} {p e : Int}
theorem ButL.refl (g : Nat) (w : World) : ButL g w w := ⟨rfl, rfl, rfl, Nat.le_refl _, fun _ _ _ => rfl⟩
theorem ButL.of_below (h : Below w.heap.size w w') (g : Nat) : ButL g w w' := ⟨h.os, h.tape, h.output, h.size, fun k hk _ => h.block k hk⟩
theorem ButL.trans (h : ButL g w w1) (h2 : ButL g w1 w') : ButL g w w' := ⟨h2.os.trans h.os, h2.tape.trans h.tape, h2.output.trans h.output, Nat.le_trans h.size h2.size, fun k hk hne => (h2.block k (Nat.lt_of_lt_of_le hk h.size) hne).trans (h.block k hk hne)⟩
theorem ButL.set (w : World) (g o : Nat) (u : Value) : ButL g w (w.setCell ⟨g, o, none⟩ u) := ⟨rfl, rfl, rfl, by simp [World.setCell], fun k _ hne => Below.heap_setCell w ⟨g, o, none⟩ u k hne⟩
theorem ButL.to_below (h : ButL g w w') {B : Nat} (hB : B ≤ g) (hw : B ≤ w.heap.size) : Below B w w' := ⟨h.os, h.tape, h.output, h.size, fun k hk => h.block k (by omega) (by omega)⟩
end
theorem below_drewNL {w W : World} {B : Nat} (h : Below B w W) (q : Nat) : Below B w (W.drewN q) := ⟨h.1, h.2, h.3, h.4, h.5⟩
/-- A region that draws its order, whose operations read and whose calls leave what lay before: one walk, in the order of the text. -/
theorem region_belowL {P : Program} {id : Nat} {Q : Exit → Act → World → Prop} {a : Act} {w0 w : World} {l : List Oper} (hC : Below w0.heap.size w0 w) (hm : P.follows .mixedOrders = true) (hB : Region.lexB .any l.toArray = true)
    (h : wpQuiet P l.toArray (fun w' => Below w0.heap.size w0 w') (fun a' => ∀ w', Below w0.heap.size w0 w' → Q .normal a' w') l a) : (Code.region id l.toArray true).wp P Q a w :=
  wp_region_quiet (C := fun w' => Below w0.heap.size w0 w') hm hB hC.drew (by simpa using h)

end Go.Proofs.YtlfhhnjdfpgadaaDoor

/-
  The small functions of layer 8, the program's and the document's: a byte's kind, its small letter, a digit's value.
-/
namespace Go.Proofs.YtlfhhnjdfpgadaaDoor
open Go.RowKit

end Go.Proofs.YtlfhhnjdfpgadaaDoor

/-
  The document's small functions of layer 11: controls, bytes of names, great letters.
-/
namespace Go.Proofs.YtlfhhnjdfpgadaaDoor
open Go.RowKit

theorem upN_lt {n : Nat} (h : n < 256) : upN n < 256 := by unfold upN; split <;> omega
theorem upC_nat (c : UInt8) : (upC c).toNat = upN c.toNat := by
  have := upN_lt c.toNat_lt
  unfold upC
  rw [UInt8.toNat_ofNat']; omega
theorem upL_append (a b : List UInt8) : upL (a ++ b) = upL a ++ upL b := by simp [upL]
/-- The first k with great letters. -/
def upK (l : List UInt8) (k : Nat) : List UInt8 := upL (l.take k) ++ l.drop k
theorem upK_zero (l : List UInt8) : upK l 0 = l := by simp [upK, upL]
theorem upK_all {l : List UInt8} {k : Nat} (h : l.length ≤ k) : upK l k = upL l := by simp [upK, List.take_of_length_le h, List.drop_eq_nil_of_le h]
theorem upK_length (l : List UInt8) (k : Nat) : (upK l k).length = l.length := by simp [upK, upL]; omega
theorem upK_get {l : List UInt8} {k : Nat} : (upK l k).getD k 0 = l.getD k 0 := by
  unfold upK
  rw [List.getD_eq_getElem?_getD, List.getD_eq_getElem?_getD]
  by_cases hk : k < l.length
  · rw [List.getElem?_append_right (by simp [upL]; omega)]
    simp [upL, Nat.min_eq_left (Nat.le_of_lt hk)]
  · rw [List.getElem?_eq_none (by simp [upL]; omega), List.getElem?_eq_none (by omega)]
theorem upK_set {l : List UInt8} {k : Nat} (hk : k < l.length) : (upK l k).set k (upC (l.getD k 0)) = upK l (k + 1) := by
  unfold upK
  have e1 : (upL (l.take k)).length = k := by simp [upL]; omega
  rw [List.set_append_right k _ (by omega), e1, Nat.sub_self, List.drop_eq_getElem_cons hk, List.set_cons_zero, List.take_succ_eq_append_getElem hk, upL_append]
  simp [upL, List.getD_eq_getElem?_getD, hk]

theorem upK_keep {l : List UInt8} {k : Nat} (hk : k < l.length) (h : upC (l.getD k 0) = l.getD k 0) : upK l k = upK l (k + 1) := by
  rw [← upK_set hk, h, ← upK_get (l := l) (k := k)]
  have hk' : k < (upK l k).length := by rw [upK_length]; exact hk
  rw [List.getD_eq_getElem?_getD, List.getElem?_eq_getElem hk']
  simp
theorem upC_keep {x : UInt8} (h : ¬ (97 ≤ x.toNat ∧ x.toNat ≤ 122)) : upC x = x := by
  apply UInt8.toNat_inj.1
  rw [upC_nat]
  unfold upN
  rw [if_neg h]
theorem upC_turn {x : UInt8} (h : 97 ≤ x.toNat ∧ x.toNat ≤ 122) : (upC x).toNat = x.toNat - 32 := by
  rw [upC_nat]
  unfold upN
  rw [if_pos h]

end Go.Proofs.YtlfhhnjdfpgadaaDoor

/-
  Plain mathematics for layer 11 (line): a property as a line, and that line read.
-/
namespace Go.Proofs.YtlfhhnjdfpgadaaDoor
open Go.RowKit

def hasSep (v : List UInt8) : Bool := v.any fun c => decide (c.toNat = 44) || decide (c.toNat = 59) || decide (c.toNat = 58)
/-- A value as it is written. -/
def quoteL (v : List UInt8) : List UInt8 := if hasSep v = true then 34 :: (v ++ [34]) else v
def moreL (vs : List (List UInt8)) : List UInt8 := vs.flatMap fun v => 44 :: quoteL v
def valsL : List (List UInt8) → List UInt8
  | [] => []
  | v :: vs => quoteL v ++ moreL vs
def parT (x : Par) : List UInt8 := 59 :: (x.name ++ 61 :: valsL x.vals)
def textL (p : Pro) : List UInt8 := p.name ++ (p.pars.flatMap parT ++ 58 :: p.value)
/-- A name in great letters. -/
def nameOk (n : List UInt8) : Prop := n.all nbC = true ∧ n ≠ [] ∧ n.length ≤ 64 ∧ upL n = n
def plainOk (v : List UInt8) : Prop := v.all qvC = true ∧ vld v = true
def valueOk (v : List UInt8) : Prop := v.all (fun c => !ctlN c.toNat) = true ∧ vld v = true
def parOk (x : Par) : Prop := nameOk x.name ∧ x.vals ≠ [] ∧ ∀ v ∈ x.vals, plainOk v
def proOk (p : Pro) : Prop := nameOk p.name ∧ p.pars.length ≤ 16 ∧ valueOk p.value ∧ (∀ x ∈ p.pars, parOk x) ∧ (textL p).length ≤ 1024

theorem tw_all {f : UInt8 → Bool} : ∀ {a : List UInt8} {b : List UInt8}, a.all f = true → (∀ c, b.head? = some c → f c = false) → (a ++ b).takeWhile f = a
  | [], [], _, _ => rfl
  | [], c :: b, _, h => by
    have := h c rfl
    simp [this]
  | x :: a, b, ha, h => by
    simp only [List.all_cons, Bool.and_eq_true] at ha
    simp [ha.1, tw_all ha.2 h]
theorem rdName_ok {n : List UInt8} (h : nameOk n) {c : UInt8} (r : List UInt8) (hc : nbC c = false) : rdName (n ++ c :: r) = .ok n (c :: r) := by
  obtain ⟨h1, h2, h3, h4⟩ := h
  have e : (n ++ c :: r).takeWhile nbC = n := tw_all h1 (fun x hx => by simp at hx; subst hx; exact hc)
  unfold rdName
  rw [e, if_neg (by omega), if_neg h2, h4]
  simp
theorem uv_of {v : List UInt8} (h : plainOk v) (hs : hasSep v = false) : v.all uvC = true := by
  rw [List.all_eq_true]
  intro c hc
  have h1 := List.all_eq_true.1 h.1 c hc
  unfold hasSep at hs
  rw [List.any_eq_false] at hs
  have h2 := hs c hc
  unfold uvC
  simp only [Bool.or_eq_true, decide_eq_true_eq, not_or] at h2
  simp [h1, h2]
theorem rdVal_ok {v : List UInt8} (h : plainOk v) {c : UInt8} (r : List UInt8) (hc : c.toNat = 44 ∨ c.toNat = 59 ∨ c.toNat = 58) : rdVal (quoteL v ++ c :: r) = .ok v (c :: r) := by
  have hu : uvC c = false := by unfold uvC; rcases hc with h | h | h <;> simp [h]
  have hc34 : c ≠ 34 := by intro e; subst e; rcases hc with h | h | h <;> exact absurd h (by decide)
  unfold quoteL
  cases hs : hasSep v
  · rw [if_neg (by decide)]
    have e : (v ++ c :: r).takeWhile uvC = v := tw_all (uv_of h hs) (fun x hx => by simp at hx; subst hx; exact hu)
    have hh : (v ++ c :: r).head? ≠ some 34 := by
      cases v with
      | nil => simpa using hc34
      | cons x v =>
        simp only [List.cons_append, List.head?_cons, ne_eq, Option.some.injEq]
        intro e
        have := h.1
        simp only [List.all_cons, Bool.and_eq_true] at this
        have h1 := this.1
        subst e
        exact absurd h1 (by decide)
    unfold rdVal
    rw [if_neg hh, e]
    simp
  · rw [if_pos rfl]
    have e0 : (34 :: (v ++ [34]) ++ c :: r) = 34 :: (v ++ 34 :: c :: r) := by simp
    have e : (v ++ 34 :: c :: r).takeWhile qvC = v := tw_all h.1 (fun x hx => by simp at hx; subst hx; decide)
    unfold rdVal
    rw [e0, if_pos (by rfl)]
    show rdQuoted (v ++ 34 :: c :: r) = _
    unfold rdQuoted
    rw [e, if_pos (by simp)]
    congr 1
    simp [List.drop_append]
theorem moreL_cons (v : List UInt8) (vs : List (List UInt8)) : moreL (v :: vs) = 44 :: (quoteL v ++ moreL vs) := by simp [moreL]
/-- What stands behind a value: a comma, or what stands behind them all. -/
theorem more_head (vs : List (List UInt8)) {c : UInt8} (r : List UInt8) (hc : c.toNat = 59 ∨ c.toNat = 58) : ∃ c' r', moreL vs ++ c :: r = c' :: r' ∧ (c'.toNat = 44 ∨ c'.toNat = 59 ∨ c'.toNat = 58) := by
  cases vs with
  | nil => exact ⟨c, r, rfl, .inr hc⟩
  | cons v vs => exact ⟨44, _, by rw [moreL_cons]; rfl, .inl rfl⟩
theorem rdMore_ok : ∀ (vs : List (List UInt8)) (f : Nat) (acc : List (List UInt8)) {c : UInt8} (r : List UInt8), (∀ v ∈ vs, plainOk v) → (c.toNat = 59 ∨ c.toNat = 58) → (moreL vs ++ c :: r).length ≤ f →
    rdMore f (moreL vs ++ c :: r) acc = .ok (acc ++ vs) (c :: r)
  | [], f, acc, c, r, _, hc, _ => by
    have hne : ¬ (c :: r).head? = some 44 := by
      simp only [List.head?_cons, Option.some.injEq]
      intro e; subst e
      rcases hc with h | h <;> exact absurd h (by decide)
    cases f with
    | zero => simp [rdMore, moreL]
    | succ f => simp only [moreL, List.flatMap_nil, List.nil_append, rdMore]; rw [if_neg hne]; simp
  | v :: vs, 0, acc, c, r, _, _, hf => by simp at hf
  | v :: vs, f + 1, acc, c, r, hv, hc, hf => by
    have e : moreL (v :: vs) ++ c :: r = 44 :: (quoteL v ++ (moreL vs ++ c :: r)) := by rw [moreL_cons]; simp
    rw [e] at hf ⊢
    obtain ⟨c', r', e', hc'⟩ := more_head vs r hc
    rw [rdMore, if_pos (by rfl)]
    show (match rdVal (quoteL v ++ (moreL vs ++ c :: r)) with | .ok v r => rdMore f r (acc ++ [v]) | .bad e => .bad e) = _
    rw [e', rdVal_ok (hv v (by simp)) r' hc', ← e']
    dsimp only
    rw [rdMore_ok vs f (acc ++ [v]) r (fun u hu => hv u (by simp [hu])) hc (by simp at hf ⊢; omega)]
    simp
theorem rdPar_ok {x : Par} (h : parOk x) {c : UInt8} (r : List UInt8) (hc : c.toNat = 59 ∨ c.toNat = 58) : rdPar (x.name ++ 61 :: (valsL x.vals ++ c :: r)) = .ok x (c :: r) := by
  obtain ⟨hn, hv, hp⟩ := h
  unfold rdPar
  rw [rdName_ok hn _ (by decide)]
  obtain ⟨n, vals⟩ := x
  cases vals with
  | nil => exact absurd rfl hv
  | cons v vs =>
    dsimp only
    rw [if_pos (by rfl)]
    obtain ⟨c', r', e', hc'⟩ := more_head vs r hc
    have e : (61 :: (valsL (v :: vs) ++ c :: r)).drop 1 = quoteL v ++ (moreL vs ++ c :: r) := by simp [valsL]
    rw [e, e', rdVal_ok (hp v (by simp)) r' hc', ← e']
    dsimp only
    rw [rdMore_ok vs _ [v] r (fun u hu => hp u (by simp [hu])) hc (Nat.le_refl _)]
    rfl
theorem pars_head (ps : List Par) (r : List UInt8) : ∃ c' r', ps.flatMap parT ++ 58 :: r = c' :: r' ∧ (c'.toNat = 59 ∨ c'.toNat = 58) := by
  cases ps with
  | nil => exact ⟨58, r, rfl, .inr rfl⟩
  | cons p ps => exact ⟨59, _, by simp only [List.flatMap_cons, parT]; rfl, .inl rfl⟩
theorem rdPars_ok : ∀ (ps : List Par) (f : Nat) (acc : List Par) (r : List UInt8), (∀ x ∈ ps, parOk x) → acc.length + ps.length ≤ 16 → (ps.flatMap parT ++ 58 :: r).length ≤ f → rdPars f (ps.flatMap parT ++ 58 :: r) acc = .ok (acc ++ ps) (58 :: r)
  | [], f, acc, r, _, _, _ => by
    have hne : ¬ ((58 : UInt8) :: r).head? = some 59 := by simp
    cases f with
    | zero => simp [rdPars]
    | succ f => simp only [List.flatMap_nil, List.nil_append, rdPars]; rw [if_neg hne]; simp
  | x :: ps, 0, acc, r, _, _, hf => by simp at hf
  | x :: ps, f + 1, acc, r, hx, hl, hf => by
    have e : (x :: ps).flatMap parT ++ 58 :: r = 59 :: (x.name ++ 61 :: (valsL x.vals ++ (ps.flatMap parT ++ 58 :: r))) := by
      simp [parT]
    rw [e] at hf ⊢
    obtain ⟨c', r', e', hc'⟩ := pars_head ps r
    rw [rdPars, if_pos (by rfl), if_neg (by simp at hl; omega)]
    show (match rdPar (x.name ++ 61 :: (valsL x.vals ++ (ps.flatMap parT ++ 58 :: r))) with | .bad e => Got.bad e | .ok p r => rdPars f r (acc ++ [p])) = _
    rw [e', rdPar_ok (hx x (by simp)) r' hc', ← e']
    dsimp only
    rw [rdPars_ok ps f (acc ++ [x]) r (fun y hy => hx y (by simp [hy])) (by simp at hl ⊢; omega) (by simp at hf ⊢; omega)]
    simp
theorem rdRest_ok {p : Pro} (h : proOk p) : rdRest (textL p) = .ok p [] := by
  obtain ⟨hn, hl, hv, hp, _⟩ := h
  obtain ⟨c', r', e', hc'⟩ := pars_head p.pars p.value
  have hnb : nbC c' = false := by
    unfold nbC nbN letN digN
    rcases hc' with h | h <;> rw [h] <;> decide
  unfold rdRest textL
  rw [e', rdName_ok hn r' hnb, ← e']
  dsimp only
  rw [rdPars_ok p.pars _ [] p.value hp (by simpa using hl) (Nat.le_refl _)]
  dsimp only
  rw [if_pos (by rfl)]
  show (if p.value.all (fun c => !ctlN c.toNat) = true then Got.ok (Pro.mk p.name ([] ++ p.pars) p.value) [] else Got.bad 10) = _
  rw [if_pos hv.1]
  rfl

theorem vld_ascii : ∀ (l : List UInt8), (∀ c ∈ l, c.toNat < 128) → vld l = true
  | [], _ => vld_nil
  | c :: l, h => by
    have h1 := vld_ascii l (fun x hx => h x (by simp [hx]))
    have hr : runeL (c :: l) = 1 := by
      unfold runeL
      rw [if_pos (by simpa [byt] using h c (by simp))]
    rw [vld_step (by simp) (by rw [hr]; decide), hr]
    exact h1
theorem vld_join {a b : List UInt8} (ha : vld a = true) (hb : vld b = true) : vld (a ++ b) = true := vld_app a.length a b (Nat.le_refl _) ha hb
theorem nb_ascii {c : UInt8} (h : nbC c = true) : c.toNat < 128 := by
  unfold nbC nbN letN digN at h
  simp only [Bool.or_eq_true, Bool.and_eq_true, decide_eq_true_eq] at h
  omega
theorem vld_name {n : List UInt8} (h : nameOk n) : vld n = true := vld_ascii n fun c hc => nb_ascii (List.all_eq_true.1 h.1 c hc)
theorem vld_cons {c : UInt8} {l : List UInt8} (hc : c.toNat < 128) (h : vld l = true) : vld (c :: l) = true := vld_join (a := [c]) (vld_ascii _ (by simpa using hc)) h
theorem vld_quote {v : List UInt8} (h : vld v = true) : vld (quoteL v) = true := by
  unfold quoteL
  split
  · exact vld_cons (by decide) (vld_join h (vld_ascii _ (by decide)))
  · exact h
theorem vld_more : ∀ (vs : List (List UInt8)), (∀ v ∈ vs, plainOk v) → vld (moreL vs) = true
  | [], _ => vld_nil
  | v :: vs, h => by
    rw [moreL_cons]
    exact vld_cons (by decide) (vld_join (vld_quote (h v (by simp)).2) (vld_more vs fun u hu => h u (by simp [hu])))
theorem vld_par {x : Par} (h : parOk x) : vld (parT x) = true := by
  obtain ⟨hn, hv, hp⟩ := h
  obtain ⟨n, vals⟩ := x
  refine vld_cons (by decide) (vld_join (vld_name hn) (vld_cons (by decide) ?_))
  cases vals with
  | nil => exact vld_nil
  | cons v vs => exact vld_join (vld_quote (hp v (by simp)).2) (vld_more vs fun u hu => hp u (by simp [hu]))
theorem vld_pars : ∀ (ps : List Par), (∀ x ∈ ps, parOk x) → vld (ps.flatMap parT) = true
  | [], _ => vld_nil
  | x :: ps, h => by
    rw [List.flatMap_cons]
    exact vld_join (vld_par (h x (by simp))) (vld_pars ps fun y hy => h y (by simp [hy]))
/-- What is written is read as it was. -/
theorem parse_print {p : Pro} (h : proOk p) : parL (textL p) = (p, 0) := by
  have hv : vld (textL p) = true := vld_join (vld_name h.1) (vld_join (vld_pars _ h.2.2.2.1) (vld_cons (by decide) h.2.2.1.2))
  unfold parL
  rw [if_neg (by have := h.2.2.2.2; omega), if_pos hv, rdRest_ok h]

end Go.Proofs.YtlfhhnjdfpgadaaDoor
