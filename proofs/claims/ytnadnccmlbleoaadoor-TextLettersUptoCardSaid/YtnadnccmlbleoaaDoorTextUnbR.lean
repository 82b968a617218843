/-
  Base 64 taken back, as the document does it.
-/
import Derived.Test.YtnadnccmlbleoaaDoorTextB64R
import Derived.Test.YtnadnccmlbleoaaDoorTextUnb
namespace Go.Proofs.YtnadnccmlbleoaaDoor
open Go.RowKit

theorem sext_hit : ∀ (c : Fin 256) (i : Fin 64), letters.getD i.val 0 = UInt8.ofNat c.val → Lib.indexByte letters (UInt8.ofNat c.val) = i.val := by decide +kernel
theorem sext_miss : ∀ c : Fin 256, Lib.indexByte letters (UInt8.ofNat c.val) = -1 ∨ ∃ i : Fin 64, letters.getD i.val 0 = UInt8.ofNat c.val := by decide +kernel
theorem lit_get (i : Nat) (h : i < 64) : ((⟨#[65, 66, 67, 68, 69, 70, 71, 72, 73, 74, 75, 76, 77, 78, 79, 80, 81, 82, 83, 84, 85, 86, 87, 88, 89, 90, 97, 98, 99, 100, 101, 102, 103, 104, 105, 106, 107, 108, 109, 110, 111, 112, 113, 114, 115, 116, 117, 118, 119, 120, 121, 122, 48, 49, 50, 51, 52, 53, 54, 55, 56, 57, 43, 47]⟩ : ByteArray)[i]'h) = letters.getD i 0 := by
  have hh : ∀ x : Fin 64, ((⟨letters.toArray⟩ : ByteArray)[x.val]'x.isLt) = letters.getD x.val 0 := by decide +kernel
  exact hh ⟨i, h⟩

set_option maxRecDepth 100000 in
set_option maxHeartbeats 2000000 in
theorem refSextet_any (c : UInt8) (w : World) :
    Calls Tryd.prog 31 #[.int .u8 (c.toNat : Int)] w fun e w' => e = .returned (.int .i64 (Lib.indexByte letters c)) ∧ w' = w := by
  have hc := c.toNat_lt
  go_enter Tryd.func31, Tryd.ntmps31
  go_wp2
  go_loopw [3] (fun p wr => ∃ i : Nat, p = .int .i64 i ∧ i ≤ 64 ∧ wr = w ∧ Hid (∀ j, j < i → letters.getD j 0 ≠ c)) (fun p _ => 64 - (intOf p).toNat)
  case atStart => exact ⟨0, rfl, Nat.zero_le _, rfl, Lib.hid fun j hj => absurd hj (Nat.not_lt_zero _)⟩
  case round =>
    obtain ⟨i, rfl, hi, rfl, HN⟩ := hrel
    by_cases hlt : i < 64
    · have hg := Lib.hid (lit_get i hlt)
      by_cases he : letters.getD i 0 = c
      · have HI : Hid (Lib.indexByte letters c = i) := Lib.hid (by
          have := sext_hit ⟨c.toNat, hc⟩ ⟨i, hlt⟩
          simp only [UInt8.ofNat_toNat] at this
          exact this he)
        have hb : ((((⟨#[65, 66, 67, 68, 69, 70, 71, 72, 73, 74, 75, 76, 77, 78, 79, 80, 81, 82, 83, 84, 85, 86, 87, 88, 89, 90, 97, 98, 99, 100, 101, 102, 103, 104, 105, 106, 107, 108, 109, 110, 111, 112, 113, 114, 115, 116, 117, 118, 119, 120, 121, 122, 48, 49, 50, 51, 52, 53, 54, 55, 56, 57, 43, 47]⟩ : ByteArray)[i]'hlt).toNat : Int) == (c.toNat : Int)) = true := by
          rw [lit_get i hlt, he]; simp
        clear he
        go_wp2
        go_ret
        exact ⟨by rw [HI.out]; rfl, by first | rfl | trivial⟩
      · have HN2 : Hid (∀ j, j < i + 1 → letters.getD j 0 ≠ c) := Lib.hid fun j hj => by
          by_cases h : j = i
          · subst h; exact he
          · exact HN.out j (by omega)
        have hb : ((((⟨#[65, 66, 67, 68, 69, 70, 71, 72, 73, 74, 75, 76, 77, 78, 79, 80, 81, 82, 83, 84, 85, 86, 87, 88, 89, 90, 97, 98, 99, 100, 101, 102, 103, 104, 105, 106, 107, 108, 109, 110, 111, 112, 113, 114, 115, 116, 117, 118, 119, 120, 121, 122, 48, 49, 50, 51, 52, 53, 54, 55, 56, 57, 43, 47]⟩ : ByteArray)[i]'hlt).toNat : Int) == (c.toNat : Int)) = false := by
          rw [lit_get i hlt, beq_eq_false_iff_ne]
          intro h
          exact he (UInt8.toNat_inj.1 (by omega))
        clear he
        go_wp2
        go_round
        case rel => exact ⟨i + 1, by go_num, by omega, by first | rfl | trivial, HN2⟩
        case measure => simp [intOf]; omega
    · obtain rfl : i = 64 := by omega
      have HI : Hid (Lib.indexByte letters c = -1) := Lib.hid (by
        have := sext_miss ⟨c.toNat, hc⟩
        simp only [UInt8.ofNat_toNat] at this
        rcases this with h | ⟨j, hj⟩
        · exact h
        · exact absurd hj (HN.out j.val j.isLt))
      go_wp2
      go_ret
      exact ⟨by rw [HI.out]; rfl, by first | rfl | trivial⟩

/-- What the letter number k of a group means; below 0: it is none. -/
def dAt (L : List UInt8) (m : Nat) : Int := Lib.indexByte letters (L.getD m 0)
def grpN (L : List UInt8) (q : Nat) : Nat → Nat
  | 0 => 0
  | k + 1 => grpN L q k * 64 + (dAt L (4 * q + k)).toNat
def bysN (L : List UInt8) (q : Nat) : Nat → Int
  | 0 => 3
  | k + 1 => bysN L q k - (if dAt L (4 * q + k) < 0 then 1 else 0)
theorem dAt_lt (L : List UInt8) (m : Nat) : dAt L m < 64 ∧ -1 ≤ dAt L m := index_at _
theorem grpN_lt (L : List UInt8) (q k : Nat) (hk : k ≤ 4) : grpN L q k < 16777216 := by
  have h0 := dAt_lt L (4 * q)
  have h1 := dAt_lt L (4 * q + 1)
  have h2 := dAt_lt L (4 * q + 2)
  have h3 := dAt_lt L (4 * q + 3)
  rcases (show k = 0 ∨ k = 1 ∨ k = 2 ∨ k = 3 ∨ k = 4 by omega) with rfl | rfl | rfl | rfl | rfl <;> simp only [grpN, Nat.add_zero] <;> omega
theorem bysN_in (L : List UInt8) (q k : Nat) (hk : k ≤ 4) : -1 ≤ bysN L q k ∧ bysN L q k ≤ 3 := by
  rcases (show k = 0 ∨ k = 1 ∨ k = 2 ∨ k = 3 ∨ k = 4 by omega) with rfl | rfl | rfl | rfl | rfl <;> simp only [bysN, Nat.add_zero] <;> (repeat' split) <;> omega
/-- A number's three bytes. -/
def outs (n : Nat) : List UInt8 := [UInt8.ofNat (n / 65536 % 256), UInt8.ofNat (n / 256 % 256), UInt8.ofNat (n % 256)]
theorem dAt_of {x L : List UInt8} (h : b64 x = L) {m : Nat} (hm : m < L.length) : (m < cnt x.length → dAt L m = yAt x m) ∧ (¬ m < cnt x.length → dAt L m = -1) := by
  have e := b64_at h hm
  unfold b64At at e
  unfold dAt
  rw [e]
  exact ⟨fun hc => by rw [if_pos hc, letter_index (yAt_lt x m)], fun hc => by rw [if_neg hc]; decide +kernel⟩
theorem group_of {x L : List UInt8} {q : Nat} (h : b64 x = L) (hq : 4 * q < L.length) : x.take (3 * q) ++ (outs (grpN L q 4)).take (bysN L q 4).toNat = x.take (3 * (q + 1)) := by
  have hLl : L.length = full x.length := by rw [← h, b64_length]
  have h0 := byt_lt x (3 * q)
  have h1 := byt_lt x (3 * q + 1)
  have h2 := byt_lt x (3 * q + 2)
  have hn : 3 * q < x.length := by unfold full at hLl; omega
  have hL4 : 4 * q + 3 < L.length := by unfold full at hLl; omega
  have hcn : cnt x.length = (8 * x.length + 5) / 6 := rfl
  have ob : ∀ i, i < x.length → UInt8.ofNat (byt x i) = x.getD i 0 := fun i hi => by
    unfold byt
    rw [UInt8.ofNat_toNat]
  have d0 := (dAt_of h (m := 4 * q) (by omega)).1 (by omega)
  have d1 := (dAt_of h (m := 4 * q + 1) (by omega)).1 (by omega)
  rw [y0] at d0
  rw [y1] at d1
  have tk : ∀ k, 3 * q + k ≤ x.length → x.take (3 * q + k) = x.take (3 * q) ++ (x.drop (3 * q)).take k := fun k _ => by rw [List.take_add]
  have dr : ∀ k, 3 * q + k < x.length → x.drop (3 * q + k) = x.getD (3 * q + k) 0 :: x.drop (3 * q + k + 1) := fun k hk => by
    rw [List.drop_eq_getElem_cons hk, List.getD_eq_getElem?_getD, List.getElem?_eq_getElem hk]; rfl
  rw [show 3 * (q + 1) = 3 * q + 3 by omega, List.take_add]
  congr 1
  have e0 := dr 0 (by omega)
  simp only [Nat.add_zero] at e0
  rcases (show x.length = 3 * q + 1 ∨ x.length = 3 * q + 2 ∨ 3 * q + 3 ≤ x.length by omega) with hx | hx | hx
  · have d2 := (dAt_of h (m := 4 * q + 2) (by omega)).2 (by omega)
    have d3 := (dAt_of h (m := 4 * q + 3) (by omega)).2 (by omega)
    have z1 : byt x (3 * q + 1) = 0 := byt_out (by omega)
    have hb : bysN L q 4 = 1 := by
      simp only [bysN, Nat.add_zero, d0, d1, d2, d3]
      (repeat' split) <;> omega
    have hg : grpN L q 4 / 65536 % 256 = byt x (3 * q) := by
      simp only [grpN, Nat.add_zero, d0, d1, d2, d3]
      omega
    rw [hb, e0, List.drop_eq_nil_of_le (by omega)]
    simp only [outs, hg, ob (3 * q) (by omega)]
    rfl
  · have d2 := (dAt_of h (m := 4 * q + 2) (by omega)).1 (by omega)
    rw [y2] at d2
    have d3 := (dAt_of h (m := 4 * q + 3) (by omega)).2 (by omega)
    have z2 : byt x (3 * q + 2) = 0 := byt_out (by omega)
    have hb : bysN L q 4 = 2 := by
      simp only [bysN, Nat.add_zero, d0, d1, d2, d3]
      (repeat' split) <;> omega
    have hg : grpN L q 4 / 65536 % 256 = byt x (3 * q) ∧ grpN L q 4 / 256 % 256 = byt x (3 * q + 1) := by
      simp only [grpN, Nat.add_zero, d0, d1, d2, d3]
      omega
    rw [hb, e0, dr 1 (by omega), List.drop_eq_nil_of_le (by omega)]
    simp only [outs, hg.1, hg.2, ob (3 * q) (by omega), ob (3 * q + 1) (by omega)]
    rfl
  · have d2 := (dAt_of h (m := 4 * q + 2) (by omega)).1 (by omega)
    rw [y2] at d2
    have d3 := (dAt_of h (m := 4 * q + 3) (by omega)).1 (by omega)
    rw [y3] at d3
    have hb : bysN L q 4 = 3 := by
      simp only [bysN, Nat.add_zero, d0, d1, d2, d3]
      (repeat' split) <;> omega
    have hg : grpN L q 4 / 65536 % 256 = byt x (3 * q) ∧ grpN L q 4 / 256 % 256 = byt x (3 * q + 1) ∧ grpN L q 4 % 256 = byt x (3 * q + 2) := by
      simp only [grpN, Nat.add_zero, d0, d1, d2, d3]
      omega
    rw [hb, e0, dr 1 (by omega), dr 2 (by omega)]
    simp only [outs, hg.1, hg.2.1, hg.2.2, ob (3 * q) (by omega), ob (3 * q + 1) (by omega), ob (3 * q + 2) (by omega)]
    rfl

end Go.Proofs.YtnadnccmlbleoaaDoor
