/-
  Whether a text begins with a number of one form, as the program tells.
-/
import Derived.WalkSpells
import Derived.WalkLawsBesides
import Derived.Deep.QuietTactic
import Derived.BigQuiet
import Derived.Test.YtnadnccmlbleoaaDoorTextLib
import Derived.Test.YtnadnccmlbleoaaDoorTextUtfM
import Derived.Test.YtnadnccmlbleoaaDoorTextUnp
namespace Go.Proofs.YtnadnccmlbleoaaDoor
open Go.RowKit

theorem bits_ori32 (a b : Nat) (ha : a < 1073741824) (hb : b < 1073741824) : bits .or .i32 (a : Int) (b : Int) = ((a ||| b : Nat) : Int) := by
  show IntKind.i32.wrap ((BitVec.ofInt 32 (a : Int) ||| BitVec.ofInt 32 (b : Int)).toNat : Int) = _
  rw [BitVec.toNat_or, BitVec.ofInt_natCast, BitVec.ofInt_natCast, BitVec.toNat_ofNat, BitVec.toNat_ofNat, Nat.mod_eq_of_lt (by omega), Nat.mod_eq_of_lt (by omega)]
  have : a ||| b < 2 ^ 30 := Nat.or_lt_two_pow ha hb
  exact IntWalk.i32_in _ (by omega)
theorem held6i (n c : Nat) (hn : n < 16777216) (hc : c < 64) : bits .or .i32 ((n : Int) * 64) (c : Int) = ((n * 64 + c : Nat) : Int) := by
  have e : (n : Int) * 64 = ((n * 64 : Nat) : Int) := by omega
  rw [e, bits_ori32 _ _ (by omega) (by omega), show n * 64 = n * 2 ^ 6 by rfl, or_low _ _ 6 (by omega)]
theorem valN_lt (l : List UInt8) (M : Nat) (hM : 0 < M) (hM2 : M ≤ 128) (i : Nat) (hi : i ≤ 3) : valN l M i < 128 * 64 ^ i := by
  have h0 := Nat.mod_lt (byt l 0) hM
  rcases (show i = 0 ∨ i = 1 ∨ i = 2 ∨ i = 3 by omega) with rfl | rfl | rfl | rfl <;> simp only [valN] <;> omega
theorem form_bits : ∀ (k : Fin 4) (c : Fin 256), bits .andNot .u8 (c.val : Int) ((formM k.val - 1 : Nat) : Int) = ((c.val - c.val % formM k.val : Nat) : Int) ∧ bits .and .u8 (c.val : Int) ((formM k.val - 1 : Nat) : Int) = ((c.val % formM k.val : Nat) : Int) := by decide +kernel
theorem cont_bits : ∀ (c : Fin 256), bits .andNot .u8 (c.val : Int) 63 = ((c.val - c.val % 64 : Nat) : Int) := by decide +kernel
theorem conts_not (l : List UInt8) (k i : Nat) (h : i < k) (hc : cont l (1 + i) = false) : conts l k = false := by
  induction k with
  | zero => omega
  | succ k ih =>
    show (conts l k && cont l (1 + k)) = false
    by_cases e : i = k
    · rw [← e, hc]; simp
    · rw [ih (by omega)]; rfl
theorem bytG {s : ByteArray} {k : Nat} (h : k < s.size) : byt s.data.toList k = s[k].toNat := by unfold byt; rw [getB h]

theorem surr_int (n lo hi : Nat) (h1 : lo ≤ n) (h2 : n ≤ hi) : (decide ((n : Int) < 55296) || decide ((57343 : Int) < (n : Int))) = (decide (lo ≤ n) && decide (n ≤ hi) && surr n) := by
  have e1 : decide ((n : Int) < 55296) = decide (n < 55296) := decide_eq_decide.2 (by omega)
  have e2 : decide ((57343 : Int) < (n : Int)) = decide (57343 < n) := decide_eq_decide.2 (by omega)
  rw [e1, e2, decide_eq_true h1, decide_eq_true h2]; rfl
theorem cell_new4 (w : World) (vs : Array Value) (t : TypeId) (j : Nat) (v : Value) (h : vs[j]? = some v) : (w.alloc (.cells vs t)).cell? ⟨w.heap.size, j, none⟩ = some v := by
  have hh := heap_alloc_new w (.cells vs t)
  simp only [World.cell?, hh]
  simpa using h

set_option maxRecDepth 100000 in
set_option maxHeartbeats 4000000 in
theorem begins_in (h m1 lo hi M : Nat) (k : Nat) (hk : k ≤ 3) (hM : 0 < M) (hM2 : M ≤ 128) (_hlo : lo ≤ 1114111) (_hhi : hi ≤ 1114111) (t : ByteArray) (ht0 : 0 < t.size) (ht : t.size ≤ 16777216)
    (hA : bits .andNot .u8 (t[0].toNat : Int) (m1 : Int) = ((t[0].toNat - t[0].toNat % M : Nat) : Int)) (hB : bits .and .u8 (t[0].toNat : Int) (m1 : Int) = ((t[0].toNat % M : Nat) : Int)) (w : World) :
    Calls Tryd.prog 32 #[.agg #[.int .u8 (h : Int), .int .u8 (m1 : Int), .int .i32 (lo : Int), .int .i32 (hi : Int)], .string t, .int .i64 (k : Int)] w fun e w' => e = .returned (.bool (begF h M lo hi t.data.toList k)) ∧ Below w.heap.size w w' := by
  have hlen := Lib.hid (bsize t)
  have hb0 := Lib.hid (bytG ht0)
  obtain ⟨X, hX⟩ : ∃ X, X = t[0].toNat - t[0].toNat % M := ⟨_, rfl⟩
  obtain ⟨n0, hn0⟩ : ∃ n, n = t[0].toNat % M := ⟨_, rfl⟩
  rw [← hX] at hA
  rw [← hn0] at hB
  have hn128 : n0 < 128 := by have := Nat.mod_lt t[0].toNat hM; omega
  have HX : Hid (X = byt t.data.toList 0 - byt t.data.toList 0 % M) := Lib.hid (by rw [hb0.out]; exact hX)
  have HN0 : Hid (n0 = valN t.data.toList M 0) := Lib.hid (by unfold valN; rw [hb0.out]; exact hn0)
  clear hX hn0
  have hi0 : (0 : Int) < (t.size : Int) := by omega
  have hw : IntKind.i32.wrap (n0 : Int) = (n0 : Int) := IntWalk.i32_in _ (by omega)
  go_enter Tryd.func32, Tryd.ntmps32
  have HB0 := Lib.hid ((Below.refl w.heap.size w).alloc (Nat.le_refl _) (.cells #[.int .u8 (h : Int), .int .u8 (m1 : Int), .int .i32 (lo : Int), .int .i32 (hi : Int)] 41))
  go_wp2_with fail
  have q0 := cell_new4 w #[.int .u8 (h : Int), .int .u8 (m1 : Int), .int .i32 (lo : Int), .int .i32 (hi : Int)] 41 0 _ rfl
  have q1 := cell_new4 w #[.int .u8 (h : Int), .int .u8 (m1 : Int), .int .i32 (lo : Int), .int .i32 (hi : Int)] 41 1 _ rfl
  have q2 := cell_new4 w #[.int .u8 (h : Int), .int .u8 (m1 : Int), .int .i32 (lo : Int), .int .i32 (hi : Int)] 41 2 _ rfl
  have q3 := cell_new4 w #[.int .u8 (h : Int), .int .u8 (m1 : Int), .int .i32 (lo : Int), .int .i32 (hi : Int)] 41 3 _ rfl
  generalize w.alloc (.cells #[.int .u8 (h : Int), .int .u8 (m1 : Int), .int .i32 (lo : Int), .int .i32 (hi : Int)] 41) = w1 at q0 q1 q2 q3 HB0 ⊢
  by_cases hXh : X = h
  · have t1 : ((X : Int) != (h : Int)) = false := by simp [hXh]
    have HXH := Lib.hid hXh; clear hXh
    by_cases hks : k < t.size
    · have t2 : decide ((t.size : Int) ≤ (k : Int)) = false := by simp; omega
      have t2n : decide (t.size ≤ k) = false := by simp; omega
      go_quiet (fail)
      have HB1 := Lib.hid (bdrewN HB0.out nq)
      replace q0 : (w1.drewN nq).cell? ⟨w.heap.size, 0, none⟩ = some (.int .u8 (h : Int)) := q0
      replace q1 : (w1.drewN nq).cell? ⟨w.heap.size, 1, none⟩ = some (.int .u8 (m1 : Int)) := q1
      replace q2 : (w1.drewN nq).cell? ⟨w.heap.size, 2, none⟩ = some (.int .i32 (lo : Int)) := q2
      replace q3 : (w1.drewN nq).cell? ⟨w.heap.size, 3, none⟩ = some (.int .i32 (hi : Int)) := q3
      generalize w1.drewN nq = w2 at q0 q1 q2 q3 HB1 ⊢
      clear HB0
      go_wp2_with fail
      go_quiet (fail)
      have HB2 := Lib.hid (bdrewN HB1.out nq)
      replace q2 : (w2.drewN nq).cell? ⟨w.heap.size, 2, none⟩ = some (.int .i32 (lo : Int)) := q2
      replace q3 : (w2.drewN nq).cell? ⟨w.heap.size, 3, none⟩ = some (.int .i32 (hi : Int)) := q3
      generalize w2.drewN nq = w3 at q2 q3 HB2 ⊢
      clear HB1 q0 q1
      go_wp2
      go_loopw [7, 31] (fun x p wr => ∃ i n : Nat, p = .int .i64 i ∧ i ≤ k ∧ x = .int .i32 n ∧ Hid (n = valN t.data.toList M i) ∧ Hid (conts t.data.toList i = true) ∧ wr = w3) (fun _ p _ => k - (intOf p).toNat)
      case atStart => exact ⟨0, n0, rfl, Nat.zero_le _, rfl, HN0, Lib.hid rfl, rfl⟩
      case round =>
        obtain ⟨i, n, rfl, hik, rfl, HN, HC, hw3⟩ := hrel
        subst hw3
        have hnl := valN_lt t.data.toList M hM hM2 i (by omega)
        rw [← HN.out] at hnl
        by_cases hlt : i < k
        · have hlt2 : 1 + i < t.size := by omega
          have hin : (1 : Int) + (i : Int) < (t.size : Int) := by omega
          have hcb := t[1 + i].toNat_lt
          have hbb := Lib.hid (bytG hlt2)
          have hx := cont_bits ⟨t[1 + i].toNat, hcb⟩
          simp only at hx
          have hn24 : n < 524288 := by rcases (show i = 0 ∨ i = 1 ∨ i = 2 by omega) with rfl | rfl | rfl <;> omega
          by_cases hct : cont t.data.toList (1 + i) = true
          · have hct2 := (cont_iff _ _).1 hct
            rw [hbb.out] at hct2
            have t3 : (((t[1 + i].toNat - t[1 + i].toNat % 64 : Nat) : Int) != 128) = false := by simp; omega
            have HC2 : Hid (conts t.data.toList (i + 1) = true) := Lib.hid (by
              show (conts t.data.toList i && cont t.data.toList (1 + i)) = true
              rw [HC.out, hct]; rfl)
            have HN2 : Hid (n * 64 + t[1 + i].toNat % 64 = valN t.data.toList M (i + 1)) := Lib.hid (by
              show _ = valN t.data.toList M i * 64 + byt t.data.toList (1 + i) % 64
              rw [← HN.out, hbb.out])
            have hor := held6i n (t[1 + i].toNat % 64) (by omega) (by omega)
            clear hct hct2
            go_wp2
            go_round
            case rel => exact ⟨i + 1, n * 64 + t[1 + i].toNat % 64, by go_num, by omega, by go_num, HN2, HC2, by first | rfl | trivial⟩
            case measure => simp [intOf]; omega
          · have HF : Hid (begF h M lo hi t.data.toList k = false) := Lib.hid (by
              have : conts t.data.toList k = false := conts_not _ _ _ hlt (by simpa using hct)
              unfold begF
              rw [this]; simp)
            have t3 : (((t[1 + i].toNat - t[1 + i].toNat % 64 : Nat) : Int) != 128) = true := by
              have hct2 := mt (cont_iff t.data.toList (1 + i)).2 hct
              rw [hbb.out] at hct2
              simp; omega
            clear hct
            go_wp2
            go_ret
            exact ⟨by rw [HF.out]; rfl, HB2.out⟩
        · obtain rfl : i = k := by omega
          have HF : Hid (begF h M lo hi t.data.toList i = (decide (lo ≤ n) && decide (n ≤ hi) && surr n)) := Lib.hid (by
            unfold begF
            rw [HC.out, ← HX.out, ← hlen.out, ← HN.out, HXH.out]
            simp [hks])
          go_wp2
          all_goals go_ret
          all_goals refine ⟨?_, HB2.out⟩
          all_goals rw [HF.out]
          · exact congrArg (fun b => Ending.returned (.bool b)) (surr_int n lo hi (by omega) (by omega))
          · exact congrArg (fun b => Ending.returned (.bool b)) (by simp [surr]; omega)
          · exact congrArg (fun b => Ending.returned (.bool b)) (by simp; omega)
          · exact congrArg (fun b => Ending.returned (.bool b)) (by simp; omega)
    · have t2 : decide ((t.size : Int) ≤ (k : Int)) = true := by simp; omega
      have HF : Hid (begF h M lo hi t.data.toList k = false) := Lib.hid (by
        unfold begF
        rw [← hlen.out]
        simp [hks])
      go_quiet (fail)
      go_wp2
      go_ret
      exact ⟨by rw [HF.out]; rfl, bdrewN HB0.out _⟩
  · have t1 : ((X : Int) != (h : Int)) = true := by simp; omega
    have HF : Hid (begF h M lo hi t.data.toList k = false) := Lib.hid (by
      unfold begF
      rw [← HX.out]
      simp [hXh])
    clear hXh
    go_quiet (fail)
    go_wp2
    go_ret
    exact ⟨by rw [HF.out]; rfl, bdrewN HB0.out _⟩

end Go.Proofs.YtnadnccmlbleoaaDoor
