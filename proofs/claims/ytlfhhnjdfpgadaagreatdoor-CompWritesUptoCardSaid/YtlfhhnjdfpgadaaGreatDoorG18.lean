/-
  The program's functions of layer 11: where a line is cut.
-/
import Derived.Lib.OthersKept
import Derived.Test.YtlfhhnjdfpgadaaGreatDoorG17
import Derived.WalkSpells
import Derived.WalkLawsBesides
import Derived.Deep.QuietTactic
import Derived.BigQuiet
import Derived.Deep.Cut
import Derived.Test.YtlfhhnjdfpgadaaGreatDoorG02
import Derived.Test.YtlfhhnjdfpgadaaGreatDoorG03
import Derived.Test.YtlfhhnjdfpgadaaGreatDoorG04
import Derived.Deep.LoopGhost
import Derived.Deep.RegionHeld3
namespace Go.Proofs.YtlfhhnjdfpgadaaGreatDoor
open Go.RowKit

theorem cutF_end (f : Nat) (pos most cut : Nat) : cutF f [] pos most cut = cut := by cases f <;> simp [cutF]
theorem below_iter (w : World) (s : ByteArray) (pos : Nat) : Below w.heap.size w (w.iter s pos) := by
  unfold World.iter
  exact (Below.refl _ w).alloc (Nat.le_refl _) _
set_option maxRecDepth 100000 in
set_option maxHeartbeats 2000000 in
theorem firstCut_any (s : ByteArray) (hs : s.size ≤ 16777216) (most : Nat) (_hm : most ≤ 75) (w : World) :
    Calls Tryz.prog 69 #[.string s, .int .i64 most] w fun e w' => e = .returned (.int .i64 (cutL s.data.toList most)) ∧ Below w.heap.size w w' := by
  have hlen := Lib.hid (bsize s)
  by_cases h1 : s.size ≤ most
  · have E := Lib.hid (show cutL s.data.toList most = s.size by rw [cut_small (by rw [← hlen.out]; exact h1), hlen.out])
    go_enter Tryz.func69, Tryz.ntmps69
    go_wp2
    go_ret
    exact ⟨by rw [E.out]; rfl, Below.refl _ _⟩
  · have E := Lib.hid (show cutL s.data.toList most = cutF s.data.toList.length s.data.toList 0 most 0 by unfold cutL; rw [if_neg (by rw [← hlen.out]; omega)])
    generalize cutL s.data.toList most = K at E ⊢
    go_enter Tryz.func69, Tryz.ntmps69
    go_wp2
    go_loopg [5] s.size (fun g c wx => ∃ pos cut f : Nat, c = .int .i64 cut ∧ pos ≤ s.size ∧ s.size ≤ pos + g ∧ s.size ≤ pos + f ∧ wx = w.iter s pos ∧ Hid (K = cutF f (s.data.toList.drop pos) pos most cut))
    case atStart => exact ⟨0, 0, s.size, rfl, by omega, by omega, by omega, rfl, Lib.hid (by rw [E.out, ← hlen.out]; simp)⟩
    case round =>
      obtain ⟨pos, cut, f, rfl, hp, hg, hf, rfl, HK⟩ := hrel
      by_cases hlt : pos < s.size
      · have hwd := dec_step s pos
        have hne : s.data.toList.drop pos ≠ [] := by
          intro h; have := congrArg List.length h; rw [List.length_drop, ← hlen.out] at this; simp at this; omega
        have hp1 := stepL_pos (s.data.toList.drop pos)
        have hp2 := stepL_le hne
        rw [List.length_drop, ← hlen.out] at hp2
        obtain ⟨f', rfl⟩ : ∃ f', f = f' + 1 := ⟨f - 1, by omega⟩
        have hnx := fun ty => run_next_any (P := Tryz.prog) w s pos ty hlt
        rw [hwd] at hnx
        have HK2 := HK.out
        rw [cutF, if_neg hne, List.drop_drop] at HK2
        generalize stepL (s.data.toList.drop pos) = k at *
        generalize (Utf8.decode s pos).1 = r at *
        by_cases hb : most < pos
        · rw [if_pos hb] at HK2
          have HK3 := Lib.hid HK2
          clear HK2 HK hne hwd
          have hbi : (most : Int) < (pos : Int) := by omega
          go_wp2
          go_ret
          exact ⟨by rw [HK3.out]; rfl, below_iter _ _ _⟩
        · rw [if_neg hb] at HK2
          have HK3 := Lib.hid HK2
          clear HK2 HK hne hwd
          have hbi : ¬ (most : Int) < (pos : Int) := by omega
          go_wp2
          go_roundg (s.size - (pos + k))
          case measure => omega
          case rel => exact ⟨pos + k, pos, f', rfl, by omega, by omega, by omega, rfl, HK3⟩
      · have hnx := fun ty => run_next_end (P := Tryz.prog) w s pos ty hlt
        have HK2 : Hid (K = cut) := Lib.hid (by rw [HK.out, List.drop_eq_nil_of_le (by rw [← hlen.out]; omega), cutF_end])
        clear HK
        go_wp2
        go_ret
        exact ⟨by rw [HK2.out]; rfl, below_iter _ _ _⟩
end Go.Proofs.YtlfhhnjdfpgadaaGreatDoor

/-
  Whether a text begins with a number of one form, as the program tells.
-/
namespace Go.Proofs.YtlfhhnjdfpgadaaGreatDoor
open Go.RowKit
theorem bdrewN {B : Nat} {w w' : World} (h : Below B w w') (n : Nat) : Below B w (w'.drewN n) := h.trans ⟨rfl, rfl, rfl, Nat.le_refl _, fun _ _ => rfl⟩

theorem bits_ori32 (a b : Nat) (ha : a < 1073741824) (hb : b < 1073741824) : bits .or .i32 (a : Int) (b : Int) = ((a ||| b : Nat) : Int) := by
  show IntKind.i32.wrap ((BitVec.ofInt 32 (a : Int) ||| BitVec.ofInt 32 (b : Int)).toNat : Int) = _
  rw [BitVec.toNat_or, BitVec.ofInt_natCast, BitVec.ofInt_natCast, BitVec.toNat_ofNat, BitVec.toNat_ofNat, Nat.mod_eq_of_lt (by omega), Nat.mod_eq_of_lt (by omega)]
  have : a ||| b < 2 ^ 30 := Nat.or_lt_two_pow ha hb
  exact IntWalk.i32_in _ (by omega)
theorem held6i (n c : Nat) (hn : n < 16777216) (hc : c < 64) : bits .or .i32 ((n : Int) * 64) (c : Int) = ((n * 64 + c : Nat) : Int) := by
  have e : (n : Int) * 64 = ((n * 64 : Nat) : Int) := by omega
  rw [e, bits_ori32 _ _ (by omega) (by omega), show n * 64 = n * 2 ^ 6 by rfl, or_low _ _ 6 (by omega)]
theorem valN_lt (l : List UInt8) (M : Nat) (hM : 0 < M) (hM2 : M ≤ 128) (i : Nat) (hi : i ≤ 3) : valN l M i < 128 * 64 ^ i := by
  have h0 := Nat.mod_lt (byt l 0) hM
  rcases (show i = 0 ∨ i = 1 ∨ i = 2 ∨ i = 3 by omega) with rfl | rfl | rfl | rfl <;> simp only [valN] <;> omega
theorem form_bits : ∀ (k : Fin 4) (c : Fin 256), bits .andNot .u8 (c.val : Int) ((formM k.val - 1 : Nat) : Int) = ((c.val - c.val % formM k.val : Nat) : Int) ∧ bits .and .u8 (c.val : Int) ((formM k.val - 1 : Nat) : Int) = ((c.val % formM k.val : Nat) : Int) := by decide +kernel
theorem cont_bits : ∀ (c : Fin 256), bits .andNot .u8 (c.val : Int) 63 = ((c.val - c.val % 64 : Nat) : Int) := by decide +kernel
theorem conts_not (l : List UInt8) (k i : Nat) (h : i < k) (hc : cont l (1 + i) = false) : conts l k = false := by
  induction k with
  | zero => omega
  | succ k ih =>
    show (conts l k && cont l (1 + k)) = false
    by_cases e : i = k
    · rw [← e, hc]; simp
    · rw [ih (by omega)]; rfl
theorem bytG {s : ByteArray} {k : Nat} (h : k < s.size) : byt s.data.toList k = s[k].toNat := by unfold byt; rw [getB h]

theorem surr_int (n lo hi : Nat) (h1 : lo ≤ n) (h2 : n ≤ hi) : (decide ((n : Int) < 55296) || decide ((57343 : Int) < (n : Int))) = (decide (lo ≤ n) && decide (n ≤ hi) && surr n) := by
  have e1 : decide ((n : Int) < 55296) = decide (n < 55296) := decide_eq_decide.2 (by omega)
  have e2 : decide ((57343 : Int) < (n : Int)) = decide (57343 < n) := decide_eq_decide.2 (by omega)
  rw [e1, e2, decide_eq_true h1, decide_eq_true h2]; rfl
theorem cell_new4 (w : World) (vs : Array Value) (t : TypeId) (j : Nat) (v : Value) (h : vs[j]? = some v) : (w.alloc (.cells vs t)).cell? ⟨w.heap.size, j, none⟩ = some v := by
  have hh := heap_alloc_new w (.cells vs t)
  simp only [World.cell?, hh]
  simpa using h

set_option maxRecDepth 100000 in
set_option maxHeartbeats 4000000 in
theorem begins_in (h m1 lo hi M : Nat) (k : Nat) (hk : k ≤ 3) (hM : 0 < M) (hM2 : M ≤ 128) (_hlo : lo ≤ 1114111) (_hhi : hi ≤ 1114111) (t : ByteArray) (ht0 : 0 < t.size) (ht : t.size ≤ 16777216)
    (hA : bits .andNot .u8 (t[0].toNat : Int) (m1 : Int) = ((t[0].toNat - t[0].toNat % M : Nat) : Int)) (hB : bits .and .u8 (t[0].toNat : Int) (m1 : Int) = ((t[0].toNat % M : Nat) : Int)) (w : World) :
    Calls Tryz.prog 77 #[.agg #[.int .u8 (h : Int), .int .u8 (m1 : Int), .int .i32 (lo : Int), .int .i32 (hi : Int)], .string t, .int .i64 (k : Int)] w fun e w' => e = .returned (.bool (begF h M lo hi t.data.toList k)) ∧ Below w.heap.size w w' := by
  have hlen := Lib.hid (bsize t)
  have hb0 := Lib.hid (bytG ht0)
  obtain ⟨X, hX⟩ : ∃ X, X = t[0].toNat - t[0].toNat % M := ⟨_, rfl⟩
  obtain ⟨n0, hn0⟩ : ∃ n, n = t[0].toNat % M := ⟨_, rfl⟩
  rw [← hX] at hA
  rw [← hn0] at hB
  have hn128 : n0 < 128 := by have := Nat.mod_lt t[0].toNat hM; omega
  have HX : Hid (X = byt t.data.toList 0 - byt t.data.toList 0 % M) := Lib.hid (by rw [hb0.out]; exact hX)
  have HN0 : Hid (n0 = valN t.data.toList M 0) := Lib.hid (by unfold valN; rw [hb0.out]; exact hn0)
  clear hX hn0
  have hi0 : (0 : Int) < (t.size : Int) := by omega
  have hw : IntKind.i32.wrap (n0 : Int) = (n0 : Int) := IntWalk.i32_in _ (by omega)
  go_enter Tryz.func77, Tryz.ntmps77
  have HB0 := Lib.hid ((Below.refl w.heap.size w).alloc (Nat.le_refl _) (.cells #[.int .u8 (h : Int), .int .u8 (m1 : Int), .int .i32 (lo : Int), .int .i32 (hi : Int)] 99))
  go_wp2_with fail
  have q0 := cell_new4 w #[.int .u8 (h : Int), .int .u8 (m1 : Int), .int .i32 (lo : Int), .int .i32 (hi : Int)] 99 0 _ rfl
  have q1 := cell_new4 w #[.int .u8 (h : Int), .int .u8 (m1 : Int), .int .i32 (lo : Int), .int .i32 (hi : Int)] 99 1 _ rfl
  have q2 := cell_new4 w #[.int .u8 (h : Int), .int .u8 (m1 : Int), .int .i32 (lo : Int), .int .i32 (hi : Int)] 99 2 _ rfl
  have q3 := cell_new4 w #[.int .u8 (h : Int), .int .u8 (m1 : Int), .int .i32 (lo : Int), .int .i32 (hi : Int)] 99 3 _ rfl
  generalize w.alloc (.cells #[.int .u8 (h : Int), .int .u8 (m1 : Int), .int .i32 (lo : Int), .int .i32 (hi : Int)] 99) = w1 at q0 q1 q2 q3 HB0 ⊢
  by_cases hXh : X = h
  · have t1 : ((X : Int) != (h : Int)) = false := by simp [hXh]
    have HXH := Lib.hid hXh; clear hXh
    by_cases hks : k < t.size
    · have t2 : decide ((t.size : Int) ≤ (k : Int)) = false := by simp; omega
      have t2n : decide (t.size ≤ k) = false := by simp; omega
      go_quiet (fail)
      have HB1 := Lib.hid (bdrewN HB0.out nq)
      replace q0 : (w1.drewN nq).cell? ⟨w.heap.size, 0, none⟩ = some (.int .u8 (h : Int)) := q0
      replace q1 : (w1.drewN nq).cell? ⟨w.heap.size, 1, none⟩ = some (.int .u8 (m1 : Int)) := q1
      replace q2 : (w1.drewN nq).cell? ⟨w.heap.size, 2, none⟩ = some (.int .i32 (lo : Int)) := q2
      replace q3 : (w1.drewN nq).cell? ⟨w.heap.size, 3, none⟩ = some (.int .i32 (hi : Int)) := q3
      generalize w1.drewN nq = w2 at q0 q1 q2 q3 HB1 ⊢
      clear HB0
      go_wp2_with fail
      go_quiet (fail)
      have HB2 := Lib.hid (bdrewN HB1.out nq)
      replace q2 : (w2.drewN nq).cell? ⟨w.heap.size, 2, none⟩ = some (.int .i32 (lo : Int)) := q2
      replace q3 : (w2.drewN nq).cell? ⟨w.heap.size, 3, none⟩ = some (.int .i32 (hi : Int)) := q3
      generalize w2.drewN nq = w3 at q2 q3 HB2 ⊢
      clear HB1 q0 q1
      go_wp2
      go_loopw [7, 31] (fun x p wr => ∃ i n : Nat, p = .int .i64 i ∧ i ≤ k ∧ x = .int .i32 n ∧ Hid (n = valN t.data.toList M i) ∧ Hid (conts t.data.toList i = true) ∧ wr = w3) (fun _ p _ => k - (intOf p).toNat)
      case atStart => exact ⟨0, n0, rfl, Nat.zero_le _, rfl, HN0, Lib.hid rfl, rfl⟩
      case round =>
        obtain ⟨i, n, rfl, hik, rfl, HN, HC, hw3⟩ := hrel
        subst hw3
        have hnl := valN_lt t.data.toList M hM hM2 i (by omega)
        rw [← HN.out] at hnl
        by_cases hlt : i < k
        · have hlt2 : 1 + i < t.size := by omega
          have hin : (1 : Int) + (i : Int) < (t.size : Int) := by omega
          have hcb := t[1 + i].toNat_lt
          have hbb := Lib.hid (bytG hlt2)
          have hx := cont_bits ⟨t[1 + i].toNat, hcb⟩
          simp only at hx
          have hn24 : n < 524288 := by rcases (show i = 0 ∨ i = 1 ∨ i = 2 by omega) with rfl | rfl | rfl <;> omega
          by_cases hct : cont t.data.toList (1 + i) = true
          · have hct2 := (cont_iff _ _).1 hct
            rw [hbb.out] at hct2
            have t3 : (((t[1 + i].toNat - t[1 + i].toNat % 64 : Nat) : Int) != 128) = false := by simp; omega
            have HC2 : Hid (conts t.data.toList (i + 1) = true) := Lib.hid (by
              show (conts t.data.toList i && cont t.data.toList (1 + i)) = true
              rw [HC.out, hct]; rfl)
            have HN2 : Hid (n * 64 + t[1 + i].toNat % 64 = valN t.data.toList M (i + 1)) := Lib.hid (by
              show _ = valN t.data.toList M i * 64 + byt t.data.toList (1 + i) % 64
              rw [← HN.out, hbb.out])
            have hor := held6i n (t[1 + i].toNat % 64) (by omega) (by omega)
            clear hct hct2
            go_wp2
            go_round
            case rel => exact ⟨i + 1, n * 64 + t[1 + i].toNat % 64, by go_num, by omega, by go_num, HN2, HC2, by first | rfl | trivial⟩
            case measure => simp [intOf]; omega
          · have HF : Hid (begF h M lo hi t.data.toList k = false) := Lib.hid (by
              have : conts t.data.toList k = false := conts_not _ _ _ hlt (by simpa using hct)
              unfold begF
              rw [this]; simp)
            have t3 : (((t[1 + i].toNat - t[1 + i].toNat % 64 : Nat) : Int) != 128) = true := by
              have hct2 := mt (cont_iff t.data.toList (1 + i)).2 hct
              rw [hbb.out] at hct2
              simp; omega
            clear hct
            go_wp2
            go_ret
            exact ⟨by rw [HF.out]; rfl, HB2.out⟩
        · obtain rfl : i = k := by omega
          have HF : Hid (begF h M lo hi t.data.toList i = (decide (lo ≤ n) && decide (n ≤ hi) && surr n)) := Lib.hid (by
            unfold begF
            rw [HC.out, ← HX.out, ← hlen.out, ← HN.out, HXH.out]
            simp [hks])
          go_wp2
          all_goals go_ret
          all_goals refine ⟨?_, HB2.out⟩
          all_goals rw [HF.out]
          · exact congrArg (fun b => Ending.returned (.bool b)) (surr_int n lo hi (by omega) (by omega))
          · exact congrArg (fun b => Ending.returned (.bool b)) (by simp [surr]; omega)
          · exact congrArg (fun b => Ending.returned (.bool b)) (by simp; omega)
          · exact congrArg (fun b => Ending.returned (.bool b)) (by simp; omega)
    · have t2 : decide ((t.size : Int) ≤ (k : Int)) = true := by simp; omega
      have HF : Hid (begF h M lo hi t.data.toList k = false) := Lib.hid (by
        unfold begF
        rw [← hlen.out]
        simp [hks])
      go_quiet (fail)
      go_wp2
      go_ret
      exact ⟨by rw [HF.out]; rfl, bdrewN HB0.out _⟩
  · have t1 : ((X : Int) != (h : Int)) = true := by simp; omega
    have HF : Hid (begF h M lo hi t.data.toList k = false) := Lib.hid (by
      unfold begF
      rw [← HX.out]
      simp [hXh])
    clear hXh
    go_quiet (fail)
    go_wp2
    go_ret
    exact ⟨by rw [HF.out]; rfl, bdrewN HB0.out _⟩

end Go.Proofs.YtlfhhnjdfpgadaaGreatDoor

/-
  Whether bytes are UTF-8, as the program tells.
-/
namespace Go.Proofs.YtlfhhnjdfpgadaaGreatDoor
open Go.RowKit

/-- The four forms: how many bytes follow, and the first byte's bits. -/
def formB : Nat → Nat
  | 0 => 127
  | 1 => 31
  | 2 => 15
  | _ => 7
def formV (k : Nat) : Value := .agg #[.int .u8 (formH k : Int), .int .u8 (formB k : Int), .int .i32 (formLo k : Int), .int .i32 (formHi k : Int)]
theorem begins_at (k : Nat) (hk : k < 4) (t : ByteArray) (ht0 : 0 < t.size) (ht : t.size ≤ 16777216) (w : World) :
    Calls Tryz.prog 77 #[formV k, .string t, .int .i64 (k : Int)] w fun e w' => e = .returned (.bool (begK t.data.toList k)) ∧ Below w.heap.size w w' := by
  have hb := form_bits ⟨k, hk⟩ ⟨t[0].toNat, t[0].toNat_lt⟩
  simp only at hb
  rcases (show k = 0 ∨ k = 1 ∨ k = 2 ∨ k = 3 by omega) with rfl | rfl | rfl | rfl
  · exact begins_in 0 127 0 127 128 0 (by omega) (by omega) (by omega) (by omega) (by omega) t ht0 ht hb.1 hb.2 w
  · exact begins_in 192 31 128 2047 32 1 (by omega) (by omega) (by omega) (by omega) (by omega) t ht0 ht hb.1 hb.2 w
  · exact begins_in 224 15 2048 65535 16 2 (by omega) (by omega) (by omega) (by omega) (by omega) t ht0 ht hb.1 hb.2 w
  · exact begins_in 240 7 65536 1114111 8 3 (by omega) (by omega) (by omega) (by omega) (by omega) t ht0 ht hb.1 hb.2 w

/-- The table of the forms is there. -/
structure Forms (w : World) : Prop where
  c0 : w.cell? ⟨0, 0, none⟩ = some (.int .u8 0)
  c1 : w.cell? ⟨0, 1, none⟩ = some (.int .u8 127)
  c2 : w.cell? ⟨0, 2, none⟩ = some (.int .i32 0)
  c3 : w.cell? ⟨0, 3, none⟩ = some (.int .i32 127)
  c4 : w.cell? ⟨0, 4, none⟩ = some (.int .u8 192)
  c5 : w.cell? ⟨0, 5, none⟩ = some (.int .u8 31)
  c6 : w.cell? ⟨0, 6, none⟩ = some (.int .i32 128)
  c7 : w.cell? ⟨0, 7, none⟩ = some (.int .i32 2047)
  c8 : w.cell? ⟨0, 8, none⟩ = some (.int .u8 224)
  c9 : w.cell? ⟨0, 9, none⟩ = some (.int .u8 15)
  c10 : w.cell? ⟨0, 10, none⟩ = some (.int .i32 2048)
  c11 : w.cell? ⟨0, 11, none⟩ = some (.int .i32 65535)
  c12 : w.cell? ⟨0, 12, none⟩ = some (.int .u8 240)
  c13 : w.cell? ⟨0, 13, none⟩ = some (.int .u8 7)
  c14 : w.cell? ⟨0, 14, none⟩ = some (.int .i32 65536)
  c15 : w.cell? ⟨0, 15, none⟩ = some (.int .i32 1114111)
theorem cell_in {w : World} {a : Addr} {v : Value} (h : w.cell? a = some v) : a.block < w.heap.size := by
  unfold World.cell? at h
  by_cases hb : a.block < w.heap.size
  · exact hb
  · rw [Array.getElem?_eq_none (by simpa using hb)] at h
    cases h
theorem Forms.step {w w' : World} (h : Forms w) (hb : Below w.heap.size w w') : Forms w' :=
  have hin := cell_in h.c0
  ⟨(hb.cell (p := ⟨0, 0, none⟩) hin).trans h.c0, (hb.cell (p := ⟨0, 1, none⟩) hin).trans h.c1, (hb.cell (p := ⟨0, 2, none⟩) hin).trans h.c2, (hb.cell (p := ⟨0, 3, none⟩) hin).trans h.c3, (hb.cell (p := ⟨0, 4, none⟩) hin).trans h.c4, (hb.cell (p := ⟨0, 5, none⟩) hin).trans h.c5, (hb.cell (p := ⟨0, 6, none⟩) hin).trans h.c6, (hb.cell (p := ⟨0, 7, none⟩) hin).trans h.c7, (hb.cell (p := ⟨0, 8, none⟩) hin).trans h.c8, (hb.cell (p := ⟨0, 9, none⟩) hin).trans h.c9, (hb.cell (p := ⟨0, 10, none⟩) hin).trans h.c10, (hb.cell (p := ⟨0, 11, none⟩) hin).trans h.c11, (hb.cell (p := ⟨0, 12, none⟩) hin).trans h.c12, (hb.cell (p := ⟨0, 13, none⟩) hin).trans h.c13, (hb.cell (p := ⟨0, 14, none⟩) hin).trans h.c14, (hb.cell (p := ⟨0, 15, none⟩) hin).trans h.c15⟩

theorem index_form0 (w : World) : (Instr.index 100 (.agg #[.int .u8 0, .int .u8 127, .int .i32 0, .int .i32 127, .int .u8 192, .int .u8 31, .int .i32 128, .int .i32 2047, .int .u8 224, .int .u8 15, .int .i32 2048, .int .i32 65535, .int .u8 240, .int .u8 7, .int .i32 65536, .int .i32 1114111]) (.int .i64 0)).run Tryz.prog w = .ok (.agg #[.int .u8 0, .int .u8 127, .int .i32 0, .int .i32 127]) w := by kernel_rfl
theorem index_form1 (w : World) : (Instr.index 100 (.agg #[.int .u8 0, .int .u8 127, .int .i32 0, .int .i32 127, .int .u8 192, .int .u8 31, .int .i32 128, .int .i32 2047, .int .u8 224, .int .u8 15, .int .i32 2048, .int .i32 65535, .int .u8 240, .int .u8 7, .int .i32 65536, .int .i32 1114111]) (.int .i64 1)).run Tryz.prog w = .ok (.agg #[.int .u8 192, .int .u8 31, .int .i32 128, .int .i32 2047]) w := by kernel_rfl
theorem index_form2 (w : World) : (Instr.index 100 (.agg #[.int .u8 0, .int .u8 127, .int .i32 0, .int .i32 127, .int .u8 192, .int .u8 31, .int .i32 128, .int .i32 2047, .int .u8 224, .int .u8 15, .int .i32 2048, .int .i32 65535, .int .u8 240, .int .u8 7, .int .i32 65536, .int .i32 1114111]) (.int .i64 2)).run Tryz.prog w = .ok (.agg #[.int .u8 224, .int .u8 15, .int .i32 2048, .int .i32 65535]) w := by kernel_rfl
theorem index_form3 (w : World) : (Instr.index 100 (.agg #[.int .u8 0, .int .u8 127, .int .i32 0, .int .i32 127, .int .u8 192, .int .u8 31, .int .i32 128, .int .i32 2047, .int .u8 224, .int .u8 15, .int .i32 2048, .int .i32 65535, .int .u8 240, .int .u8 7, .int .i32 65536, .int .i32 1114111]) (.int .i64 3)).run Tryz.prog w = .ok (.agg #[.int .u8 240, .int .u8 7, .int .i32 65536, .int .i32 1114111]) w := by kernel_rfl

/-- Cells of a variable, and what lay before, behind a call. -/
theorem keep5 {w0 w w2 : World} {g : Nat} {a b c d : Value} (h : w.cell? ⟨g, 0, none⟩ = some a ∧ w.cell? ⟨g, 1, none⟩ = some b ∧ w.cell? ⟨g, 2, none⟩ = some c ∧ w.cell? ⟨g, 3, none⟩ = some d ∧ Below w0.heap.size w0 w) (hb : Below w.heap.size w w2) :
    w2.cell? ⟨g, 0, none⟩ = some a ∧ w2.cell? ⟨g, 1, none⟩ = some b ∧ w2.cell? ⟨g, 2, none⟩ = some c ∧ w2.cell? ⟨g, 3, none⟩ = some d ∧ Below w0.heap.size w0 w2 :=
  have hin := cell_in h.1
  ⟨(hb.cell (p := ⟨g, 0, none⟩) hin).trans h.1, (hb.cell (p := ⟨g, 1, none⟩) hin).trans h.2.1, (hb.cell (p := ⟨g, 2, none⟩) hin).trans h.2.2.1, (hb.cell (p := ⟨g, 3, none⟩) hin).trans h.2.2.2.1, bstep h.2.2.2.2 hb⟩

set_option maxRecDepth 100000 in
set_option maxHeartbeats 4000000 in
theorem valid_any (s : ByteArray) (hs : s.size ≤ 16777216) (w : World) (hf : Forms w) :
    Calls Tryz.prog 55 #[.string s] w fun e w' => e = .returned (.bool (vld s.data.toList)) ∧ Below w.heap.size w w' := by
  have hlen := Lib.hid (bsize s)
  have HF := Lib.hid hf
  clear hf
  go_enter Tryz.func55, Tryz.ntmps55
  go_wp2
  go_step3
  go_wp2
  go_step3
  go_wp2
  go_loopg [3] s.size (fun g p wx => ∃ k : Nat, k + g = s.size ∧ p = .int .i64 k ∧ Hid (vld s.data.toList = vld (s.data.toList.drop k)) ∧ Below w.heap.size w wx)
  case atStart => exact ⟨0, by omega, rfl, Lib.hid rfl, Below.refl _ _⟩
  case round =>
    obtain ⟨k, hkg, rfl, HV, hbx⟩ := hrel
    cases gk with
    | zero =>
      have hkz : ¬ ((k : Int) < (s.size : Int)) := by omega
      have HE : Hid (vld s.data.toList = true) := Lib.hid (by
        rw [HV.out, List.drop_eq_nil_of_le (by rw [← hlen.out]; omega)]; exact vld_nil)
      go_wp2
      go_ret
      exact ⟨by rw [HE.out]; rfl, hbx⟩
    | succ g =>
      have hkz : ((k : Int) < (s.size : Int)) := by omega
      have fx := HF.out.step hbx
      obtain ⟨f0, f1, f2, f3, f4, f5, f6, f7, f8, f9, f10, f11, f12, f13, f14, f15⟩ := fx
      go_wp2
      clear f0 f1 f2 f3 f4 f5 f6 f7 f8 f9 f10 f11 f12 f13 f14 f15
      go_loopg [3, 11] 4 (fun g2 x p wy => ∃ j : Nat, j + g2 = 4 ∧ p = .int .i64 j ∧ x = .int .i64 k ∧ Hid (∀ i, i < j → begK (s.data.toList.drop k) i = false) ∧ Below w.heap.size w wy)
      case atStart => exact ⟨0, by omega, rfl, rfl, Lib.hid (fun i hi => by omega), hbx⟩
      case round =>
        obtain ⟨j, hjg, rfl, rfl, HN, hby⟩ := hrel
        obtain ⟨t, ht⟩ : ∃ t : ByteArray, t = s.extract k s.size := ⟨_, rfl⟩
        have hts : t.size = s.size - k := by rw [ht, ByteArray.size_extract]; omega
        have HT : Hid (t.data.toList = s.data.toList.drop k) := Lib.hid (by rw [ht, ByteArray.data_extract, Array.toList_extract, hlen.out]; exact List.take_of_length_le (by rw [List.length_drop]; omega))
        have cb := fun j hj w => begins_at j hj t (by omega) (by omega) w
        cases gk with
        | zero =>
          obtain rfl : j = 4 := by omega
          have HE : Hid (vld s.data.toList = false) := Lib.hid (by
            have hp : 0 < (s.data.toList.drop k).length := by rw [List.length_drop, ← hlen.out]; omega
            rw [HV.out]
            refine vld_bad hp ?_
            have h4 := runeL_lt (s.data.toList.drop k)
            rcases Nat.eq_zero_or_pos (runeL (s.data.toList.drop k)) with h | h
            · exact h
            · have := (begK_iff _ hp (runeL (s.data.toList.drop k) - 1) (by omega)).2 (by omega)
              rw [HN.out _ (by omega)] at this; cases this)
          go_wp2
          go_ret
          exact ⟨by rw [HE.out]; rfl, hby⟩
        | succ g2 =>
          have hws : w.heap.size ≤ wr.heap.size := hby.size
          have hkle : (k : Int) ≤ (s.size : Int) := by omega
          have hkle2 : k ≤ s.size := by omega
          have hk0 : (0 : Int) ≤ (k : Int) := by omega
          have HLP : Hid (0 < (s.data.toList.drop k).length) := Lib.hid (by rw [List.length_drop, ← hlen.out]; omega)
          obtain ⟨v, hv⟩ : ∃ v : Int, v = (j : Int) := ⟨_, rfl⟩
          rw [← hv]
          obtain ⟨b, hb⟩ : ∃ b, begK (s.data.toList.drop k) j = b := ⟨_, rfl⟩
          have HBj := Lib.hid hb
          rcases (show j = 0 ∨ j = 1 ∨ j = 2 ∨ j = 3 by omega) with rfl | rfl | rfl | rfl
          · obtain rfl : v = 0 := hv
            have hix := index_form0
            have cj : ∀ w, Calls Tryz.prog 77 #[.agg #[.int .u8 0, .int .u8 127, .int .i32 0, .int .i32 127], .string (s.extract k s.size), .int .i64 0] w fun e w' => e = .returned (.bool b) ∧ Below w.heap.size w w' := fun w => by
              have h := cb 0 (by omega) w
              rw [HT.out, hb, ht] at h
              exact h
            clear hb cb
            go_upto_region 6 with fail
            have q0 := cell_new4 wr #[.int .u8 0, .int .u8 127, .int .i32 0, .int .i32 127] 99 0 _ rfl
            have q1 := cell_new4 wr #[.int .u8 0, .int .u8 127, .int .i32 0, .int .i32 127] 99 1 _ rfl
            have q2 := cell_new4 wr #[.int .u8 0, .int .u8 127, .int .i32 0, .int .i32 127] 99 2 _ rfl
            have q3 := cell_new4 wr #[.int .u8 0, .int .u8 127, .int .i32 0, .int .i32 127] 99 3 _ rfl
            have HB1 := Lib.hid (hby.alloc hws (.cells #[.int .u8 0, .int .u8 127, .int .i32 0, .int .i32 127] 99))
            generalize (wr.alloc (.cells #[.int .u8 0, .int .u8 127, .int .i32 0, .int .i32 127] 99)) = w1 at q0 q1 q2 q3 HB1 ⊢
            go_region_held3 (fun w' => w'.cell? ⟨wr.heap.size, 0, none⟩ = some (.int .u8 0) ∧ w'.cell? ⟨wr.heap.size, 1, none⟩ = some (.int .u8 127) ∧ w'.cell? ⟨wr.heap.size, 2, none⟩ = some (.int .i32 0) ∧ w'.cell? ⟨wr.heap.size, 3, none⟩ = some (.int .i32 127) ∧ Below w.heap.size w w')
              (first | exact ⟨q0, q1, q2, q3, HB1.out⟩ | exact keep5 ⟨q0, q1, q2, q3, HB1.out⟩ ((Below.refl _ _).drew) | exact keep5 (by assumption) hbx)
              (first | (go_at_call 77; refine (cj _).mono ?_; rintro e w4 ⟨rfl, hbx⟩))
            rename_i hHeld
            have HB4 := Lib.hid hHeld.2.2.2.2
            clear hHeld q0 q1 q2 q3 HB1 hbx
            cases b with
            | true =>
              have hrl := (begK_iff _ HLP.out 0 (by omega)).1 HBj.out
              have hle := runeL_le _ HLP.out
              have hk1 : k + 1 ≤ s.size := by rw [hrl, List.length_drop, ← hlen.out] at hle; omega
              have HV2 : Hid (vld s.data.toList = vld (s.data.toList.drop (k + 1))) := Lib.hid (by
                rw [HV.out, vld_step HLP.out (by rw [hrl]; omega), hrl, List.drop_drop])
              clear hrl hle
              go_wp2
              go_roundg (s.size - (k + 1))
              case measure => omega
              case rel => exact ⟨k + 1, by omega, by go_num, HV2, HB4.out⟩
            | false =>
              have HN2 : Hid (∀ i, i < 1 → begK (s.data.toList.drop k) i = false) := Lib.hid (fun i hi => by
                rcases Nat.lt_or_ge i 0 with h | h
                · exact HN.out i h
                · obtain rfl : i = 0 := by omega
                  exact HBj.out)
              go_wp2
              go_roundg (4 - 1)
              case measure => omega
              case rel => exact ⟨1, by omega, rfl, rfl, HN2, HB4.out⟩
          · obtain rfl : v = 1 := hv
            have hix := index_form1
            have cj : ∀ w, Calls Tryz.prog 77 #[.agg #[.int .u8 192, .int .u8 31, .int .i32 128, .int .i32 2047], .string (s.extract k s.size), .int .i64 1] w fun e w' => e = .returned (.bool b) ∧ Below w.heap.size w w' := fun w => by
              have h := cb 1 (by omega) w
              rw [HT.out, hb, ht] at h
              exact h
            clear hb cb
            go_upto_region 6 with fail
            have q0 := cell_new4 wr #[.int .u8 192, .int .u8 31, .int .i32 128, .int .i32 2047] 99 0 _ rfl
            have q1 := cell_new4 wr #[.int .u8 192, .int .u8 31, .int .i32 128, .int .i32 2047] 99 1 _ rfl
            have q2 := cell_new4 wr #[.int .u8 192, .int .u8 31, .int .i32 128, .int .i32 2047] 99 2 _ rfl
            have q3 := cell_new4 wr #[.int .u8 192, .int .u8 31, .int .i32 128, .int .i32 2047] 99 3 _ rfl
            have HB1 := Lib.hid (hby.alloc hws (.cells #[.int .u8 192, .int .u8 31, .int .i32 128, .int .i32 2047] 99))
            generalize (wr.alloc (.cells #[.int .u8 192, .int .u8 31, .int .i32 128, .int .i32 2047] 99)) = w1 at q0 q1 q2 q3 HB1 ⊢
            go_region_held3 (fun w' => w'.cell? ⟨wr.heap.size, 0, none⟩ = some (.int .u8 192) ∧ w'.cell? ⟨wr.heap.size, 1, none⟩ = some (.int .u8 31) ∧ w'.cell? ⟨wr.heap.size, 2, none⟩ = some (.int .i32 128) ∧ w'.cell? ⟨wr.heap.size, 3, none⟩ = some (.int .i32 2047) ∧ Below w.heap.size w w')
              (first | exact ⟨q0, q1, q2, q3, HB1.out⟩ | exact keep5 ⟨q0, q1, q2, q3, HB1.out⟩ ((Below.refl _ _).drew) | exact keep5 (by assumption) hbx)
              (first | (go_at_call 77; refine (cj _).mono ?_; rintro e w4 ⟨rfl, hbx⟩))
            rename_i hHeld
            have HB4 := Lib.hid hHeld.2.2.2.2
            clear hHeld q0 q1 q2 q3 HB1 hbx
            cases b with
            | true =>
              have hrl := (begK_iff _ HLP.out 1 (by omega)).1 HBj.out
              have hle := runeL_le _ HLP.out
              have hk1 : k + 2 ≤ s.size := by rw [hrl, List.length_drop, ← hlen.out] at hle; omega
              have HV2 : Hid (vld s.data.toList = vld (s.data.toList.drop (k + 2))) := Lib.hid (by
                rw [HV.out, vld_step HLP.out (by rw [hrl]; omega), hrl, List.drop_drop])
              clear hrl hle
              go_wp2
              go_roundg (s.size - (k + 2))
              case measure => omega
              case rel => exact ⟨k + 2, by omega, by go_num, HV2, HB4.out⟩
            | false =>
              have HN2 : Hid (∀ i, i < 2 → begK (s.data.toList.drop k) i = false) := Lib.hid (fun i hi => by
                rcases Nat.lt_or_ge i 1 with h | h
                · exact HN.out i h
                · obtain rfl : i = 1 := by omega
                  exact HBj.out)
              go_wp2
              go_roundg (4 - 2)
              case measure => omega
              case rel => exact ⟨2, by omega, rfl, rfl, HN2, HB4.out⟩
          · obtain rfl : v = 2 := hv
            have hix := index_form2
            have cj : ∀ w, Calls Tryz.prog 77 #[.agg #[.int .u8 224, .int .u8 15, .int .i32 2048, .int .i32 65535], .string (s.extract k s.size), .int .i64 2] w fun e w' => e = .returned (.bool b) ∧ Below w.heap.size w w' := fun w => by
              have h := cb 2 (by omega) w
              rw [HT.out, hb, ht] at h
              exact h
            clear hb cb
            go_upto_region 6 with fail
            have q0 := cell_new4 wr #[.int .u8 224, .int .u8 15, .int .i32 2048, .int .i32 65535] 99 0 _ rfl
            have q1 := cell_new4 wr #[.int .u8 224, .int .u8 15, .int .i32 2048, .int .i32 65535] 99 1 _ rfl
            have q2 := cell_new4 wr #[.int .u8 224, .int .u8 15, .int .i32 2048, .int .i32 65535] 99 2 _ rfl
            have q3 := cell_new4 wr #[.int .u8 224, .int .u8 15, .int .i32 2048, .int .i32 65535] 99 3 _ rfl
            have HB1 := Lib.hid (hby.alloc hws (.cells #[.int .u8 224, .int .u8 15, .int .i32 2048, .int .i32 65535] 99))
            generalize (wr.alloc (.cells #[.int .u8 224, .int .u8 15, .int .i32 2048, .int .i32 65535] 99)) = w1 at q0 q1 q2 q3 HB1 ⊢
            go_region_held3 (fun w' => w'.cell? ⟨wr.heap.size, 0, none⟩ = some (.int .u8 224) ∧ w'.cell? ⟨wr.heap.size, 1, none⟩ = some (.int .u8 15) ∧ w'.cell? ⟨wr.heap.size, 2, none⟩ = some (.int .i32 2048) ∧ w'.cell? ⟨wr.heap.size, 3, none⟩ = some (.int .i32 65535) ∧ Below w.heap.size w w')
              (first | exact ⟨q0, q1, q2, q3, HB1.out⟩ | exact keep5 ⟨q0, q1, q2, q3, HB1.out⟩ ((Below.refl _ _).drew) | exact keep5 (by assumption) hbx)
              (first | (go_at_call 77; refine (cj _).mono ?_; rintro e w4 ⟨rfl, hbx⟩))
            rename_i hHeld
            have HB4 := Lib.hid hHeld.2.2.2.2
            clear hHeld q0 q1 q2 q3 HB1 hbx
            cases b with
            | true =>
              have hrl := (begK_iff _ HLP.out 2 (by omega)).1 HBj.out
              have hle := runeL_le _ HLP.out
              have hk1 : k + 3 ≤ s.size := by rw [hrl, List.length_drop, ← hlen.out] at hle; omega
              have HV2 : Hid (vld s.data.toList = vld (s.data.toList.drop (k + 3))) := Lib.hid (by
                rw [HV.out, vld_step HLP.out (by rw [hrl]; omega), hrl, List.drop_drop])
              clear hrl hle
              go_wp2
              go_roundg (s.size - (k + 3))
              case measure => omega
              case rel => exact ⟨k + 3, by omega, by go_num, HV2, HB4.out⟩
            | false =>
              have HN2 : Hid (∀ i, i < 3 → begK (s.data.toList.drop k) i = false) := Lib.hid (fun i hi => by
                rcases Nat.lt_or_ge i 2 with h | h
                · exact HN.out i h
                · obtain rfl : i = 2 := by omega
                  exact HBj.out)
              go_wp2
              go_roundg (4 - 3)
              case measure => omega
              case rel => exact ⟨3, by omega, rfl, rfl, HN2, HB4.out⟩
          · obtain rfl : v = 3 := hv
            have hix := index_form3
            have cj : ∀ w, Calls Tryz.prog 77 #[.agg #[.int .u8 240, .int .u8 7, .int .i32 65536, .int .i32 1114111], .string (s.extract k s.size), .int .i64 3] w fun e w' => e = .returned (.bool b) ∧ Below w.heap.size w w' := fun w => by
              have h := cb 3 (by omega) w
              rw [HT.out, hb, ht] at h
              exact h
            clear hb cb
            go_upto_region 6 with fail
            have q0 := cell_new4 wr #[.int .u8 240, .int .u8 7, .int .i32 65536, .int .i32 1114111] 99 0 _ rfl
            have q1 := cell_new4 wr #[.int .u8 240, .int .u8 7, .int .i32 65536, .int .i32 1114111] 99 1 _ rfl
            have q2 := cell_new4 wr #[.int .u8 240, .int .u8 7, .int .i32 65536, .int .i32 1114111] 99 2 _ rfl
            have q3 := cell_new4 wr #[.int .u8 240, .int .u8 7, .int .i32 65536, .int .i32 1114111] 99 3 _ rfl
            have HB1 := Lib.hid (hby.alloc hws (.cells #[.int .u8 240, .int .u8 7, .int .i32 65536, .int .i32 1114111] 99))
            generalize (wr.alloc (.cells #[.int .u8 240, .int .u8 7, .int .i32 65536, .int .i32 1114111] 99)) = w1 at q0 q1 q2 q3 HB1 ⊢
            go_region_held3 (fun w' => w'.cell? ⟨wr.heap.size, 0, none⟩ = some (.int .u8 240) ∧ w'.cell? ⟨wr.heap.size, 1, none⟩ = some (.int .u8 7) ∧ w'.cell? ⟨wr.heap.size, 2, none⟩ = some (.int .i32 65536) ∧ w'.cell? ⟨wr.heap.size, 3, none⟩ = some (.int .i32 1114111) ∧ Below w.heap.size w w')
              (first | exact ⟨q0, q1, q2, q3, HB1.out⟩ | exact keep5 ⟨q0, q1, q2, q3, HB1.out⟩ ((Below.refl _ _).drew) | exact keep5 (by assumption) hbx)
              (first | (go_at_call 77; refine (cj _).mono ?_; rintro e w4 ⟨rfl, hbx⟩))
            rename_i hHeld
            have HB4 := Lib.hid hHeld.2.2.2.2
            clear hHeld q0 q1 q2 q3 HB1 hbx
            cases b with
            | true =>
              have hrl := (begK_iff _ HLP.out 3 (by omega)).1 HBj.out
              have hle := runeL_le _ HLP.out
              have hk1 : k + 4 ≤ s.size := by rw [hrl, List.length_drop, ← hlen.out] at hle; omega
              have HV2 : Hid (vld s.data.toList = vld (s.data.toList.drop (k + 4))) := Lib.hid (by
                rw [HV.out, vld_step HLP.out (by rw [hrl]; omega), hrl, List.drop_drop])
              clear hrl hle
              go_wp2
              go_roundg (s.size - (k + 4))
              case measure => omega
              case rel => exact ⟨k + 4, by omega, by go_num, HV2, HB4.out⟩
            | false =>
              have HN2 : Hid (∀ i, i < 4 → begK (s.data.toList.drop k) i = false) := Lib.hid (fun i hi => by
                rcases Nat.lt_or_ge i 3 with h | h
                · exact HN.out i h
                · obtain rfl : i = 3 := by omega
                  exact HBj.out)
              go_wp2
              go_roundg (4 - 4)
              case measure => omega
              case rel => exact ⟨4, by omega, rfl, rfl, HN2, HB4.out⟩
end Go.Proofs.YtlfhhnjdfpgadaaGreatDoor
