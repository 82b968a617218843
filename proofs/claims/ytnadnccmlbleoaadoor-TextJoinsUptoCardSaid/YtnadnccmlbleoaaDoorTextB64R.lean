/-
  Base 64 as the document makes it.
-/
import Derived.WalkSpells
import Derived.WalkLawsBesides
import Derived.Test.YtnadnccmlbleoaaDoorTextLib
import Derived.Test.YtnadnccmlbleoaaDoorTextB64M
namespace Go.Proofs.YtnadnccmlbleoaaDoor
open Go.RowKit

/-- Three bytes as one number, the first k of them. -/
def bigN (l : List UInt8) (q : Nat) : Nat → Nat
  | 0 => 0
  | k + 1 => bigN l q k * 256 + byt l (3 * q + k)
theorem bigN_three (l : List UInt8) (q : Nat) : bigN l q 3 = byt l (3 * q) * 65536 + byt l (3 * q + 1) * 256 + byt l (3 * q + 2) := by
  simp only [bigN, Nat.add_zero]; omega
theorem bigN_lt (l : List UInt8) (q k : Nat) (hk : k ≤ 3) : bigN l q k < 16777216 := by
  have h0 := byt_lt l (3 * q)
  have h1 := byt_lt l (3 * q + 1)
  have h2 := byt_lt l (3 * q + 2)
  rcases (show k = 0 ∨ k = 1 ∨ k = 2 ∨ k = 3 by omega) with rfl | rfl | rfl | rfl <;> simp only [bigN, Nat.add_zero] <;> omega
theorem big_sext (l : List UInt8) (q n : Nat) (h : n = bigN l q 3) : n / 262144 % 64 = yAt l (4 * q) ∧ n / 4096 % 64 = yAt l (4 * q + 1) ∧ n / 64 % 64 = yAt l (4 * q + 2) ∧ n % 64 = yAt l (4 * q + 3) := by
  have h0 := byt_lt l (3 * q)
  have h1 := byt_lt l (3 * q + 1)
  have h2 := byt_lt l (3 * q + 2)
  rw [bigN_three] at h
  rw [y0, y1, y2, y3]
  omega
/-- The first m letters, padding and all. -/
def b64K (l : List UInt8) (m : Nat) : List UInt8 := (List.range m).map (b64At l)
theorem b64K_succ (l : List UInt8) (m : Nat) : u8s (b64K l (m + 1)) = u8s (b64K l m) ++ [.int .u8 ((b64At l m).toNat : Int)] := by
  unfold b64K
  rw [List.range_succ, List.map_append, u8s_app]; rfl
theorem b64At_in {l : List UInt8} {n q k : Nat} (hn : l.length = n) (hq : 3 * q < n) (hk : k < 4) : (3 * q + k ≤ n → b64At l (4 * q + k) = letter (yAt l (4 * q + k))) ∧ (¬ 3 * q + k ≤ n → b64At l (4 * q + k) = 61) := by
  unfold b64At cnt
  rw [hn]
  exact ⟨fun h => by rw [if_pos (by omega)], fun h => by rw [if_neg (by omega)]⟩
theorem letter_idx' (v : Nat) (h : v < 64) : (((⟨letters.toArray⟩ : ByteArray)[v]'h).toNat : Int) = (letter v).toNat := by
  have hh : ∀ x : Fin 64, ((⟨letters.toArray⟩ : ByteArray)[x.val]'x.isLt) = letter x.val := by decide +kernel
  rw [hh ⟨v, h⟩]

set_option maxRecDepth 100000 in
set_option maxHeartbeats 8000000 in
theorem refBase64_any (s : ByteArray) (hs : s.size ≤ 16777216) (w : World) :
    Calls Tryd.prog 16 #[.string s] w fun e w' => e = .returned (.string ⟨(b64 s.data.toList).toArray⟩) ∧ Below w.heap.size w w' := by
  obtain ⟨i0, hi, hz0, hz1, hz2⟩ := info_parts infoB
  have hlen := Lib.hid (bsize s)
  go_enter Tryd.func16, Tryd.ntmps16
  go_wp2
  go_loopw [3, 4] (fun v p wr => ∃ i q : Nat, p = .int .i64 i ∧ Hid (i = 3 * q) ∧ i ≤ s.size + 2 ∧ wr.ownsRow w.heap.size 5 1 v (4 * q) (u8s (b64K s.data.toList (4 * q))) ∧ Below w.heap.size w wr) (fun _ p _ => s.size + 3 - (intOf p).toNat)
  case atStart => exact ⟨0, 0, rfl, Lib.hid rfl, by omega, World.ownsRow_nil _ _ _ _, Below.refl _ _⟩
  case round =>
    obtain ⟨i, q, rfl, hiq, hi2, hown, hbw⟩ := hrel
    by_cases hlt : i < s.size
    · go_wp2
      go_loopw [5, 6] (fun x p wq => ∃ k n : Nat, p = .int .i64 k ∧ k ≤ 3 ∧ x = .int .i64 n ∧ Hid (n = bigN s.data.toList q k) ∧ n < 16777216 ∧ wq = wr) (fun _ p _ => 3 - (intOf p).toNat)
      case atStart => exact ⟨0, 0, rfl, Nat.zero_le _, rfl, Lib.hid rfl, by decide, rfl⟩
      case round =>
        obtain ⟨k, n, rfl, hk, rfl, hn, hn24, hw⟩ := hrel
        subst hw
        by_cases hk3 : k < 3
        · have hn16 : Hid (n * 256 + byt s.data.toList (3 * q + k) < 16777216) := Lib.hid (by
            have := bigN_lt s.data.toList q (k + 1) (by omega)
            simp only [bigN] at this
            rw [hn.out]; exact this)
          by_cases hin : i + k < s.size
          · have hc := s[i + k].toNat_lt
            have HB : Hid (byt s.data.toList (3 * q + k) = s[i + k].toNat) := Lib.hid (by
              have h' : i + k < s.data.size := hin
              have e : s.data.toList.getD (i + k) 0 = s[i + k] := by
                rw [List.getD_eq_getElem?_getD, Array.getElem?_toList, Array.getElem?_eq_getElem h']; rfl
              unfold byt
              rw [← hiq.out, e])
            have hin2 : (i : Int) + (k : Int) < (s.size : Int) := by omega
            go_wp2
            go_round
            case rel => exact ⟨k + 1, n * 256 + s[i + k].toNat, by go_num, by omega, by go_num, Lib.hid (by simp only [bigN]; rw [← hn.out, HB.out]), by have := hn16.out; rw [HB.out] at this; exact this, by first | rfl | trivial⟩
            case measure => simp [intOf]; omega
          · have HB : Hid (byt s.data.toList (3 * q + k) = 0) := Lib.hid (byt_out (by rw [← hlen.out, ← hiq.out]; omega))
            have hin2 : (s.size : Int) ≤ (i : Int) + (k : Int) := by omega
            go_wp2
            go_round
            case rel => exact ⟨k + 1, n * 256, by go_num, by omega, by go_num, Lib.hid (by simp only [bigN]; rw [← hn.out, HB.out]; rfl), by have := hn16.out; rw [HB.out] at this; exact this, by first | rfl | trivial⟩
            case measure => simp [intOf]; omega
        · obtain rfl : k = 3 := by omega
          rw [show ((3 : Nat) : Int) = 3 from rfl]
          have HY := Lib.hid (big_sext s.data.toList q n hn.out)
          go_wp2
          go_loopw [3, 7] (fun v p wq => ∃ k : Nat, p = .int .i64 k ∧ k ≤ 4 ∧ wq.ownsRow w.heap.size 5 1 v (4 * q + k) (u8s (b64K s.data.toList (4 * q + k))) ∧ Below w.heap.size w wq) (fun _ p _ => 4 - (intOf p).toNat)
          case atStart => exact ⟨0, rfl, Nat.zero_le _, hown, hbw⟩
          case round =>
            obtain ⟨k, rfl, hk, hown2, hbw2⟩ := hrel
            have hsz2 := hbw2.size
            clear hown hbw
            by_cases hk4 : k < 4
            · have HA := Lib.hid (b64At_in (l := s.data.toList) (k := k) hlen.out.symm (by rw [← hiq.out]; exact hlt) hk4)
              have hqb : 4 * q ≤ 100000000 := by have := hiq.out; omega
              by_cases hin : i + k ≤ s.size
              · have HA2 : Hid (b64At s.data.toList (4 * q + k) = letter (yAt s.data.toList (4 * q + k))) := Lib.hid (HA.out.1 (by rw [← hiq.out]; exact hin))
                have hv := yAt_lt s.data.toList (4 * q + k)
                obtain ⟨v, hve⟩ : ∃ v, v = yAt s.data.toList (4 * q + k) := ⟨_, rfl⟩
                rw [← hve] at hv HA2
                have HVE := Lib.hid hve; clear hve
                rcases (show k = 0 ∨ k = 1 ∨ k = 2 ∨ k = 3 by omega) with rfl | rfl | rfl | rfl
                · have hq1 : ((n : Int) / 262144) % 64 = (v : Int) := by have h1 := HY.out.1; have h2 : v = yAt s.data.toList (4 * q) := HVE.out; omega
                  have hq2 : ((n : Int) / 262144).tmod 64 = (v : Int) := by rw [Int.tmod_eq_emod_of_nonneg (by omega)]; exact hq1
                  have hin2 : (i : Int) + 0 ≤ (s.size : Int) := by omega
                  go_wp2_with (at_builtin; refine wpList_append_own _ rfl _ _ 35 rfl w.heap.size 5 i0 (.int .u8 0) 1 1 Tryd.underlying35 hi hz0 hz1 hz2 rfl (by decide) _ _ _ rfl (hown2.alloc _) ⟨_, 0, none⟩ 1 1 [_] rfl rfl (cell_one_new _ _ _) (by simp [Value.oneCell']) (by unfold maxLen; omega) (by omega) (by simp; omega) ?_; intro v' w1 hown1 hgrow1 _)
                  go_round
                  case rel =>
                    refine ⟨1, by go_num, by omega, ?_, below_append hbw2 hsz2 hown2 hgrow1⟩
                    have hA3 : b64At s.data.toList (4 * q) = letter v := HA2.out
                    rw [show 4 * q + 1 = 4 * q + 0 + 1 from rfl, b64K_succ, hA3, ← letter_idx' v hv]
                    exact hown1
                  case measure => simp [intOf]
                · have hq1 : ((n : Int) / 4096) % 64 = (v : Int) := by have h1 := HY.out.2.1; have h2 := HVE.out; omega
                  have hq2 : ((n : Int) / 4096).tmod 64 = (v : Int) := by rw [Int.tmod_eq_emod_of_nonneg (by omega)]; exact hq1
                  have hin2 : (i : Int) + 1 ≤ (s.size : Int) := by omega
                  go_wp2_with (at_builtin; refine wpList_append_own _ rfl _ _ 35 rfl w.heap.size 5 i0 (.int .u8 0) 1 1 Tryd.underlying35 hi hz0 hz1 hz2 rfl (by decide) _ _ _ rfl (hown2.alloc _) ⟨_, 0, none⟩ 1 1 [_] rfl rfl (cell_one_new _ _ _) (by simp [Value.oneCell']) (by unfold maxLen; omega) (by omega) (by simp; omega) ?_; intro v' w1 hown1 hgrow1 _)
                  go_round
                  case rel =>
                    refine ⟨2, by go_num, by omega, ?_, below_append hbw2 hsz2 hown2 hgrow1⟩
                    rw [show 4 * q + 2 = 4 * q + 1 + 1 from rfl, b64K_succ, HA2.out, ← letter_idx' v hv]
                    exact hown1
                  case measure => simp [intOf]
                · have hq1 : ((n : Int) / 64) % 64 = (v : Int) := by have h1 := HY.out.2.2.1; have h2 := HVE.out; omega
                  have hq2 : ((n : Int) / 64).tmod 64 = (v : Int) := by rw [Int.tmod_eq_emod_of_nonneg (by omega)]; exact hq1
                  have hin2 : (i : Int) + 2 ≤ (s.size : Int) := by omega
                  go_wp2_with (at_builtin; refine wpList_append_own _ rfl _ _ 35 rfl w.heap.size 5 i0 (.int .u8 0) 1 1 Tryd.underlying35 hi hz0 hz1 hz2 rfl (by decide) _ _ _ rfl (hown2.alloc _) ⟨_, 0, none⟩ 1 1 [_] rfl rfl (cell_one_new _ _ _) (by simp [Value.oneCell']) (by unfold maxLen; omega) (by omega) (by simp; omega) ?_; intro v' w1 hown1 hgrow1 _)
                  go_round
                  case rel =>
                    refine ⟨3, by go_num, by omega, ?_, below_append hbw2 hsz2 hown2 hgrow1⟩
                    rw [show 4 * q + 3 = 4 * q + 2 + 1 from rfl, b64K_succ, HA2.out, ← letter_idx' v hv]
                    exact hown1
                  case measure => simp [intOf]
                · have hq1 : (n : Int) % 64 = (v : Int) := by have h1 := HY.out.2.2.2; have h2 := HVE.out; omega
                  have hq2 : ((n : Int)).tmod 64 = (v : Int) := by rw [Int.tmod_eq_emod_of_nonneg (by omega)]; exact hq1
                  have hin2 : (i : Int) + 3 ≤ (s.size : Int) := by omega
                  go_wp2_with (at_builtin; refine wpList_append_own _ rfl _ _ 35 rfl w.heap.size 5 i0 (.int .u8 0) 1 1 Tryd.underlying35 hi hz0 hz1 hz2 rfl (by decide) _ _ _ rfl (hown2.alloc _) ⟨_, 0, none⟩ 1 1 [_] rfl rfl (cell_one_new _ _ _) (by simp [Value.oneCell']) (by unfold maxLen; omega) (by omega) (by simp; omega) ?_; intro v' w1 hown1 hgrow1 _)
                  go_round
                  case rel =>
                    refine ⟨4, by go_num, by omega, ?_, below_append hbw2 hsz2 hown2 hgrow1⟩
                    rw [show 4 * q + 4 = 4 * q + 3 + 1 from rfl, b64K_succ, HA2.out, ← letter_idx' v hv]
                    exact hown1
                  case measure => simp [intOf]
              · have HA2 : Hid (b64At s.data.toList (4 * q + k) = 61) := Lib.hid (HA.out.2 (by rw [← hiq.out]; exact hin))
                have hin2 : (s.size : Int) < (i : Int) + (k : Int) := by omega
                go_wp2_with (at_builtin; refine wpList_append_own _ rfl _ _ 35 rfl w.heap.size 5 i0 (.int .u8 0) 1 1 Tryd.underlying35 hi hz0 hz1 hz2 rfl (by decide) _ _ _ rfl (hown2.alloc _) ⟨_, 0, none⟩ 1 1 [_] rfl rfl (cell_one_new _ _ _) (by simp [Value.oneCell']) (by unfold maxLen; omega) (by omega) (by simp; omega) ?_; intro v' w1 hown1 hgrow1 _)
                go_round
                case rel =>
                  refine ⟨k + 1, by go_num, by omega, ?_, below_append hbw2 hsz2 hown2 hgrow1⟩
                  rw [← Nat.add_assoc, b64K_succ, HA2.out]
                  exact hown1
                case measure => simp [intOf]; omega
            · obtain rfl : k = 4 := by omega
              go_wp2
              go_round
              case rel => exact ⟨i + 3, q + 1, by go_num, Lib.hid (by rw [hiq.out]; omega), by omega, hown2, hbw2⟩
              case measure => simp [intOf]; omega
    · have hq2 : Hid (4 * q = full s.size) := Lib.hid (by have := hiq.out; unfold full; omega)
      rw [hq2.out] at hown
      have hb : b64K s.data.toList (full s.size) = b64 s.data.toList := by unfold b64K b64; rw [hlen.out]
      rw [hb] at hown
      have hconv := own_string Tryd.underlying35 Tryd.underlying5 Tryd.underlying9 hown
      clear hb
      go_wp2
      go_ret
      exact ⟨rfl, hbw⟩

end Go.Proofs.YtnadnccmlbleoaaDoor
