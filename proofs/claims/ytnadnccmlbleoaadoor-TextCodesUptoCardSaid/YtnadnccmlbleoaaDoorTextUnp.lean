/-
  Percent coding taken back, as the program does it.
-/
import Derived.Deep.QuietTactic
import Derived.BigQuiet
import Derived.Deep.Cut
import Derived.Test.YtnadnccmlbleoaaDoorTextPct
namespace Go.Proofs.YtnadnccmlbleoaaDoor
open Go.RowKit

theorem bdrewN {B : Nat} {w w' : World} (h : Below B w w') (n : Nat) : Below B w (w'.drewN n) := h.trans ⟨rfl, rfl, rfl, Nat.le_refl _, fun _ _ => rfl⟩
theorem hexv_table : ∀ x : Fin 256, Lib.indexByte [48, 49, 50, 51, 52, 53, 54, 55, 56, 57, 65, 66, 67, 68, 69, 70] (UInt8.ofNat (if 97 ≤ x.val ∧ x.val ≤ 102 then x.val - 32 else x.val)) = hexN x.val := by decide +kernel

set_option maxHeartbeats 2000000 in
theorem hexValue_any (n : Nat) (hn : n < 256) (w : World) :
    Calls Tryd.prog 28 #[.int .u8 n] w fun e w' => e = .returned (.int .i64 (hexN n)) ∧ w' = w := by
  have ht := hexv_table ⟨n, hn⟩
  simp only at ht
  by_cases h1 : 97 ≤ n
  · by_cases h2 : n ≤ 102
    · rw [if_pos ⟨h1, h2⟩] at ht
      have c3 := fun w => Tryd.strings_IndexByte ⟨#[48, 49, 50, 51, 52, 53, 54, 55, 56, 57, 65, 66, 67, 68, 69, 70]⟩ ((n - 32 : Nat) : Int) w
      simp only [ofNat_int] at c3
      rw [ht] at c3
      have hw : IntKind.u8.wrap ((n : Int) - 32) = ((n - 32 : Nat) : Int) := by rw [IntKind.wrap_u8]; omega
      generalize hexN n = r at c3 ⊢
      clear ht
      go_enter Tryd.func28, Tryd.ntmps28
      go_wp2_with (go_at_call 30; refine (c3 _).mono ?_; rintro e w' ⟨rfl, rfl⟩)
      go_ret
      exact ⟨rfl, rfl⟩
    · rw [if_neg (by omega)] at ht
      have c3 := fun w => Tryd.strings_IndexByte ⟨#[48, 49, 50, 51, 52, 53, 54, 55, 56, 57, 65, 66, 67, 68, 69, 70]⟩ (n : Int) w
      simp only [ofNat_int] at c3
      rw [ht] at c3
      generalize hexN n = r at c3 ⊢
      clear ht
      go_enter Tryd.func28, Tryd.ntmps28
      go_wp2_with (go_at_call 30; refine (c3 _).mono ?_; rintro e w' ⟨rfl, rfl⟩)
      go_ret
      exact ⟨rfl, rfl⟩
  · rw [if_neg (by omega)] at ht
    have c3 := fun w => Tryd.strings_IndexByte ⟨#[48, 49, 50, 51, 52, 53, 54, 55, 56, 57, 65, 66, 67, 68, 69, 70]⟩ (n : Int) w
    simp only [ofNat_int] at c3
    rw [ht] at c3
    generalize hexN n = r at c3 ⊢
    clear ht
    go_enter Tryd.func28, Tryd.ntmps28
    go_wp2_with (go_at_call 30; refine (c3 _).mono ?_; rintro e w' ⟨rfl, rfl⟩)
    go_ret
    exact ⟨rfl, rfl⟩

/-- What is taken back so far, and what the rest tells. -/
def unpK (l : List UInt8) (k : Nat) (acc : List UInt8) : Prop := unp l = (unp (l.drop k)).map (acc ++ ·)
theorem unpK_start (l : List UInt8) : unpK l 0 [] := by simp [unpK]
theorem drop_cons {l : List UInt8} {k : Nat} (h : k < l.length) : l.drop k = l.getD k 0 :: l.drop (k + 1) := by
  rw [List.drop_eq_getElem_cons h, List.getD_eq_getElem?_getD, List.getElem?_eq_getElem h]; rfl
theorem unpK_plain {l : List UInt8} {k : Nat} {acc : List UInt8} (h : unpK l k acc) (hk : k < l.length) (hc : (l.getD k 0).toNat ≠ 37) : unpK l (k + 1) (acc ++ [l.getD k 0]) := by
  unfold unpK at *
  rw [h, drop_cons hk, unp_other hc, Option.map_map]
  congr 1
  funext x
  simp
theorem unpK_short {l : List UInt8} {k : Nat} {acc : List UInt8} (h : unpK l k acc) (hk : k < l.length) (hc : (l.getD k 0).toNat = 37) (hs : l.length ≤ k + 2) : unp l = none := by
  unfold unpK at h
  rw [h, drop_cons hk, unp_short hc _ (by rw [List.length_drop]; omega)]; rfl
theorem unpK_bad {l : List UInt8} {k : Nat} {acc : List UInt8} (h : unpK l k acc) (hk : k + 2 < l.length) (hc : (l.getD k 0).toNat = 37) (hb : hexN (l.getD (k + 1) 0).toNat < 0 ∨ hexN (l.getD (k + 2) 0).toNat < 0) : unp l = none := by
  unfold unpK at h
  rw [h, drop_cons (by omega), drop_cons (k := k + 1) (by omega), drop_cons (k := k + 1 + 1) (by omega), unp_bad hc _ hb]; rfl
theorem unpK_hex {l : List UInt8} {k : Nat} {acc : List UInt8} (h : unpK l k acc) (hk : k + 2 < l.length) (hc : (l.getD k 0).toNat = 37) (hb : ¬ (hexN (l.getD (k + 1) 0).toNat < 0 ∨ hexN (l.getD (k + 2) 0).toNat < 0)) :
    unpK l (k + 3) (acc ++ [UInt8.ofNat (hexN (l.getD (k + 1) 0).toNat * 16 + hexN (l.getD (k + 2) 0).toNat).toNat]) := by
  unfold unpK at *
  rw [h, drop_cons (by omega), drop_cons (k := k + 1) (by omega), drop_cons (k := k + 1 + 1) (by omega), unp_hex hc _ hb, Option.map_map]
  congr 1
  funext x
  simp
theorem unpK_end {l : List UInt8} {k : Nat} {acc : List UInt8} (h : unpK l k acc) (hk : l.length ≤ k) : unp l = some acc := by
  unfold unpK at h
  rw [h, List.drop_eq_nil_of_le hk]; simp [unp]
theorem hexN_le {n : Nat} : hexN n ≤ 15 := by unfold hexN; split <;> (try split) <;> (try split) <;> omega
def unpV (l : List UInt8) : List UInt8 × Int := match unp l with | some r => (r, 0) | none => ([], 10)
theorem getB {s : ByteArray} {k : Nat} (h : k < s.size) : s.data.toList.getD k 0 = s[k] := by
  have h' : k < s.data.size := h
  rw [List.getD_eq_getElem?_getD, Array.getElem?_toList, Array.getElem?_eq_getElem h']; rfl
theorem or16 (a b : Nat) (ha : a < 16) (hb : b < 16) : bits .or .i64 ((a : Int) * 16) (b : Int) = ((a * 16 + b : Nat) : Int) := by
  have h : ∀ x y : Fin 16, bits .or .i64 ((x.val : Int) * 16) (y.val : Int) = ((x.val * 16 + y.val : Nat) : Int) := by decide +kernel
  exact h ⟨a, ha⟩ ⟨b, hb⟩
theorem hex_or (p q : Int) (hp : ¬ p < 0) (hq : ¬ q < 0) (hp2 : p ≤ 15) (hq2 : q ≤ 15) : IntKind.u8.wrap (bits .or .i64 (p * 16) q) = ((UInt8.ofNat (p * 16 + q).toNat).toNat : Int) := by
  obtain ⟨a, rfl⟩ : ∃ a : Nat, p = a := ⟨p.toNat, by omega⟩
  obtain ⟨b, rfl⟩ : ∃ b : Nat, q = b := ⟨q.toNat, by omega⟩
  rw [or16 a b (by omega) (by omega), IntKind.wrap_u8, UInt8.toNat_ofNat']
  omega

set_option maxRecDepth 100000 in
set_option maxHeartbeats 4000000 in
theorem unpercent_any (s : ByteArray) (hs : s.size ≤ 16777216) (w : World) :
    Calls Tryd.prog 7 #[.string s] w fun e w' => e = .returned (.tuple #[.string ⟨(unpV s.data.toList).1.toArray⟩, .int .i64 (unpV s.data.toList).2]) ∧ Below w.heap.size w w' := by
  obtain ⟨i0, hi, hz0, hz1, hz2⟩ := info_parts infoB
  obtain ⟨M, hM⟩ : ∃ M, M = madeCells (Value.int .u8 0).cells ((s.size : Int).toNat * i0.size) := ⟨_, rfl⟩
  have hMs : M.size = s.size * 1 := by rw [hM, size_madeCells, hz1]; rfl
  have hmk : ∀ W : World, (Instr.makeSlice 35 (.int .i64 0) (.int .i64 s.size)).run Tryd.prog W = .ok (.slice (some ⟨W.heap.size, 0, none⟩) 0 s.size) (W.alloc (.cells M 5)) := fun W => by
    have h := run_make (P := Tryd.prog) W 35 5 i0 (.int .u8 0) Tryd.underlying35 hi hz0 .i64 .i64 0 s.size (by omega) (by omega) (by rw [hz2]; omega) (by omega)
    rw [← hM] at h
    simpa using h
  have HM := Lib.hid hM; clear hM
  have HMs := Lib.hid hMs; clear hMs
  have hlen := Lib.hid (bsize s)
  have hmx : Tryd.prog.follows .mixedOrders = true := by kernel_rfl
  go_enter Tryd.func7, Tryd.ntmps7
  go_wp2
  go_loopw [4, 5] (fun v p wr => ∃ (k : Nat) (l : List UInt8), p = .int .i64 k ∧ k ≤ s.size ∧ wr.ownsRow w.heap.size 5 1 v l.length (u8s l) ∧ Below w.heap.size w wr ∧ Hid (unpK s.data.toList k l) ∧ l.length ≤ k) (fun _ p _ => s.size - (intOf p).toNat)
  case atStart => exact ⟨0, [], rfl, Nat.zero_le _, World.ownsRow_made w M s.size (Nat.le_refl _) (by unfold maxLen; omega) HMs.out, (Below.refl _ w).alloc (Nat.le_refl _) _, Lib.hid (unpK_start _), Nat.le_refl _⟩
  case round =>
    obtain ⟨k, l, rfl, hk, hown, hbw, HK, hll⟩ := hrel
    have hsz := hbw.size
    by_cases hlt : k < s.size
    · have hc := s[k].toNat_lt
      have hg : Hid (s.data.toList.getD k 0 = s[k]) := Lib.hid (getB hlt)
      have h1 : (k : Int) < (s.size : Int) := by omega
      by_cases hp : s[k].toNat = 37
      · have bp : ((s[k].toNat : Int) == 37) = true := by rw [beq_iff_eq]; omega
        have HP := Lib.hid hp; clear hp
        by_cases h2 : s.size ≤ k + 2
        · have HV : Hid (unpV s.data.toList = ([], 10)) := Lib.hid (by
            unfold unpV
            rw [unpK_short HK.out (by rw [← hlen.out]; exact hlt) (by rw [hg.out]; exact HP.out) (by rw [← hlen.out]; exact h2)])
          have h3 : (s.size : Int) ≤ (k : Int) + 2 := by omega
          go_wp2
          go_ret2
          exact ⟨by rw [HV.out]; rfl, hbw⟩
        · have h3 : (k : Int) + 2 < (s.size : Int) := by omega
          have hk1 : k + 1 < s.size := by omega
          have hk2 : k + 2 < s.size := by omega
          have h4 : (k : Int) + 1 < (s.size : Int) := by omega
          have w1 : IntKind.i64.wrap ((k : Int) + 1) = (k : Int) + 1 := IntWalk.i64_in _ (by omega)
          have w2 : IntKind.i64.wrap ((k : Int) + 2) = (k : Int) + 2 := IntWalk.i64_in _ (by omega)
          have n1 : (0 : Int) ≤ (k : Int) + 1 := by omega
          have n2 : (0 : Int) ≤ (k : Int) + 2 := by omega
          have hg1 : Hid (s.data.toList.getD (k + 1) 0 = s[k + 1]) := Lib.hid (getB hk1)
          have hg2 : Hid (s.data.toList.getD (k + 2) 0 = s[k + 2]) := Lib.hid (getB hk2)
          obtain ⟨p, hp⟩ : ∃ p, p = hexN s[k + 1].toNat := ⟨_, rfl⟩
          obtain ⟨q, hq⟩ : ∃ q, q = hexN s[k + 2].toNat := ⟨_, rfl⟩
          have hp15 : p ≤ 15 := by rw [hp]; exact hexN_le
          have hq15 : q ≤ 15 := by rw [hq]; exact hexN_le
          have HPQ := Lib.hid (And.intro hp hq)
          clear hp hq
          by_cases hb : p < 0 ∨ q < 0
          · have HV : Hid (unpV s.data.toList = ([], 10)) := Lib.hid (by
              unfold unpV
              rw [unpK_bad HK.out (by rw [← hlen.out]; exact hk2) (by rw [hg.out]; exact HP.out) (by rw [hg1.out, hg2.out, ← HPQ.out.1, ← HPQ.out.2]; exact hb)])
            by_cases hp0 : p < 0
            · clear hb
              go_wp2_with fail
              go_quiet ((go_at_call 28; refine Calls.quiet_of_same (hexValue_any _ (UInt8.toNat_lt _) _)))
              rw [← HPQ.out.1, ← HPQ.out.2]
              go_wp2
              go_ret2
              exact ⟨by rw [HV.out]; rfl, bdrewN hbw _⟩
            · have hq0 : q < 0 := by omega
              clear hb
              go_wp2_with fail
              go_quiet ((go_at_call 28; refine Calls.quiet_of_same (hexValue_any _ (UInt8.toNat_lt _) _)))
              rw [← HPQ.out.1, ← HPQ.out.2]
              go_wp2
              go_ret2
              exact ⟨by rw [HV.out]; rfl, bdrewN hbw _⟩
          · have hp0 : ¬ p < 0 := by omega
            have hq0 : ¬ q < 0 := by omega
            have HK2 := Lib.hid (unpK_hex HK.out (by rw [← hlen.out]; exact hk2) (by rw [hg.out]; exact HP.out) (by rw [hg1.out, hg2.out, ← HPQ.out.1, ← HPQ.out.2]; exact hb))
            rw [hg1.out, hg2.out, ← HPQ.out.1, ← HPQ.out.2] at HK2
            have hor := hex_or p q hp0 hq0 hp15 hq15
            obtain ⟨y, hy⟩ : ∃ y, y = UInt8.ofNat (p * 16 + q).toNat := ⟨_, rfl⟩
            rw [← hy] at hor HK2
            clear hb hy
            go_wp2_with fail
            go_quiet ((go_at_call 28; refine Calls.quiet_of_same (hexValue_any _ (UInt8.toNat_lt _) _)))
            rw [← HPQ.out.1, ← HPQ.out.2]
            have hw16 : IntKind.i64.wrap (p * 16) = p * 16 := IntWalk.i64_in _ (by omega)
            go_upto_region 12 with fail
            have hown2 : (wr.drewN nq).ownsRow w.heap.size 5 1 u4 l.length (u8s l) := hown
            have hbw2 := bdrewN hbw nq
            have hsz2 := hbw2.size
            generalize wr.drewN nq = w5 at hown2 hbw2 hsz2 ⊢
            clear hown hbw hsz
            go_wp2_with (at_builtin; refine wpList_append_own _ rfl _ _ 35 rfl w.heap.size 5 i0 (.int .u8 0) 1 1 Tryd.underlying35 hi hz0 hz1 hz2 rfl (by decide) _ _ _ rfl (hown2.alloc _) ⟨_, 0, none⟩ 1 1 [_] rfl rfl (cell_one_new _ _ _) (by simp [Value.oneCell']) (by unfold maxLen; omega) (by omega) (by simp; omega) ?_; intro v' w1 hown1 hgrow1 _)
            go_round
            case rel => exact ⟨k + 3, l ++ [y], by go_num, by omega, by simpa [u8s] using hown1, below_append hbw2 hsz2 hown2 hgrow1, HK2, by simp; omega⟩
            case measure => simp [intOf]; omega
      · have bp : ((s[k].toNat : Int) == 37) = false := by rw [beq_eq_false_iff_ne]; omega
        have HK2 := Lib.hid (unpK_plain HK.out (by rw [← hlen.out]; exact hlt) (by rw [hg.out]; exact hp))
        rw [hg.out] at HK2
        go_wp2_with (at_builtin; refine wpList_append_own _ rfl _ _ 35 rfl w.heap.size 5 i0 (.int .u8 0) 1 1 Tryd.underlying35 hi hz0 hz1 hz2 rfl (by decide) _ _ _ rfl (hown.alloc _) ⟨_, 0, none⟩ 1 1 [_] rfl rfl (cell_one_new _ _ _) (by simp [Value.oneCell']) (by unfold maxLen; omega) (by omega) (by simp; omega) ?_; intro v' w1 hown1 hgrow1 _)
        go_round
        case rel => exact ⟨k + 1, _, by go_num, by omega, by simpa [u8s] using hown1, below_append hbw hsz hown hgrow1, HK2, by simp; omega⟩
        case measure => simp [intOf]; omega
    · obtain rfl : k = s.size := by omega
      have hconv := own_string Tryd.underlying35 Tryd.underlying5 Tryd.underlying9 hown
      have HV : Hid (unpV s.data.toList = (l, 0)) := Lib.hid (by
        unfold unpV
        rw [unpK_end HK.out (by rw [← hlen.out]; exact Nat.le_refl _)])
      go_wp2
      go_ret2
      exact ⟨by rw [HV.out]; rfl, hbw⟩

end Go.Proofs.YtnadnccmlbleoaaDoor
