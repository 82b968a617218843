/-
  Percent coding as the program makes it.
-/
import Derived.WalkSpells
import Derived.WalkLawsBesides
import Derived.Test.YtnadnccmlbleoaaDoorDevOrder
import Derived.Test.YtnadnccmlbleoaaDoorTextLib
import Derived.Test.YtnadnccmlbleoaaDoorTextSmall
import Derived.Test.YtnadnccmlbleoaaDoorTextShelf
namespace Go.Proofs.YtnadnccmlbleoaaDoor
open Go.RowKit

theorem keep_table : ∀ x : Fin 256, (decide ((0 : Int) ≤ Lib.indexByte [45, 46, 95, 126, 47] (UInt8.ofNat x.val))) = (x.val == 45 || x.val == 46 || x.val == 95 || x.val == 126 || x.val == 47) := by decide +kernel
theorem ofNat_int (n : Nat) : (n : Int).toNat.toUInt8 = UInt8.ofNat n := rfl

set_option maxHeartbeats 2000000 in
theorem isUnchanged_any (n : Nat) (hn : n < 256) (w : World) :
    Calls Tryd.prog 34 #[.int .u8 n] w fun e w' => e = .returned (.bool (keepN n)) ∧ w' = w := by
  have c1 := fun w => small_any n hn w
  have c2 := fun w => isDigit_any n hn w
  have c3 := fun w => Tryd.strings_IndexByte ⟨#[45, 46, 95, 126, 47]⟩ (n : Int) w
  have ht := keep_table ⟨n, hn⟩
  simp only [ofNat_int] at c3 ht
  generalize Lib.indexByte [45, 46, 95, 126, 47] (UInt8.ofNat n) = r at c3 ht
  by_cases hl : letN n = true
  · have e : Hid (keepN n = true) := Lib.hid (by unfold keepN; rw [hl]; simp)
    have hm : 97 ≤ lowN n ∧ lowN n ≤ 122 := by
      simp [letN] at hl
      unfold lowN; split <;> omega
    generalize lowN n = m at c1 hm
    obtain ⟨hm1, hm2⟩ := hm
    clear hl ht
    go_enter Tryd.func34, Tryd.ntmps34
    go_wp2_with (first
      | (go_at_call 39; refine (c1 _).mono ?_; rintro e w' ⟨rfl, rfl⟩)
      | (go_at_call 38; refine (c2 _).mono ?_; rintro e w' ⟨rfl, rfl⟩)
      | (go_at_call 30; refine (c3 _).mono ?_; rintro e w' ⟨rfl, rfl⟩))
    go_ret
    exact ⟨by rw [e.out]; rfl, rfl⟩
  · have hl' : letN n = false := by simpa using hl
    have hm : ¬ (97 ≤ lowN n ∧ lowN n ≤ 122) := by
      simp [letN] at hl'
      unfold lowN; split <;> omega
    generalize lowN n = m at c1 hm
    have e : Hid (keepN n = (digN n || decide (0 ≤ r))) := Lib.hid (by
      rw [ht]; unfold keepN; rw [hl']; cases digN n <;> simp [Bool.or_assoc])
    clear hl hl' ht
    have hm2 : m < 97 ∨ 122 < m := by omega
    clear hm
    rcases hm2 with hm | hm
    all_goals
      first | (have hb : decide ((m : Int) ≤ 122) = false := by simp; omega) | skip
      cases hd : digN n
      · rw [hd] at c2
        have e2 : Hid (keepN n = decide (0 ≤ r)) := Lib.hid (by rw [e.out, hd]; rfl)
        go_enter Tryd.func34, Tryd.ntmps34
        go_wp2_with (first
          | (go_at_call 39; refine (c1 _).mono ?_; rintro e w' ⟨rfl, rfl⟩)
          | (go_at_call 38; refine (c2 _).mono ?_; rintro e w' ⟨rfl, rfl⟩)
          | (go_at_call 30; refine (c3 _).mono ?_; rintro e w' ⟨rfl, rfl⟩))
        go_ret
        exact ⟨by rw [e2.out]; rfl, rfl⟩
      · rw [hd] at c2
        have e2 : Hid (keepN n = true) := Lib.hid (by rw [e.out, hd]; rfl)
        go_enter Tryd.func34, Tryd.ntmps34
        go_wp2_with (first
          | (go_at_call 39; refine (c1 _).mono ?_; rintro e w' ⟨rfl, rfl⟩)
          | (go_at_call 38; refine (c2 _).mono ?_; rintro e w' ⟨rfl, rfl⟩)
          | (go_at_call 30; refine (c3 _).mono ?_; rintro e w' ⟨rfl, rfl⟩))
        go_ret
        exact ⟨by rw [e2.out]; rfl, rfl⟩

theorem hexI (i q : Nat) (hi : i < 16) (e : i = q) : (((⟨#[48, 49, 50, 51, 52, 53, 54, 55, 56, 57, 65, 66, 67, 68, 69, 70]⟩ : ByteArray)[i]'hi).toNat : Int) = (hexL q : Nat) := by
  subst e
  have h : ∀ x : Fin 16, (((⟨#[48, 49, 50, 51, 52, 53, 54, 55, 56, 57, 65, 66, 67, 68, 69, 70]⟩ : ByteArray)[x.val]'x.isLt).toNat) = hexL x.val := by decide +kernel
  exact congrArg Nat.cast (h ⟨i, hi⟩)
theorem and15 (n : Nat) (h : n < 256) : bits .and .u8 (n : Int) 15 = ((n % 16 : Nat) : Int) := by
  have h' : ∀ x : Fin 256, bits .and .u8 (x.val : Int) 15 = ((x.val % 16 : Nat) : Int) := by decide +kernel
  exact h' ⟨n, h⟩
theorem hexL_nat {q : Nat} (h : q < 16) : ((UInt8.ofNat (hexL q)).toNat : Int) = (hexL q : Nat) := by
  have : hexL q < 256 := by unfold hexL; split <;> omega
  rw [UInt8.toNat_ofNat']
  omega
/-- The digits of base 16. -/
def hexB : ByteArray := ⟨#[48, 49, 50, 51, 52, 53, 54, 55, 56, 57, 65, 66, 67, 68, 69, 70]⟩
theorem hex_table : ∀ x : Fin 16, hexB.data.toList.getD x.val 0 = UInt8.ofNat (hexL x.val) := by decide +kernel
theorem pct_step {l : List UInt8} {k : Nat} (hk : k < l.length) : pct (l.take (k + 1)) = pct (l.take k) ++ (if keepN (l.getD k 0).toNat then [l.getD k 0] else [37, UInt8.ofNat (hexL ((l.getD k 0).toNat / 16)), UInt8.ofNat (hexL ((l.getD k 0).toNat % 16))]) := by
  rw [List.take_succ_eq_append_getElem hk, pct_append]
  congr 1
  simp [pct, List.getD_eq_getElem?_getD, hk]
theorem pct_take_length (l : List UInt8) (k : Nat) : (pct (l.take k)).length ≤ 3 * l.length := by
  have := pct_length (l.take k)
  rw [List.length_take] at this
  omega

set_option maxRecDepth 100000 in
set_option maxHeartbeats 2000000 in
theorem percent_any (s : ByteArray) (hs : s.size ≤ 16777216) (w : World) :
    Calls Tryd.prog 13 #[.string s] w fun e w' => e = .returned (.string ⟨(pct s.data.toList).toArray⟩) ∧ Below w.heap.size w w' := by
  obtain ⟨i0, hi, hz0, hz1, hz2⟩ := info_parts infoB
  obtain ⟨M, hM⟩ : ∃ M, M = madeCells (Value.int .u8 0).cells ((s.size : Int).toNat * i0.size) := ⟨_, rfl⟩
  have hMs : M.size = s.size * 1 := by rw [hM, size_madeCells, hz1]; rfl
  have hmk : ∀ W : World, (Instr.makeSlice 35 (.int .i64 0) (.int .i64 s.size)).run Tryd.prog W = .ok (.slice (some ⟨W.heap.size, 0, none⟩) 0 s.size) (W.alloc (.cells M 5)) := fun W => by
    have h := run_make (P := Tryd.prog) W 35 5 i0 (.int .u8 0) Tryd.underlying35 hi hz0 .i64 .i64 0 s.size (by omega) (by omega) (by rw [hz2]; omega) (by omega)
    rw [← hM] at h
    simpa using h
  have HM := Lib.hid hM; clear hM
  have HMs := Lib.hid hMs; clear hMs
  have hlen := Lib.hid (bsize s)
  have hmx : Tryd.prog.follows .mixedOrders = true := by kernel_rfl
  go_enter Tryd.func13, Tryd.ntmps13
  go_wp2
  go_loopw [3, 10] (fun v p wr => ∃ k : Nat, p = .int .i64 k ∧ k ≤ s.size ∧ wr.ownsRow w.heap.size 5 1 v (pct (s.data.toList.take k)).length (u8s (pct (s.data.toList.take k))) ∧ Below w.heap.size w wr) (fun _ p _ => s.size - (intOf p).toNat)
  case atStart => exact ⟨0, rfl, Nat.zero_le _, World.ownsRow_made w M s.size (Nat.le_refl _) (by unfold maxLen; omega) HMs.out, (Below.refl _ w).alloc (Nat.le_refl _) _⟩
  case round =>
    obtain ⟨k, rfl, hk, hown, hbw⟩ := hrel
    have hpl := pct_take_length s.data.toList k
    rw [← hlen.out] at hpl
    have hsz := hbw.size
    by_cases hlt : k < s.size
    · have hc := s[k].toNat_lt
      have hg : Hid (s.data.toList.getD k 0 = s[k]) := Lib.hid (by
        have h' : k < s.data.size := hlt
        rw [List.getD_eq_getElem?_getD, Array.getElem?_toList, Array.getElem?_eq_getElem h']; rfl)
      have hst := Lib.hid (pct_step (l := s.data.toList) (k := k) (by rw [← hlen.out]; exact hlt))
      have h1 : (k : Int) < (s.size : Int) := by omega
      cases hkp : keepN s[k].toNat
      · have c1 := fun w => isUnchanged_any s[k].toNat hc w
        rw [hkp] at c1
        have hst2 := hst.out
        rw [hg.out, hkp] at hst2
        have HST := Lib.hid hst2; clear hst hst2
        go_wp2_with (go_at_call 34; refine (c1 _).mono ?_; rintro e w' ⟨rfl, rfl⟩)
        refine wp_region_till (fun _ => True) 13 14 hmx (by kernel_rfl) ?_
        refine till_take (i := 0) _ (u3) [0] rfl (by kernel_rfl) (by kernel_rfl) (by kernel_rfl) (by kernel_rfl) (fun _ _ _ h => h) (.inl ⟨by rfl, fun w' _ => ?_⟩) trivial ?_
        · go_simp
        try simp only [Act.put, List.setIfInBounds_toArray]
        refine till_take (i := 1) _ (.string s) [1] rfl (by kernel_rfl) (by kernel_rfl) (by kernel_rfl) (by kernel_rfl) (fun _ _ _ h => h) (.inl ⟨by rfl, fun w' _ => ?_⟩) trivial ?_
        · go_simp
        try simp only [Act.put]
        refine till_take (i := 2) _ (.int .i64 (k : Int)) [2] rfl (by kernel_rfl) (by kernel_rfl) (by kernel_rfl) (by kernel_rfl) (fun _ _ _ h => h) (.inl ⟨by rfl, fun w' _ => ?_⟩) trivial ?_
        · go_simp
        try simp only [Act.put]
        refine till_take (i := 3) _ (.int .u8 (s[k].toNat : Int)) [3] rfl (by kernel_rfl) (by kernel_rfl) (by kernel_rfl) (by kernel_rfl) (fun _ _ _ h => h) (.inl ⟨by rfl, fun w' _ => ?_⟩) trivial ?_
        · go_simp
        try simp only [Act.put]
        refine till_take (i := 4) _ (.int .u8 ((s[k].toNat / 16 : Nat) : Int)) [4] rfl (by kernel_rfl) (by kernel_rfl) (by kernel_rfl) (by kernel_rfl) (fun _ _ _ h => h) (.inl ⟨by rfl, fun w' _ => ?_⟩) trivial ?_
        · go_simp
        try simp only [Act.put]
        refine till_take (i := 5) _ (.int .u8 ((hexL (s[k].toNat / 16) : Nat) : Int)) [5] rfl (by kernel_rfl) (by kernel_rfl) (by kernel_rfl) (by kernel_rfl) (fun _ _ _ h => h) (.inl ⟨by rfl, fun w' _ => ?_⟩) trivial ?_
        · go_simp; rw [dif_pos (by omega)]; exact congrArg (fun z : Int => Result.ok (Next.value (Value.int .u8 z)) w') (hexI _ _ (by omega) (by omega))
        try simp only [Act.put]
        refine till_take (i := 6) _ (.string s) [6] rfl (by kernel_rfl) (by kernel_rfl) (by kernel_rfl) (by kernel_rfl) (fun _ _ _ h => h) (.inl ⟨by rfl, fun w' _ => ?_⟩) trivial ?_
        · go_simp
        try simp only [Act.put]
        refine till_take (i := 7) _ (.int .i64 (k : Int)) [7] rfl (by kernel_rfl) (by kernel_rfl) (by kernel_rfl) (by kernel_rfl) (fun _ _ _ h => h) (.inl ⟨by rfl, fun w' _ => ?_⟩) trivial ?_
        · go_simp
        try simp only [Act.put]
        refine till_take (i := 8) _ (.int .u8 (s[k].toNat : Int)) [8] rfl (by kernel_rfl) (by kernel_rfl) (by kernel_rfl) (by kernel_rfl) (fun _ _ _ h => h) (.inl ⟨by rfl, fun w' _ => ?_⟩) trivial ?_
        · go_simp
        try simp only [Act.put]
        refine till_take (i := 9) _ (.int .u8 ((s[k].toNat % 16 : Nat) : Int)) [9] rfl (by kernel_rfl) (by kernel_rfl) (by kernel_rfl) (by kernel_rfl) (fun _ _ _ h => h) (.inl ⟨by rfl, fun w' _ => ?_⟩) trivial ?_
        · go_simp; exact and15 _ hc
        try simp only [Act.put]
        refine till_take (i := 10) _ (.int .u8 ((hexL (s[k].toNat % 16) : Nat) : Int)) [10] rfl (by kernel_rfl) (by kernel_rfl) (by kernel_rfl) (by kernel_rfl) (fun _ _ _ h => h) (.inl ⟨by rfl, fun w' _ => ?_⟩) trivial ?_
        · go_simp; rw [dif_pos (by omega)]; exact congrArg (fun z : Int => Result.ok (Next.value (Value.int .u8 z)) w') (hexI _ _ (by omega) (by omega))
        try simp only [Act.put]
        refine till_one (i := 11) _ (by kernel_rfl) rfl rfl (fun K hK => ?_)
        go_simp
        refine hK.out _ _ (fun _ _ => trivial) ?_
        try simp only [Act.put, List.setIfInBounds_toArray, List.set_cons_zero, List.set_cons_succ]
        clear hK K
        refine till_one (i := 12) _ (by kernel_rfl) rfl rfl (fun K hK => ?_)
        refine oper_append _ _ _ rfl Tryd.underlying35 hi hz0 hz1 hz2 (v := u3) rfl ((hown.alloc _).drew) [37, UInt8.ofNat (hexL (s[k].toNat / 16)), UInt8.ofNat (hexL (s[k].toNat % 16))] rfl (cells_new _ _ _ _ (by
          simp only [u8s, List.map_cons, List.map_nil, hexL_nat (show s[k].toNat / 16 < 16 by omega), hexL_nat (show s[k].toNat % 16 < 16 by omega)]
          rfl)) (by simp; omega) (by simp; omega) (fun v' w1 hown1 hgrow1 => ?_)
        refine hK.out _ _ (fun _ _ => trivial) ?_
        try simp only [Act.put, List.setIfInBounds_toArray]
        clear hK K
        refine till_one (i := 13) _ (by kernel_rfl) rfl rfl (fun K hK => ?_)
        go_simp
        refine hK.out _ _ (fun _ _ => trivial) ?_
        try simp only [Act.put, List.setIfInBounds_toArray, List.set_cons_zero, List.set_cons_succ]
        clear hK K
        refine till_done (by kernel_rfl) ?_
        go_wp2
        go_round
        case rel =>
          refine ⟨k + 1, by go_num, by omega, ?_, below_appendD hbw hsz hown hgrow1⟩
          rw [HST.out]
          exact hown1
        case measure => simp [intOf]; omega
      · have c1 := fun w => isUnchanged_any s[k].toNat hc w
        rw [hkp] at c1
        have hst2 := hst.out
        rw [hg.out, hkp] at hst2
        have HST := Lib.hid (congrArg u8s hst2)
        have HSL := Lib.hid (congrArg List.length hst2)
        clear hst hst2
        go_wp2_with (first
          | (go_at_call 34; refine (c1 _).mono ?_; rintro e w' ⟨rfl, rfl⟩)
          | (at_builtin; refine wpList_append_own _ rfl _ _ 35 rfl w.heap.size 5 i0 (.int .u8 0) 1 1 Tryd.underlying35 hi hz0 hz1 hz2 rfl (by decide) _ _ _ rfl (hown.alloc _) ⟨_, 0, none⟩ 1 1 [_] rfl rfl (cell_one_new _ _ _) (by simp [Value.oneCell']) (by unfold maxLen; omega) (by omega) (by simp; omega) ?_; intro v' w1 hown1 hgrow1 _))
        go_round
        case rel =>
          refine ⟨k + 1, by go_num, by omega, ?_, below_append hbw hsz hown hgrow1⟩
          rw [HST.out, HSL.out]
          simpa [u8s] using hown1
        case measure => simp [intOf]; omega
    · obtain rfl : k = s.size := by omega
      rw [List.take_of_length_le (by rw [← hlen.out]; exact Nat.le_refl _)] at hown
      have hconv := own_string Tryd.underlying35 Tryd.underlying5 Tryd.underlying9 hown
      go_wp2
      go_ret
      exact ⟨rfl, hbw⟩

end Go.Proofs.YtnadnccmlbleoaaDoor
