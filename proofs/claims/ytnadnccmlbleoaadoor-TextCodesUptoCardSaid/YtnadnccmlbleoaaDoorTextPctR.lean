/-
  Percent coding as the document makes it.
-/
import Derived.Test.YtnadnccmlbleoaaDoorTextPct
namespace Go.Proofs.YtnadnccmlbleoaaDoor
open Go.RowKit

theorem keep_cases {n : Nat} (h : keepN n = true) : digN n = true ∨ (digN n = false ∧ letN n = true) ∨ (digN n = false ∧ letN n = false ∧ n = 45) ∨ (digN n = false ∧ letN n = false ∧ n ≠ 45 ∧ n = 46) ∨ (digN n = false ∧ letN n = false ∧ n ≠ 45 ∧ n ≠ 46 ∧ n = 95) ∨
    (digN n = false ∧ letN n = false ∧ n ≠ 45 ∧ n ≠ 46 ∧ n ≠ 95 ∧ n = 126) ∨ (digN n = false ∧ letN n = false ∧ n ≠ 45 ∧ n ≠ 46 ∧ n ≠ 95 ∧ n ≠ 126 ∧ n = 47) := by
  unfold keepN at h
  cases h1 : digN n
  · cases h2 : letN n
    · rw [h1, h2] at h
      simp only [Bool.false_or, Bool.or_eq_true, beq_iff_eq] at h
      simp only [Bool.false_eq_true, true_and, false_or]
      omega
    · simp
  · simp
theorem keep_none {n : Nat} (h : keepN n = false) : digN n = false ∧ letN n = false ∧ n ≠ 45 ∧ n ≠ 46 ∧ n ≠ 95 ∧ n ≠ 126 ∧ n ≠ 47 := by
  unfold keepN at h
  simp only [Bool.or_eq_false_iff, beq_eq_false_iff_ne] at h
  obtain ⟨⟨⟨⟨⟨⟨h1, h2⟩, h3⟩, h4⟩, h5⟩, h6⟩, h7⟩ := h
  exact ⟨h1, h2, h3, h4, h5, h6, h7⟩
theorem beqF {n m : Nat} (h : n ≠ m) : ((n : Int) == (m : Int)) = false := by rw [beq_eq_false_iff_ne]; omega
theorem beqT {n m : Nat} (h : n = m) : ((n : Int) == (m : Int)) = true := by rw [beq_iff_eq]; omega

set_option maxRecDepth 100000 in
set_option maxHeartbeats 4000000 in
theorem refPercent_any (s : ByteArray) (hs : s.size ≤ 16777216) (w : World) :
    Calls Tryd.prog 14 #[.string s] w fun e w' => e = .returned (.string ⟨(pct s.data.toList).toArray⟩) ∧ Below w.heap.size w w' := by
  obtain ⟨i0, hi, hz0, hz1, hz2⟩ := info_parts infoB
  have hlen := Lib.hid (bsize s)
  have hmx : Tryd.prog.follows .mixedOrders = true := by kernel_rfl
  go_enter Tryd.func14, Tryd.ntmps14
  go_wp2
  go_loopw [3, 4] (fun v p wr => ∃ k : Nat, p = .int .i64 k ∧ k ≤ s.size ∧ wr.ownsRow w.heap.size 5 1 v (pct (s.data.toList.take k)).length (u8s (pct (s.data.toList.take k))) ∧ Below w.heap.size w wr) (fun _ p _ => s.size - (intOf p).toNat)
  case atStart => exact ⟨0, rfl, Nat.zero_le _, World.ownsRow_nil _ _ _ _, Below.refl _ _⟩
  case round =>
    obtain ⟨k, rfl, hk, hown, hbw⟩ := hrel
    have hpl := pct_take_length s.data.toList k
    rw [← hlen.out] at hpl
    have hsz := hbw.size
    by_cases hlt : k < s.size
    · have hc := s[k].toNat_lt
      have hg : Hid (s.data.toList.getD k 0 = s[k]) := Lib.hid (by
        have h' : k < s.data.size := hlt
        rw [List.getD_eq_getElem?_getD, Array.getElem?_toList, Array.getElem?_eq_getElem h']; rfl)
      have hst := Lib.hid (pct_step (l := s.data.toList) (k := k) (by rw [← hlen.out]; exact hlt))
      have h1 : (k : Int) < (s.size : Int) := by omega
      have cd := fun w => refDigit_any s[k].toNat hc w
      have cl := fun w => refLetter_any s[k].toNat hc w
      cases hkp : keepN s[k].toNat
      · have hst2 := hst.out
        rw [hg.out, hkp] at hst2
        have HST := Lib.hid hst2; clear hst hst2
        obtain ⟨q1, q2, q3, q4, q5, q6, q7⟩ := keep_none hkp
        rw [q1] at cd
        rw [q2] at cl
        have b3 := beqF q3; have b4 := beqF q4; have b5 := beqF q5; have b6 := beqF q6; have b7 := beqF q7
        simp only [Int.cast_ofNat_Int] at b3 b4 b5 b6 b7
        clear q1 q2 q3 q4 q5 q6 q7 hkp
        go_wp2_with (first
          | (go_at_call 35; refine (cd _).mono ?_; rintro e w' ⟨rfl, rfl⟩)
          | (go_at_call 36; refine (cl _).mono ?_; rintro e w' ⟨rfl, rfl⟩))
        refine wp_region_till (fun _ => True) 9 10 hmx (by kernel_rfl) ?_
        refine till_take (i := 0) _ (u3) [0] rfl (by kernel_rfl) (by kernel_rfl) (by kernel_rfl) (by kernel_rfl) (fun _ _ _ h => h) (.inl ⟨by rfl, fun w' _ => ?_⟩) trivial ?_
        · go_simp
        try simp only [Act.put, List.setIfInBounds_toArray]
        refine till_take (i := 1) _ (.int .u8 (s[k].toNat : Int)) [1] rfl (by kernel_rfl) (by kernel_rfl) (by kernel_rfl) (by kernel_rfl) (fun _ _ _ h => h) (.inl ⟨by rfl, fun w' _ => ?_⟩) trivial ?_
        · go_simp
        try simp only [Act.put]
        refine till_take (i := 2) _ (.int .u8 ((s[k].toNat / 16 : Nat) : Int)) [2] rfl (by kernel_rfl) (by kernel_rfl) (by kernel_rfl) (by kernel_rfl) (fun _ _ _ h => h) (.inl ⟨by rfl, fun w' _ => ?_⟩) trivial ?_
        · go_simp; rw [IntKind.wrap_u8]; omega
        try simp only [Act.put]
        refine till_take (i := 3) _ (.int .u8 ((hexL (s[k].toNat / 16) : Nat) : Int)) [3] rfl (by kernel_rfl) (by kernel_rfl) (by kernel_rfl) (by kernel_rfl) (fun _ _ _ h => h) (.inl ⟨by rfl, fun w' _ => ?_⟩) trivial ?_
        · go_simp; rw [dif_pos (by omega)]; exact congrArg (fun z : Int => Result.ok (Next.value (Value.int .u8 z)) w') (hexI _ _ (by omega) (by omega))
        try simp only [Act.put]
        refine till_take (i := 4) _ (.int .u8 (s[k].toNat : Int)) [4] rfl (by kernel_rfl) (by kernel_rfl) (by kernel_rfl) (by kernel_rfl) (fun _ _ _ h => h) (.inl ⟨by rfl, fun w' _ => ?_⟩) trivial ?_
        · go_simp
        try simp only [Act.put]
        refine till_take (i := 5) _ (.int .u8 ((s[k].toNat % 16 : Nat) : Int)) [5] rfl (by kernel_rfl) (by kernel_rfl) (by kernel_rfl) (by kernel_rfl) (fun _ _ _ h => h) (.inl ⟨by rfl, fun w' _ => ?_⟩) trivial ?_
        · go_simp; rw [Int.tmod_eq_emod_of_nonneg (by omega)]
        try simp only [Act.put]
        refine till_take (i := 6) _ (.int .u8 ((hexL (s[k].toNat % 16) : Nat) : Int)) [6] rfl (by kernel_rfl) (by kernel_rfl) (by kernel_rfl) (by kernel_rfl) (fun _ _ _ h => h) (.inl ⟨by rfl, fun w' _ => ?_⟩) trivial ?_
        · go_simp; rw [dif_pos (by omega)]; exact congrArg (fun z : Int => Result.ok (Next.value (Value.int .u8 z)) w') (hexI _ _ (by omega) (by omega))
        try simp only [Act.put]
        refine till_one (i := 7) _ (by kernel_rfl) rfl rfl (fun K hK => ?_)
        go_simp
        refine hK.out _ _ (fun _ _ => trivial) ?_
        try simp only [Act.put, List.setIfInBounds_toArray, List.set_cons_zero, List.set_cons_succ]
        clear hK K
        refine till_one (i := 8) _ (by kernel_rfl) rfl rfl (fun K hK => ?_)
        refine oper_append _ _ _ rfl Tryd.underlying35 hi hz0 hz1 hz2 (v := u3) rfl ((hown.alloc _).drew) [37, UInt8.ofNat (hexL (s[k].toNat / 16)), UInt8.ofNat (hexL (s[k].toNat % 16))] rfl (cells_new _ _ _ _ (by
          simp only [u8s, List.map_cons, List.map_nil, hexL_nat (show s[k].toNat / 16 < 16 by omega), hexL_nat (show s[k].toNat % 16 < 16 by omega)]
          rfl)) (by simp; omega) (by simp; omega) (fun v' w1 hown1 hgrow1 => ?_)
        refine hK.out _ _ (fun _ _ => trivial) ?_
        try simp only [Act.put, List.setIfInBounds_toArray]
        clear hK K
        refine till_one (i := 9) _ (by kernel_rfl) rfl rfl (fun K hK => ?_)
        go_simp
        refine hK.out _ _ (fun _ _ => trivial) ?_
        try simp only [Act.put, List.setIfInBounds_toArray, List.set_cons_zero, List.set_cons_succ]
        clear hK K
        refine till_done (by kernel_rfl) ?_
        go_wp2
        go_round
        case rel =>
          refine ⟨k + 1, by go_num, by omega, ?_, below_appendD hbw hsz hown hgrow1⟩
          rw [HST.out]
          exact hown1
        case measure => simp [intOf]; omega
      · have hst2 := hst.out
        rw [hg.out, hkp] at hst2
        have HST := Lib.hid (congrArg u8s hst2)
        have HSL := Lib.hid (congrArg List.length hst2)
        clear hst hst2
        rcases keep_cases hkp with q1 | ⟨q1, q2⟩ | ⟨q1, q2, q3⟩ | ⟨q1, q2, q3, q4⟩ | ⟨q1, q2, q3, q4, q5⟩ | ⟨q1, q2, q3, q4, q5, q6⟩ | ⟨q1, q2, q3, q4, q5, q6, q7⟩
        · rw [q1] at cd
          clear hkp q1
          go_wp2_with (first
            | (go_at_call 35; refine (cd _).mono ?_; rintro e w' ⟨rfl, rfl⟩)
            | (go_at_call 36; refine (cl _).mono ?_; rintro e w' ⟨rfl, rfl⟩)
            | (at_builtin; refine wpList_append_own _ rfl _ _ 35 rfl w.heap.size 5 i0 (.int .u8 0) 1 1 Tryd.underlying35 hi hz0 hz1 hz2 rfl (by decide) _ _ _ rfl (hown.alloc _) ⟨_, 0, none⟩ 1 1 [_] rfl rfl (cell_one_new _ _ _) (by simp [Value.oneCell']) (by unfold maxLen; omega) (by omega) (by simp; omega) ?_; intro v' w1 hown1 hgrow1 _))
          go_round
          case rel =>
            refine ⟨k + 1, by go_num, by omega, ?_, below_append hbw hsz hown hgrow1⟩
            rw [HST.out, HSL.out]
            simpa [u8s] using hown1
          case measure => simp [intOf]; omega
        · rw [q1] at cd
          rw [q2] at cl
          clear hkp q1 q2
          go_wp2_with (first
            | (go_at_call 35; refine (cd _).mono ?_; rintro e w' ⟨rfl, rfl⟩)
            | (go_at_call 36; refine (cl _).mono ?_; rintro e w' ⟨rfl, rfl⟩)
            | (at_builtin; refine wpList_append_own _ rfl _ _ 35 rfl w.heap.size 5 i0 (.int .u8 0) 1 1 Tryd.underlying35 hi hz0 hz1 hz2 rfl (by decide) _ _ _ rfl (hown.alloc _) ⟨_, 0, none⟩ 1 1 [_] rfl rfl (cell_one_new _ _ _) (by simp [Value.oneCell']) (by unfold maxLen; omega) (by omega) (by simp; omega) ?_; intro v' w1 hown1 hgrow1 _))
          go_round
          case rel =>
            refine ⟨k + 1, by go_num, by omega, ?_, below_append hbw hsz hown hgrow1⟩
            rw [HST.out, HSL.out]
            simpa [u8s] using hown1
          case measure => simp [intOf]; omega
        · rw [q1] at cd
          rw [q2] at cl
          have b3 := beqT q3
          simp only [Int.cast_ofNat_Int] at b3
          clear hkp q1 q2 q3
          go_wp2_with (first
            | (go_at_call 35; refine (cd _).mono ?_; rintro e w' ⟨rfl, rfl⟩)
            | (go_at_call 36; refine (cl _).mono ?_; rintro e w' ⟨rfl, rfl⟩)
            | (at_builtin; refine wpList_append_own _ rfl _ _ 35 rfl w.heap.size 5 i0 (.int .u8 0) 1 1 Tryd.underlying35 hi hz0 hz1 hz2 rfl (by decide) _ _ _ rfl (hown.alloc _) ⟨_, 0, none⟩ 1 1 [_] rfl rfl (cell_one_new _ _ _) (by simp [Value.oneCell']) (by unfold maxLen; omega) (by omega) (by simp; omega) ?_; intro v' w1 hown1 hgrow1 _))
          go_round
          case rel =>
            refine ⟨k + 1, by go_num, by omega, ?_, below_append hbw hsz hown hgrow1⟩
            rw [HST.out, HSL.out]
            simpa [u8s] using hown1
          case measure => simp [intOf]; omega
        · rw [q1] at cd
          rw [q2] at cl
          have b3 := beqF q3
          have b4 := beqT q4
          simp only [Int.cast_ofNat_Int] at b3 b4
          clear hkp q1 q2 q3 q4
          go_wp2_with (first
            | (go_at_call 35; refine (cd _).mono ?_; rintro e w' ⟨rfl, rfl⟩)
            | (go_at_call 36; refine (cl _).mono ?_; rintro e w' ⟨rfl, rfl⟩)
            | (at_builtin; refine wpList_append_own _ rfl _ _ 35 rfl w.heap.size 5 i0 (.int .u8 0) 1 1 Tryd.underlying35 hi hz0 hz1 hz2 rfl (by decide) _ _ _ rfl (hown.alloc _) ⟨_, 0, none⟩ 1 1 [_] rfl rfl (cell_one_new _ _ _) (by simp [Value.oneCell']) (by unfold maxLen; omega) (by omega) (by simp; omega) ?_; intro v' w1 hown1 hgrow1 _))
          go_round
          case rel =>
            refine ⟨k + 1, by go_num, by omega, ?_, below_append hbw hsz hown hgrow1⟩
            rw [HST.out, HSL.out]
            simpa [u8s] using hown1
          case measure => simp [intOf]; omega
        · rw [q1] at cd
          rw [q2] at cl
          have b3 := beqF q3
          have b4 := beqF q4
          have b5 := beqT q5
          simp only [Int.cast_ofNat_Int] at b3 b4 b5
          clear hkp q1 q2 q3 q4 q5
          go_wp2_with (first
            | (go_at_call 35; refine (cd _).mono ?_; rintro e w' ⟨rfl, rfl⟩)
            | (go_at_call 36; refine (cl _).mono ?_; rintro e w' ⟨rfl, rfl⟩)
            | (at_builtin; refine wpList_append_own _ rfl _ _ 35 rfl w.heap.size 5 i0 (.int .u8 0) 1 1 Tryd.underlying35 hi hz0 hz1 hz2 rfl (by decide) _ _ _ rfl (hown.alloc _) ⟨_, 0, none⟩ 1 1 [_] rfl rfl (cell_one_new _ _ _) (by simp [Value.oneCell']) (by unfold maxLen; omega) (by omega) (by simp; omega) ?_; intro v' w1 hown1 hgrow1 _))
          go_round
          case rel =>
            refine ⟨k + 1, by go_num, by omega, ?_, below_append hbw hsz hown hgrow1⟩
            rw [HST.out, HSL.out]
            simpa [u8s] using hown1
          case measure => simp [intOf]; omega
        · rw [q1] at cd
          rw [q2] at cl
          have b3 := beqF q3
          have b4 := beqF q4
          have b5 := beqF q5
          have b6 := beqT q6
          simp only [Int.cast_ofNat_Int] at b3 b4 b5 b6
          clear hkp q1 q2 q3 q4 q5 q6
          go_wp2_with (first
            | (go_at_call 35; refine (cd _).mono ?_; rintro e w' ⟨rfl, rfl⟩)
            | (go_at_call 36; refine (cl _).mono ?_; rintro e w' ⟨rfl, rfl⟩)
            | (at_builtin; refine wpList_append_own _ rfl _ _ 35 rfl w.heap.size 5 i0 (.int .u8 0) 1 1 Tryd.underlying35 hi hz0 hz1 hz2 rfl (by decide) _ _ _ rfl (hown.alloc _) ⟨_, 0, none⟩ 1 1 [_] rfl rfl (cell_one_new _ _ _) (by simp [Value.oneCell']) (by unfold maxLen; omega) (by omega) (by simp; omega) ?_; intro v' w1 hown1 hgrow1 _))
          go_round
          case rel =>
            refine ⟨k + 1, by go_num, by omega, ?_, below_append hbw hsz hown hgrow1⟩
            rw [HST.out, HSL.out]
            simpa [u8s] using hown1
          case measure => simp [intOf]; omega
        · rw [q1] at cd
          rw [q2] at cl
          have b3 := beqF q3
          have b4 := beqF q4
          have b5 := beqF q5
          have b6 := beqF q6
          have b7 := beqT q7
          simp only [Int.cast_ofNat_Int] at b3 b4 b5 b6 b7
          clear hkp q1 q2 q3 q4 q5 q6 q7
          go_wp2_with (first
            | (go_at_call 35; refine (cd _).mono ?_; rintro e w' ⟨rfl, rfl⟩)
            | (go_at_call 36; refine (cl _).mono ?_; rintro e w' ⟨rfl, rfl⟩)
            | (at_builtin; refine wpList_append_own _ rfl _ _ 35 rfl w.heap.size 5 i0 (.int .u8 0) 1 1 Tryd.underlying35 hi hz0 hz1 hz2 rfl (by decide) _ _ _ rfl (hown.alloc _) ⟨_, 0, none⟩ 1 1 [_] rfl rfl (cell_one_new _ _ _) (by simp [Value.oneCell']) (by unfold maxLen; omega) (by omega) (by simp; omega) ?_; intro v' w1 hown1 hgrow1 _))
          go_round
          case rel =>
            refine ⟨k + 1, by go_num, by omega, ?_, below_append hbw hsz hown hgrow1⟩
            rw [HST.out, HSL.out]
            simpa [u8s] using hown1
          case measure => simp [intOf]; omega
    · obtain rfl : k = s.size := by omega
      rw [List.take_of_length_le (by rw [← hlen.out]; exact Nat.le_refl _)] at hown
      have hconv := own_string Tryd.underlying35 Tryd.underlying5 Tryd.underlying9 hown
      go_wp2
      go_ret
      exact ⟨rfl, hbw⟩

end Go.Proofs.YtnadnccmlbleoaaDoor
