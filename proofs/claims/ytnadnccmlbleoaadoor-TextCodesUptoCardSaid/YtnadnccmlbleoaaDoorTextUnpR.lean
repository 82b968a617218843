/-
  Percent coding taken back, as the document does it.
-/
import Derived.Test.YtnadnccmlbleoaaDoorTextUnp
namespace Go.Proofs.YtnadnccmlbleoaaDoor
open Go.RowKit

theorem hex_add (p q : Int) (hp : ¬ p < 0) (hq : ¬ q < 0) (hp2 : p ≤ 15) (hq2 : q ≤ 15) : IntKind.u8.wrap (p * 16 + q) = ((UInt8.ofNat (p * 16 + q).toNat).toNat : Int) := by
  rw [IntKind.wrap_u8, UInt8.toNat_ofNat']
  omega

set_option maxRecDepth 100000 in
set_option maxHeartbeats 4000000 in
theorem refUnpercent_any (s : ByteArray) (hs : s.size ≤ 16777216) (w : World) :
    Calls Tryd.prog 8 #[.string s] w fun e w' => e = .returned (.tuple #[.string ⟨(unpV s.data.toList).1.toArray⟩, .int .i64 (unpV s.data.toList).2]) ∧ Below w.heap.size w w' := by
  obtain ⟨i0, hi, hz0, hz1, hz2⟩ := info_parts infoB
  have hlen := Lib.hid (bsize s)
  have hmx : Tryd.prog.follows .mixedOrders = true := by kernel_rfl
  go_enter Tryd.func8, Tryd.ntmps8
  go_wp2
  go_loopw [4, 5] (fun v p wr => ∃ (k : Nat) (l : List UInt8), p = .int .i64 k ∧ k ≤ s.size ∧ wr.ownsRow w.heap.size 5 1 v l.length (u8s l) ∧ Below w.heap.size w wr ∧ Hid (unpK s.data.toList k l) ∧ l.length ≤ k) (fun _ p _ => s.size - (intOf p).toNat)
  case atStart => exact ⟨0, [], rfl, Nat.zero_le _, World.ownsRow_nil _ _ _ _, Below.refl _ _, Lib.hid (unpK_start _), Nat.le_refl _⟩
  case round =>
    obtain ⟨k, l, rfl, hk, hown, hbw, HK, hll⟩ := hrel
    have hsz := hbw.size
    by_cases hlt : k < s.size
    · have hc := s[k].toNat_lt
      have hg : Hid (s.data.toList.getD k 0 = s[k]) := Lib.hid (getB hlt)
      have h1 : (k : Int) < (s.size : Int) := by omega
      by_cases hp : s[k].toNat = 37
      · have bp : ((s[k].toNat : Int) == 37) = true := by rw [beq_iff_eq]; omega
        have HP := Lib.hid hp; clear hp
        by_cases h2 : s.size ≤ k + 2
        · have HV : Hid (unpV s.data.toList = ([], 10)) := Lib.hid (by
            unfold unpV
            rw [unpK_short HK.out (by rw [← hlen.out]; exact hlt) (by rw [hg.out]; exact HP.out) (by rw [← hlen.out]; exact h2)])
          have h3 : (s.size : Int) ≤ (k : Int) + 2 := by omega
          go_wp2
          go_ret2
          exact ⟨by rw [HV.out]; rfl, hbw⟩
        · have h3 : (k : Int) + 2 < (s.size : Int) := by omega
          have hk1 : k + 1 < s.size := by omega
          have hk2 : k + 2 < s.size := by omega
          have h4 : (k : Int) + 1 < (s.size : Int) := by omega
          have w1 : IntKind.i64.wrap ((k : Int) + 1) = (k : Int) + 1 := IntWalk.i64_in _ (by omega)
          have w2 : IntKind.i64.wrap ((k : Int) + 2) = (k : Int) + 2 := IntWalk.i64_in _ (by omega)
          have n1 : (0 : Int) ≤ (k : Int) + 1 := by omega
          have n2 : (0 : Int) ≤ (k : Int) + 2 := by omega
          have hg1 : Hid (s.data.toList.getD (k + 1) 0 = s[k + 1]) := Lib.hid (getB hk1)
          have hg2 : Hid (s.data.toList.getD (k + 2) 0 = s[k + 2]) := Lib.hid (getB hk2)
          obtain ⟨p, hp⟩ : ∃ p, p = hexN s[k + 1].toNat := ⟨_, rfl⟩
          obtain ⟨q, hq⟩ : ∃ q, q = hexN s[k + 2].toNat := ⟨_, rfl⟩
          have hp15 : p ≤ 15 := by rw [hp]; exact hexN_le
          have hq15 : q ≤ 15 := by rw [hq]; exact hexN_le
          have HPQ := Lib.hid (And.intro hp hq)
          clear hp hq
          by_cases hb : p < 0 ∨ q < 0
          · have HV : Hid (unpV s.data.toList = ([], 10)) := Lib.hid (by
              unfold unpV
              rw [unpK_bad HK.out (by rw [← hlen.out]; exact hk2) (by rw [hg.out]; exact HP.out) (by rw [hg1.out, hg2.out, ← HPQ.out.1, ← HPQ.out.2]; exact hb)])
            by_cases hp0 : p < 0
            · clear hb
              go_wp2_with fail
              go_at_call 29
              refine (refHex_any _ (UInt8.toNat_lt _) _).mono ?_
              rintro e w5 ⟨rfl, rfl⟩
              rw [← HPQ.out.1]
              go_wp2
              go_ret2
              exact ⟨by rw [HV.out]; rfl, hbw⟩
            · have hq0 : q < 0 := by omega
              clear hb
              go_wp2_with fail
              go_at_call 29
              refine (refHex_any _ (UInt8.toNat_lt _) _).mono ?_
              rintro e w5 ⟨rfl, rfl⟩
              rw [← HPQ.out.1]
              go_wp2_with fail
              go_at_call 29
              refine (refHex_any _ (UInt8.toNat_lt _) _).mono ?_
              rintro e w5 ⟨rfl, rfl⟩
              rw [← HPQ.out.2]
              go_wp2
              go_ret2
              exact ⟨by rw [HV.out]; rfl, hbw⟩
          · have hp0 : ¬ p < 0 := by omega
            have hq0 : ¬ q < 0 := by omega
            have HK2 := Lib.hid (unpK_hex HK.out (by rw [← hlen.out]; exact hk2) (by rw [hg.out]; exact HP.out) (by rw [hg1.out, hg2.out, ← HPQ.out.1, ← HPQ.out.2]; exact hb))
            rw [hg1.out, hg2.out, ← HPQ.out.1, ← HPQ.out.2] at HK2
            have hor := hex_add p q hp0 hq0 hp15 hq15
            obtain ⟨y, hy⟩ : ∃ y, y = UInt8.ofNat (p * 16 + q).toNat := ⟨_, rfl⟩
            rw [← hy] at hor HK2
            clear hb hy
            have hw16 : IntKind.i64.wrap (p * 16) = p * 16 := IntWalk.i64_in _ (by omega)
            have hw17 : IntKind.i64.wrap (p * 16 + q) = p * 16 + q := IntWalk.i64_in _ (by omega)
            go_wp2_with fail
            go_at_call 29
            refine (refHex_any _ (UInt8.toNat_lt _) _).mono ?_
            rintro e w5 ⟨rfl, rfl⟩
            rw [← HPQ.out.1]
            go_wp2_with fail
            go_at_call 29
            refine (refHex_any _ (UInt8.toNat_lt _) _).mono ?_
            rintro e w5 ⟨rfl, rfl⟩
            rw [← HPQ.out.2]
            go_wp2_with fail
            refine wp_region_till (fun _ => True) 16 17 hmx (by kernel_rfl) ?_
            refine till_take (i := 0) _ (u4) [0] rfl (by kernel_rfl) (by kernel_rfl) (by kernel_rfl) (by kernel_rfl) (fun _ _ _ h => h) (.inl ⟨by rfl, fun w' _ => ?_⟩) trivial ?_
            · go_simp
            try simp only [Act.put, List.setIfInBounds_toArray]
            refine till_take (i := 1) _ (.string s) [1] rfl (by kernel_rfl) (by kernel_rfl) (by kernel_rfl) (by kernel_rfl) (fun _ _ _ h => h) (.inl ⟨by rfl, fun w' _ => ?_⟩) trivial ?_
            · go_simp
            try simp only [Act.put]
            refine till_take (i := 2) _ (.int .i64 (k : Int)) [2] rfl (by kernel_rfl) (by kernel_rfl) (by kernel_rfl) (by kernel_rfl) (fun _ _ _ h => h) (.inl ⟨by rfl, fun w' _ => ?_⟩) trivial ?_
            · go_simp
            try simp only [Act.put]
            refine till_take (i := 3) _ (.int .i64 ((k : Int) + 1)) [3] rfl (by kernel_rfl) (by kernel_rfl) (by kernel_rfl) (by kernel_rfl) (fun _ _ _ h => h) (.inl ⟨by rfl, fun w' _ => ?_⟩) trivial ?_
            · go_simp
            try simp only [Act.put]
            refine till_take (i := 4) _ (.int .u8 (s[k + 1].toNat : Int)) [4] rfl (by kernel_rfl) (by kernel_rfl) (by kernel_rfl) (by kernel_rfl) (fun _ _ _ h => h) (.inl ⟨by rfl, fun w' _ => ?_⟩) trivial ?_
            · go_simp
            try simp only [Act.put]
            refine till_take (i := 7) _ (.string s) [7] rfl (by kernel_rfl) (by kernel_rfl) (by kernel_rfl) (by kernel_rfl) (fun _ _ _ h => h) (.inl ⟨by rfl, fun w' _ => ?_⟩) trivial ?_
            · go_simp
            try simp only [Act.put]
            refine till_take (i := 8) _ (.int .i64 (k : Int)) [8] rfl (by kernel_rfl) (by kernel_rfl) (by kernel_rfl) (by kernel_rfl) (fun _ _ _ h => h) (.inl ⟨by rfl, fun w' _ => ?_⟩) trivial ?_
            · go_simp
            try simp only [Act.put]
            refine till_take (i := 9) _ (.int .i64 ((k : Int) + 2)) [9] rfl (by kernel_rfl) (by kernel_rfl) (by kernel_rfl) (by kernel_rfl) (fun _ _ _ h => h) (.inl ⟨by rfl, fun w' _ => ?_⟩) trivial ?_
            · go_simp
            try simp only [Act.put]
            refine till_take (i := 10) _ (.int .u8 (s[k + 2].toNat : Int)) [10] rfl (by kernel_rfl) (by kernel_rfl) (by kernel_rfl) (by kernel_rfl) (fun _ _ _ h => h) (.inl ⟨by rfl, fun w' _ => ?_⟩) trivial ?_
            · go_simp; simp only [show ((k : Int) + 2).toNat = k + 2 by omega]
            try simp only [Act.put]
            refine till_one (i := 5) _ (by kernel_rfl) rfl rfl (fun K hK => ?_)
            go_simp
            go_at_call 29
            refine (refHex_any _ (UInt8.toNat_lt _) _).mono ?_
            rintro e w5 ⟨rfl, rfl⟩
            rw [← HPQ.out.1]
            refine hK.out _ _ (fun _ _ => trivial) ?_
            try simp only [Act.put, List.setIfInBounds_toArray, List.set_cons_zero, List.set_cons_succ]
            clear hK K
            refine till_take (i := 6) _ (.int .i64 (p * 16)) [6] rfl (by kernel_rfl) (by kernel_rfl) (by kernel_rfl) (by kernel_rfl) (fun _ _ _ h => h) (.inl ⟨by rfl, fun w' _ => ?_⟩) trivial ?_
            · go_simp
            try simp only [Act.put, List.setIfInBounds_toArray]
            refine till_one (i := 11) _ (by kernel_rfl) rfl rfl (fun K hK => ?_)
            go_simp
            go_at_call 29
            refine (refHex_any _ (UInt8.toNat_lt _) _).mono ?_
            rintro e w5 ⟨rfl, rfl⟩
            rw [← HPQ.out.2]
            refine hK.out _ _ (fun _ _ => trivial) ?_
            try simp only [Act.put, List.setIfInBounds_toArray, List.set_cons_zero, List.set_cons_succ]
            clear hK K
            refine till_take (i := 12) _ (.int .i64 (p * 16 + q)) [12] rfl (by kernel_rfl) (by kernel_rfl) (by kernel_rfl) (by kernel_rfl) (fun _ _ _ h => h) (.inl ⟨by rfl, fun w' _ => ?_⟩) trivial ?_
            · go_simp
            try simp only [Act.put, List.setIfInBounds_toArray]
            refine till_take (i := 13) _ (.int .u8 (y.toNat : Int)) [13] rfl (by kernel_rfl) (by kernel_rfl) (by kernel_rfl) (by kernel_rfl) (fun _ _ _ h => h) (.inl ⟨by rfl, fun w' _ => ?_⟩) trivial ?_
            · go_simp
            try simp only [Act.put]
            refine till_one (i := 14) _ (by kernel_rfl) rfl rfl (fun K hK => ?_)
            go_simp
            refine hK.out _ _ (fun _ _ => trivial) ?_
            try simp only [Act.put, List.setIfInBounds_toArray, List.set_cons_zero, List.set_cons_succ]
            clear hK K
            refine till_one (i := 15) _ (by kernel_rfl) rfl rfl (fun K hK => ?_)
            refine oper_append _ _ _ rfl Tryd.underlying35 hi hz0 hz1 hz2 (v := u4) rfl ((hown.alloc _).drew) [y] rfl (cells_new _ _ _ _ rfl) (by simp; omega) (by simp; omega) (fun v' w1 hown1 hgrow1 => ?_)
            refine hK.out _ _ (fun _ _ => trivial) ?_
            try simp only [Act.put, List.setIfInBounds_toArray]
            clear hK K
            refine till_one (i := 16) _ (by kernel_rfl) rfl rfl (fun K hK => ?_)
            go_simp
            refine hK.out _ _ (fun _ _ => trivial) ?_
            try simp only [Act.put, List.setIfInBounds_toArray, List.set_cons_zero, List.set_cons_succ]
            clear hK K
            refine till_done (by kernel_rfl) ?_
            go_wp2
            go_round
            case rel => exact ⟨k + 3, l ++ [y], by go_num, by omega, hown1, below_appendD hbw hsz hown hgrow1, HK2, by simp; omega⟩
            case measure => simp [intOf]; omega
      · have bp : ((s[k].toNat : Int) == 37) = false := by rw [beq_eq_false_iff_ne]; omega
        have HK2 := Lib.hid (unpK_plain HK.out (by rw [← hlen.out]; exact hlt) (by rw [hg.out]; exact hp))
        rw [hg.out] at HK2
        go_wp2_with (at_builtin; refine wpList_append_own _ rfl _ _ 35 rfl w.heap.size 5 i0 (.int .u8 0) 1 1 Tryd.underlying35 hi hz0 hz1 hz2 rfl (by decide) _ _ _ rfl (hown.alloc _) ⟨_, 0, none⟩ 1 1 [_] rfl rfl (cell_one_new _ _ _) (by simp [Value.oneCell']) (by unfold maxLen; omega) (by omega) (by simp; omega) ?_; intro v' w1 hown1 hgrow1 _)
        go_round
        case rel => exact ⟨k + 1, _, by go_num, by omega, by simpa [u8s] using hown1, below_append hbw hsz hown hgrow1, HK2, by simp; omega⟩
        case measure => simp [intOf]; omega
    · obtain rfl : k = s.size := by omega
      have hconv := own_string Tryd.underlying35 Tryd.underlying5 Tryd.underlying9 hown
      have HV : Hid (unpV s.data.toList = (l, 0)) := Lib.hid (by
        unfold unpV
        rw [unpK_end HK.out (by rw [← hlen.out]; exact Nat.le_refl _)])
      go_wp2
      go_ret2
      exact ⟨by rw [HV.out]; rfl, hbw⟩

end Go.Proofs.YtnadnccmlbleoaaDoor
