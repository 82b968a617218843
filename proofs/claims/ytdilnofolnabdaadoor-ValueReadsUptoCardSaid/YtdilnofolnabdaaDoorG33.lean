/-
  The document's own answers of layer 13: what is escaped, taken back.
-/
import Derived.Test.YtdilnofolnabdaaDoorG32
import Derived.Test.YtdilnofolnabdaaDoorG21
import Derived.Test.YtdilnofolnabdaaDoorG10
namespace Go.Proofs.YtdilnofolnabdaaDoor
open Go.RowKit

theorem oneR {s : ByteArray} {k : Nat} (h : k < s.size) : (s.extract k (k + 1)).data.toList = [s[k]] := by
  rw [cutR, dropR h, show k + 1 - k = 1 by omega]; rfl
theorem appR (a b : ByteArray) : (a ++ b).data.toList = a.data.toList ++ b.data.toList := by simp
theorem sizeAppR (a b : ByteArray) : (a ++ b).size = a.size + b.size := ByteArray.size_append
theorem sizeOneR {s : ByteArray} {k : Nat} (h : k < s.size) : (s.extract k (k + 1)).size = 1 := by rw [← listR, oneR h]; rfl
theorem intNe {n : Nat} {d : Int} (h : ¬ (n : Int) = d) : ((n : Int) == d) = false ∧ ((n : Int) != d) = true := ⟨by rw [beq_eq_false_iff_ne]; exact h, by simpa using h⟩
set_option maxRecDepth 100000 in
set_option maxHeartbeats 8000000 in
theorem refUnesc13_any (s : ByteArray) (hs : s.size ≤ 16777216) (w : World) :
    Calls Tryd.prog 10 #[.string s] w fun e w' => e = .returned (.tuple #[.string ⟨(unV s.data.toList).1.toArray⟩, .int .i64 (unV s.data.toList).2]) ∧ Below w.heap.size w w' := by
  go_enter Tryd.func10, Tryd.ntmps10
  go_wp2
  go_loopw [4, 5] (fun v p wr => ∃ (k : Nat) (x : ByteArray), v = .string x ∧ p = .int .i64 k ∧ k ≤ s.size ∧ x.size ≤ k ∧ wr = w ∧
    Hid (unescL s.data.toList = (unescL (s.data.toList.drop k)).map (x.data.toList ++ ·))) (fun _ p _ => s.size - (intOf p).toNat)
  case atStart => exact ⟨0, ⟨#[]⟩, rfl, rfl, Nat.zero_le _, Nat.le_refl _, rfl, Lib.hid (by simp)⟩
  case round =>
    obtain ⟨k, x, rfl, rfl, hk, hx, rfl, HU⟩ := hrel
    by_cases hlt : k < s.size
    · have h1 : (k : Int) < (s.size : Int) := by omega
      have h2 : (k : Int) + 1 ≤ (s.size : Int) := by omega
      have HU2 : Hid (unescL s.data.toList = (unescL (s[k] :: s.data.toList.drop (k + 1))).map (x.data.toList ++ ·)) := Lib.hid (by rw [HU.out, dropR hlt])
      clear HU
      by_cases q92 : s[k].toNat = 92
      · have q92i : (((s[k].toNat : Nat) : Int) = 92) := by omega
        by_cases hend : k + 1 = s.size
        · have HF : Hid (unV s.data.toList = ([], 10)) := Lib.hid (by
            unfold unV
            rw [HU2.out, byte_of q92, show s.data.toList.drop (k + 1) = [] from List.drop_of_length_le (by rw [listR]; omega)]
            rfl)
          have z1 : ((k : Int) + 1 == (s.size : Int)) = true := by rw [beq_iff_eq]; omega
          clear HU2
          go_wp2
          go_ret2
          exact ⟨by rw [HF.out]; rfl, Below.refl _ _⟩
        · have hlt2 : k + 1 < s.size := by omega
          have h3 : (k : Int) + 1 < (s.size : Int) := by omega
          have h4 : (k : Int) + 1 + 1 ≤ (s.size : Int) := by omega
          have z1 : ((k : Int) + 1 == (s.size : Int)) = false := by rw [beq_eq_false_iff_ne]; omega
          have HU3 : Hid (unescL s.data.toList = (unescL (92 :: s[k + 1] :: s.data.toList.drop (k + 2))).map (x.data.toList ++ ·)) := Lib.hid (by rw [HU2.out, byte_of q92, dropR hlt2]; rfl)
          have no1 : ¬ 9223372036854775807 < x.size + (s.extract (k + 1) (k + 1 + 1)).size := by rw [sizeOneR hlt2]; omega
          have no2 : ¬ 9223372036854775807 < x.size + 1 := by omega
          clear HU2
          by_cases r92 : s[k + 1].toNat = 92
          · have HV : Hid (unescL s.data.toList = (unescL (s.data.toList.drop (k + 2))).map ((x ++ s.extract (k + 1) (k + 1 + 1)).data.toList ++ ·)) := Lib.hid (by
                rw [HU3.out, unesc_two (x := 92) (by rw [byte_of r92]; rfl), map_app, appR]
                rw [oneR hlt2, byte_of r92]; rfl)
            have r92i : (((s[k + 1].toNat : Nat) : Int) = 92) := by omega
            clear HU3 
            go_wp2
            go_round
            case rel => exact ⟨k + 2, x ++ s.extract (k + 1) (k + 1 + 1), by first | rfl | go_num, by go_num, by omega, by rw [sizeAppR, sizeOneR hlt2]; omega, by trivial, HV⟩
            case measure => simp [intOf]; omega
          · have r92i : ¬ (((s[k + 1].toNat : Nat) : Int) = 92) := by omega
            obtain ⟨r92a, r92b⟩ := intNe r92i
            by_cases r59 : s[k + 1].toNat = 59
            · have HV : Hid (unescL s.data.toList = (unescL (s.data.toList.drop (k + 2))).map ((x ++ s.extract (k + 1) (k + 1 + 1)).data.toList ++ ·)) := Lib.hid (by
                  rw [HU3.out, unesc_two (x := 59) (by rw [byte_of r59]; rfl), map_app, appR]
                  rw [oneR hlt2, byte_of r59]; rfl)
              have r59i : (((s[k + 1].toNat : Nat) : Int) = 59) := by omega
              clear HU3 r92
              go_wp2
              go_round
              case rel => exact ⟨k + 2, x ++ s.extract (k + 1) (k + 1 + 1), by first | rfl | go_num, by go_num, by omega, by rw [sizeAppR, sizeOneR hlt2]; omega, by trivial, HV⟩
              case measure => simp [intOf]; omega
            · have r59i : ¬ (((s[k + 1].toNat : Nat) : Int) = 59) := by omega
              obtain ⟨r59a, r59b⟩ := intNe r59i
              by_cases r44 : s[k + 1].toNat = 44
              · have HV : Hid (unescL s.data.toList = (unescL (s.data.toList.drop (k + 2))).map ((x ++ s.extract (k + 1) (k + 1 + 1)).data.toList ++ ·)) := Lib.hid (by
                    rw [HU3.out, unesc_two (x := 44) (by rw [byte_of r44]; rfl), map_app, appR]
                    rw [oneR hlt2, byte_of r44]; rfl)
                have r44i : (((s[k + 1].toNat : Nat) : Int) = 44) := by omega
                clear HU3 r92 r59
                go_wp2
                go_round
                case rel => exact ⟨k + 2, x ++ s.extract (k + 1) (k + 1 + 1), by first | rfl | go_num, by go_num, by omega, by rw [sizeAppR, sizeOneR hlt2]; omega, by trivial, HV⟩
                case measure => simp [intOf]; omega
              · have r44i : ¬ (((s[k + 1].toNat : Nat) : Int) = 44) := by omega
                obtain ⟨r44a, r44b⟩ := intNe r44i
                by_cases r110 : s[k + 1].toNat = 110
                · have HV : Hid (unescL s.data.toList = (unescL (s.data.toList.drop (k + 2))).map ((x ++ ⟨#[10]⟩).data.toList ++ ·)) := Lib.hid (by
                      rw [HU3.out, unesc_two (x := 10) (by rw [byte_of r110]; rfl), map_app, appR])
                  have r110i : (((s[k + 1].toNat : Nat) : Int) = 110) := by omega
                  clear HU3 r92 r59 r44
                  go_wp2
                  go_round
                  case rel => exact ⟨k + 2, x ++ ⟨#[10]⟩, by first | rfl | go_num, by go_num, by omega, by rw [sizeAppR]; show x.size + 1 ≤ _; omega, by trivial, HV⟩
                  case measure => simp [intOf]; omega
                · have r110i : ¬ (((s[k + 1].toNat : Nat) : Int) = 110) := by omega
                  obtain ⟨r110a, r110b⟩ := intNe r110i
                  by_cases r78 : s[k + 1].toNat = 78
                  · have HV : Hid (unescL s.data.toList = (unescL (s.data.toList.drop (k + 2))).map ((x ++ ⟨#[10]⟩).data.toList ++ ·)) := Lib.hid (by
                        rw [HU3.out, unesc_two (x := 10) (by rw [byte_of r78]; rfl), map_app, appR])
                    have r78i : (((s[k + 1].toNat : Nat) : Int) = 78) := by omega
                    clear HU3 r92 r59 r44 r110
                    go_wp2
                    go_round
                    case rel => exact ⟨k + 2, x ++ ⟨#[10]⟩, by first | rfl | go_num, by go_num, by omega, by rw [sizeAppR]; show x.size + 1 ≤ _; omega, by trivial, HV⟩
                    case measure => simp [intOf]; omega
                  · have r78i : ¬ (((s[k + 1].toNat : Nat) : Int) = 78) := by omega
                    obtain ⟨r78a, r78b⟩ := intNe r78i
                    have HF : Hid (unV s.data.toList = ([], 10)) := Lib.hid (by
                      unfold unV
                      rw [HU3.out, unesc_bad (unB_none r92 r59 r44 r110 r78)]
                      rfl)
                    clear HU3 r92 r59 r44 r110 r78
                    go_wp2
                    go_ret2
                    exact ⟨by rw [HF.out]; rfl, Below.refl _ _⟩
      · have HV : Hid (unescL s.data.toList = (unescL (s.data.toList.drop (k + 1))).map ((x ++ s.extract k (k + 1)).data.toList ++ ·)) := Lib.hid (by
          rw [HU2.out, unescL_on (fun h => q92 (by rw [h]; rfl)), map_app, appR, oneR hlt])
        have q92i : ¬ (((s[k].toNat : Nat) : Int) = 92) := by omega
        obtain ⟨qa, qb⟩ := intNe q92i
        have no1 : ¬ 9223372036854775807 < x.size + (s.extract k (k + 1)).size := by rw [sizeOneR hlt]; omega
        have no2 : ¬ 9223372036854775807 < x.size + 1 := by omega
        clear HU2 q92
        go_wp2
        go_round
        case rel => exact ⟨k + 1, x ++ s.extract k (k + 1), by first | rfl | go_num, by go_num, by omega, by rw [sizeAppR, sizeOneR hlt]; omega, by trivial, HV⟩
        case measure => simp [intOf]; omega
    · obtain rfl : k = s.size := by omega
      have HF : Hid (unV s.data.toList = (x.data.toList, 0)) := Lib.hid (by
        unfold unV
        rw [HU.out, show s.data.toList.drop s.size = [] from List.drop_of_length_le (by rw [listR]; omega)]
        simp [unescL])
      clear HU
      go_wp2
      go_ret2
      exact ⟨by rw [HF.out, list_mkR]; rfl, Below.refl _ _⟩
end Go.Proofs.YtdilnofolnabdaaDoor

/-
  The document's own answers of layer 13: a time.
-/
namespace Go.Proofs.YtdilnofolnabdaaDoor
open Go.RowKit

set_option maxRecDepth 100000 in
set_option maxHeartbeats 8000000 in
theorem refTime13_any (s : ByteArray) (w : World) :
    Calls Tryd.prog 12 #[.string s] w fun e w' => e = .returned (.tuple #[whV (timV s.data.toList).1, .int .i64 (timV s.data.toList).2]) ∧ Below w.heap.size w w' := by
  have ha : Below w.heap.size w (w.alloc (.cells #[.int .i64 0, .bool false, .bool false] 32)) := (Below.refl _ w).alloc (Nat.le_refl _) _
  have hz := H3.new w Wh.zero
  change H3 (w.alloc (.cells #[.int .i64 0, .bool false, .bool false] 32)) _ _ at hz
  have hsl := listR s
  rw [← timR_eq]
  by_cases h8 : s.size = 8
  · have cr := fun W => refReadDay_any s W
    have HR : timR s.data.toList = (if (rdDay s.data.toList).2 = 0 then (⟨(rdDay s.data.toList).1 * 86400, false, true⟩, 0) else (Wh.zero, 10)) := by unfold timR; rw [if_pos (by omega)]
    rcases rdDay_case s.data.toList with ⟨n, hn, e⟩ | e
    · have hb := hn.1
      rw [e] at cr
      have HT : Hid (timR s.data.toList = (⟨n * 86400, false, true⟩, 0)) := Lib.hid (by rw [HR, e]; rfl)
      have n1 : -9223372036854775808 ≤ n * 86400 ∧ n * 86400 < 9223372036854775808 := by omega
      clear hn e hb HR hsl
      go_enter Tryd.func12, Tryd.ntmps12
      go_upto_region 1 with fail
      generalize w.alloc (.cells #[.int .i64 0, .bool false, .bool false] 32) = w1 at ha hz ⊢
      obtain ⟨x0, x1, x2⟩ := hz.cells
      have xf := hz.frozen
      have HZ := Lib.hid hz
      have HB := Lib.hid ha
      clear hz ha
      go_wp2_with (first
        | (go_at_call 36; ((with_reducible refine (cr _).mono ?_); rintro e w' ⟨rfl, hw⟩; subst w'; clear cr)))
      refine bodyPost_ret (results_cell2 rfl _ rfl rfl (load_wh (w := ⟨n * 86400, false, true⟩) (heap_put3 HZ.out))) rfl ⟨?_, HB.out.trans (below_put3 (Nat.le_refl _) _ _ _)⟩
      rw [HT.out]; rfl
    · rw [e] at cr
      have HT : Hid (timR s.data.toList = (Wh.zero, 10)) := Lib.hid (by rw [HR, e]; rfl)
      clear e HR hsl
      go_enter Tryd.func12, Tryd.ntmps12
      go_upto_region 1 with fail
      generalize w.alloc (.cells #[.int .i64 0, .bool false, .bool false] 32) = w1 at ha hz ⊢
      obtain ⟨x0, x1, x2⟩ := hz.cells
      have xf := hz.frozen
      have HZ := Lib.hid hz
      have HB := Lib.hid ha
      clear hz ha
      go_wp2_with (first
        | (go_at_call 36; ((with_reducible refine (cr _).mono ?_); rintro e w' ⟨rfl, hw⟩; subst w'; clear cr)))
      refine bodyPost_ret (results_cell2 rfl _ rfl rfl (load_wh (w := Wh.zero) (heap_put3 HZ.out))) rfl ⟨?_, HB.out.trans (below_put3 (Nat.le_refl _) _ _ _)⟩
      rw [HT.out]; rfl
  · have n8 : ¬ ((s.size : Nat) : Int) = 8 := by omega
    obtain ⟨p8, q8⟩ := intNe n8
    by_cases hu : s.size = 16 ∧ s.data.toList[15]? = some 90
    · obtain ⟨h16, hu⟩ := hu
      have h15 : 15 < s.size := by omega
      have c15 : s[15].toNat = 90 := by
        rw [getR h15, Option.some.injEq] at hu
        rw [hu]; rfl
      have HR : timR s.data.toList = (if (rdStamp (s.data.toList.take 15)).2 = 0 then (⟨(rdStamp (s.data.toList.take 15)).1, true, false⟩, 0) else (Wh.zero, 10)) := by unfold timR; rw [if_neg (by omega), if_pos ⟨by omega, hu⟩]
      have cs := fun W => refReadStamp_any (s.extract 0 15) W
      rw [headR] at cs
      rcases rdStamp_case (s.data.toList.take 15) with ⟨t, ht, e⟩ | e
      · rw [e] at cs
        have HT : Hid (timR s.data.toList = (⟨t, true, false⟩, 0)) := Lib.hid (by rw [HR, e]; rfl)
        clear ht e HR hsl hu h8 n8 p8 q8
        go_enter Tryd.func12, Tryd.ntmps12
        go_upto_region 1 with fail
        generalize w.alloc (.cells #[.int .i64 0, .bool false, .bool false] 32) = w1 at ha hz ⊢
        obtain ⟨x0, x1, x2⟩ := hz.cells
        have xf := hz.frozen
        have HZ := Lib.hid hz
        have HB := Lib.hid ha
        clear hz ha
        go_wp2_with (first
          | (go_at_call 37; ((with_reducible refine (cs _).mono ?_); rintro e w' ⟨rfl, hw⟩; subst w'; clear cs)))
        refine bodyPost_ret (results_cell2 rfl _ rfl rfl (load_wh (w := ⟨t, true, false⟩) (heap_put3 HZ.out))) rfl ⟨?_, HB.out.trans (below_put3 (Nat.le_refl _) _ _ _)⟩
        rw [HT.out]; rfl
      · rw [e] at cs
        have HT : Hid (timR s.data.toList = (Wh.zero, 10)) := Lib.hid (by rw [HR, e]; rfl)
        clear e HR hsl hu h8 n8 p8 q8
        go_enter Tryd.func12, Tryd.ntmps12
        go_upto_region 1 with fail
        generalize w.alloc (.cells #[.int .i64 0, .bool false, .bool false] 32) = w1 at ha hz ⊢
        obtain ⟨x0, x1, x2⟩ := hz.cells
        have xf := hz.frozen
        have HZ := Lib.hid hz
        have HB := Lib.hid ha
        clear hz ha
        go_wp2_with (first
          | (go_at_call 37; ((with_reducible refine (cs _).mono ?_); rintro e w' ⟨rfl, hw⟩; subst w'; clear cs)))
        refine bodyPost_ret (results_cell2 rfl _ rfl rfl (load_wh (w := Wh.zero) (heap_put3 HZ.out))) rfl ⟨?_, HB.out.trans (below_put3 (Nat.le_refl _) _ _ _)⟩
        rw [HT.out]; rfl
    · have HR : timR s.data.toList = (if (rdStamp s.data.toList).2 = 0 then (⟨(rdStamp s.data.toList).1, false, false⟩, 0) else (Wh.zero, 10)) := by unfold timR; rw [if_neg (by omega), if_neg (fun k => hu ⟨by omega, k.2⟩)]
      have cs := fun W => refReadStamp_any s W
      by_cases h16 : s.size = 16
      · have h15 : 15 < s.size := by omega
        have c15 : ¬ s[15].toNat = 90 := fun h => hu ⟨h16, by rw [getR h15, byte_of h]; rfl⟩
        have c15i : ¬ (((s[15].toNat : Nat) : Int) = 90) := by omega
        obtain ⟨p15, q15⟩ := intNe c15i
        rcases rdStamp_case s.data.toList with ⟨t, ht, e⟩ | e
        · rw [e] at cs
          have HT : Hid (timR s.data.toList = (⟨t, false, false⟩, 0)) := Lib.hid (by rw [HR, e]; rfl)
          clear ht e HR hsl hu h8 n8 p8 q8
          go_enter Tryd.func12, Tryd.ntmps12
          go_upto_region 1 with fail
          generalize w.alloc (.cells #[.int .i64 0, .bool false, .bool false] 32) = w1 at ha hz ⊢
          obtain ⟨x0, x1, x2⟩ := hz.cells
          have xf := hz.frozen
          have HZ := Lib.hid hz
          have HB := Lib.hid ha
          clear hz ha
          go_wp2_with (first
            | (go_at_call 37; ((with_reducible refine (cs _).mono ?_); rintro e w' ⟨rfl, hw⟩; subst w'; clear cs)))
          refine bodyPost_ret (results_cell2 rfl _ rfl rfl (load_wh (w := ⟨t, false, false⟩) (heap_put3 HZ.out))) rfl ⟨?_, HB.out.trans (below_put3 (Nat.le_refl _) _ _ _)⟩
          rw [HT.out]; rfl
        · rw [e] at cs
          have HT : Hid (timR s.data.toList = (Wh.zero, 10)) := Lib.hid (by rw [HR, e]; rfl)
          clear e HR hsl hu h8 n8 p8 q8
          go_enter Tryd.func12, Tryd.ntmps12
          go_upto_region 1 with fail
          generalize w.alloc (.cells #[.int .i64 0, .bool false, .bool false] 32) = w1 at ha hz ⊢
          obtain ⟨x0, x1, x2⟩ := hz.cells
          have xf := hz.frozen
          have HZ := Lib.hid hz
          have HB := Lib.hid ha
          clear hz ha
          go_wp2_with (first
            | (go_at_call 37; ((with_reducible refine (cs _).mono ?_); rintro e w' ⟨rfl, hw⟩; subst w'; clear cs)))
          refine bodyPost_ret (results_cell2 rfl _ rfl rfl (load_wh (w := Wh.zero) (heap_put3 HZ.out))) rfl ⟨?_, HB.out.trans (below_put3 (Nat.le_refl _) _ _ _)⟩
          rw [HT.out]; rfl
      · have n16 : ¬ ((s.size : Nat) : Int) = 16 := by omega
        obtain ⟨p16, q16⟩ := intNe n16
        rcases rdStamp_case s.data.toList with ⟨t, ht, e⟩ | e
        · rw [e] at cs
          have HT : Hid (timR s.data.toList = (⟨t, false, false⟩, 0)) := Lib.hid (by rw [HR, e]; rfl)
          clear ht e HR hsl hu h8 h16
          go_enter Tryd.func12, Tryd.ntmps12
          go_upto_region 1 with fail
          generalize w.alloc (.cells #[.int .i64 0, .bool false, .bool false] 32) = w1 at ha hz ⊢
          obtain ⟨x0, x1, x2⟩ := hz.cells
          have xf := hz.frozen
          have HZ := Lib.hid hz
          have HB := Lib.hid ha
          clear hz ha
          go_wp2_with (first
            | (go_at_call 37; ((with_reducible refine (cs _).mono ?_); rintro e w' ⟨rfl, hw⟩; subst w'; clear cs)))
          refine bodyPost_ret (results_cell2 rfl _ rfl rfl (load_wh (w := ⟨t, false, false⟩) (heap_put3 HZ.out))) rfl ⟨?_, HB.out.trans (below_put3 (Nat.le_refl _) _ _ _)⟩
          rw [HT.out]; rfl
        · rw [e] at cs
          have HT : Hid (timR s.data.toList = (Wh.zero, 10)) := Lib.hid (by rw [HR, e]; rfl)
          clear e HR hsl hu h8 h16
          go_enter Tryd.func12, Tryd.ntmps12
          go_upto_region 1 with fail
          generalize w.alloc (.cells #[.int .i64 0, .bool false, .bool false] 32) = w1 at ha hz ⊢
          obtain ⟨x0, x1, x2⟩ := hz.cells
          have xf := hz.frozen
          have HZ := Lib.hid hz
          have HB := Lib.hid ha
          clear hz ha
          go_wp2_with (first
            | (go_at_call 37; ((with_reducible refine (cs _).mono ?_); rintro e w' ⟨rfl, hw⟩; subst w'; clear cs)))
          refine bodyPost_ret (results_cell2 rfl _ rfl rfl (load_wh (w := Wh.zero) (heap_put3 HZ.out))) rfl ⟨?_, HB.out.trans (below_put3 (Nat.le_refl _) _ _ _)⟩
          rw [HT.out]; rfl
end Go.Proofs.YtdilnofolnabdaaDoor
