/-
  The program's own functions of layer 14: a number, a day, how often: as texts.
-/
import Derived.Test.YtnidkcedomhofaaGreatDoorG31
import Derived.Test.YtnidkcedomhofaaGreatDoorG21
import Derived.Test.YtnidkcedomhofaaGreatDoorG15
import Derived.Test.YtnidkcedomhofaaGreatDoorG25
import Derived.BigQuiet
import Derived.Deep.RegionHeld
namespace Go.Proofs.YtnidkcedomhofaaGreatDoor
open Go.RowKit

theorem itoa_num (n : Int) : Lib.itoa n = numT n := by
  unfold Lib.itoa numT
  by_cases h : n < 0
  · rw [if_pos h, if_pos h]; rfl
  · rw [if_neg h, if_neg h, List.nil_append]; congr 1; omega
theorem itoa_any (n : Int) (h : -1000000 ≤ n ∧ n ≤ 1000000) (w : World) (hv : DV w) : Calls Tryz.prog 36 #[.int .i64 n] w fun e w' => e = .returned (.string (mkB (numT n))) ∧ Below w.heap.size w w' := by
  have c := Tryz.strconv_Itoa n (by omega) (by omega) w hv.tab
  rw [itoa_num] at c
  refine c.mono ?_
  rintro e w' ⟨rfl, k, os, rfl⟩
  exact ⟨rfl, below_growD _ _ (Nat.le_refl _) _ _⟩
theorem day_at {w : World} (hv : VV w) {d : Int} (h : 0 ≤ d ∧ d ≤ 6) : w.cell? ⟨1, d.toNat, none⟩ = some (.string (mkB (dayT7 d))) := by
  rcases day_cases h with rfl | rfl | rfl | rfl | rfl | rfl | rfl
  all_goals exact hv.wds _ _ rfl
theorem freq_at {w : World} (hv : VV w) {d : Int} (h : 1 ≤ d ∧ d ≤ 4) : w.cell? ⟨0, d.toNat, none⟩ = some (.string (mkB (freqB.getD d.toNat []))) := by
  rcases freq_cases h with rfl | rfl | rfl | rfl
  all_goals exact hv.frq _ _ rfl
theorem dayText_any (d : Int) (h : 0 ≤ d ∧ d ≤ 6) (w : World) (hv : VV w) : Calls Tryz.prog 41 #[.int .i64 d] w fun e w' => e = .returned (.string (mkB (dayT7 d))) ∧ w' = w := by
  have c := day_at hv h
  obtain ⟨k, rfl⟩ : ∃ k : Nat, d = k := ⟨d.toNat, by omega⟩
  rw [Int.toNat_natCast] at c
  have h0 : (0 : Int) ≤ (k : Int) := by omega
  have h7 : (k : Int) < 7 := by omega
  have hk7 : k < 7 := by omega
  generalize mkB (dayT7 (k : Int)) = T at c
  go_enter Tryz.func41, Tryz.ntmps41
  go_wp2
  go_ret
  exact ⟨rfl, rfl⟩
theorem freqText_any (d : Int) (h : 1 ≤ d ∧ d ≤ 4) (w : World) (hv : VV w) : Calls Tryz.prog 35 #[.int .i64 d] w fun e w' => e = .returned (.string (mkB (freqB.getD d.toNat []))) ∧ w' = w := by
  have c := freq_at hv h
  obtain ⟨k, rfl⟩ : ∃ k : Nat, d = k := ⟨d.toNat, by omega⟩
  rw [Int.toNat_natCast] at c ⊢
  have h0 : (0 : Int) ≤ (k : Int) := by omega
  have h7 : (k : Int) < 5 := by omega
  have hk7 : k < 5 := by omega
  generalize mkB (freqB.getD k []) = T at c
  go_enter Tryz.func35, Tryz.ntmps35
  go_wp2
  go_ret
  exact ⟨rfl, rfl⟩
theorem mkB_size (p : List UInt8) : (mkB p).size = p.length := by rw [bsize, mkB_list]
theorem numT_len {n : Int} (h : -9999 ≤ n ∧ n ≤ 9999) : (numT n).length ≤ 5 := by
  unfold numT
  have := dec_len 3 n.natAbs (by omega)
  rw [List.length_append]
  split <;> simp <;> omega
theorem dayT7_len {d : Int} (h : 0 ≤ d ∧ d ≤ 6) : (dayT7 d).length = 2 := (dayT7_ok h).2.1
theorem mkB_app (a b : List UInt8) : mkB a ++ mkB b = mkB (a ++ b) := by
  apply ByteArray.ext
  simp [mkB]
theorem region_heldR {P : Program} {id : Nat} {Q : Exit → Act → World → Prop} {a : Act} {w : World} {l : List Oper} {C : World → Prop} (hm : P.follows .mixedOrders = true) (hB : Region.lexB .any l.toArray = true) (hC : C w.drew)
    (h : wpQuiet P l.toArray C (fun a' => ∀ w', C w' → Q .normal a' w') l a) : (Code.region id l.toArray true).wp P Q a w :=
  wp_region_quiet (C := C) hm hB hC (by simpa using h)
structure HoldD (w1 : World) (g : Nat) (a b : Int) (w' : World) : Prop where
  c0 : w'.cell? ⟨g, 0, none⟩ = some (.int .i64 a)
  c1 : w'.cell? ⟨g, 1, none⟩ = some (.int .i64 b)
  lt : g < w'.heap.size
  below : Below w1.heap.size w1 w'
theorem HoldD.step {w1 w2 w3 : World} {g : Nat} {a b : Int} (h : HoldD w1 g a b w2) (hb : Below w2.heap.size w2 w3) : HoldD w1 g a b w3 :=
  ⟨(hb.cell (p := ⟨g, 0, none⟩) h.lt).trans h.c0, (hb.cell (p := ⟨g, 1, none⟩) h.lt).trans h.c1, Nat.lt_of_lt_of_le h.lt hb.size, bstep h.below hb⟩
set_option maxRecDepth 100000 in
set_option maxHeartbeats 4000000 in
theorem wdayText_any (d : Int × Int) (h : 0 ≤ d.2 ∧ d.2 ≤ 6) (h2 : -53 ≤ d.1 ∧ d.1 ≤ 53) (w : World) (hv : VV w) : Calls Tryz.prog 40 #[.agg #[.int .i64 d.1, .int .i64 d.2]] w fun e w' => e = .returned (.string (mkB (wdyT d))) ∧ Below w.heap.size w w' := by
  have cn := fun w => hasNumber_any d w
  have cd := fun W (hV : VV W) => dayText_any d.2 h W hV
  have ci := fun W (hV : DV W) => itoa_any d.1 (by omega) W hV
  have HW : Hid (wdyT d = (if d.1 = 0 then [] else numT d.1) ++ dayT7 d.2) := Lib.hid rfl
  have hmo : Tryz.prog.follows .mixedOrders = true := by kernel_rfl
  obtain ⟨a, b⟩ := d
  simp only at cn cd ci h h2 HW ⊢
  have hb1 : Below w.heap.size w (w.alloc (.cells #[.int .i64 a, .int .i64 b] 57)) := (Below.refl _ _).alloc (Nat.le_refl _) _
  have x0 : (w.alloc (.cells #[.int .i64 a, .int .i64 b] 57)).cell? ⟨w.heap.size, 0, none⟩ = some (.int .i64 a) := by simp
  have x1 : (w.alloc (.cells #[.int .i64 a, .int .i64 b] 57)).cell? ⟨w.heap.size, 1, none⟩ = some (.int .i64 b) := by simp
  have hlt : w.heap.size < (w.alloc (.cells #[.int .i64 a, .int .i64 b] 57)).heap.size := by simp
  have HV := Lib.hid hv
  by_cases h0 : a = 0
  · have h0b : (a != 0) = false := by rw [h0]; rfl
    simp only [h0b] at cn
    have H2 : Hid (wdyT (a, b) = dayT7 b) := Lib.hid (by rw [HW.out, if_pos h0, List.nil_append])
    clear h0 HW
    go_enter Tryz.func40, Tryz.ntmps40
    go_wp2_with (first
      | (go_at_call 66; refine (cn _).mono ?_; rintro e w2 ⟨rfl, hb2⟩
         have y1 := (hb2.cell (p := ⟨w.heap.size, 1, none⟩) hlt).trans x1)
      | (go_at_call 41; refine (cd _ ((HV.out.step hb1).step hb2)).mono ?_; rintro e w' ⟨rfl, hw⟩; subst w'))
    go_ret
    exact ⟨by rw [H2.out]; rfl, bstep hb1 hb2⟩
  · have h0b : (a != 0) = true := by simpa using h0
    simp only [h0b] at cn
    have H2 : Hid (mkB (numT a) ++ mkB (dayT7 b) = mkB (wdyT (a, b))) := Lib.hid (by rw [HW.out, if_neg h0, mkB_app])
    clear h0 HW
    go_enter Tryz.func40, Tryz.ntmps40
    go_upto_region 2 with (go_at_call 66; refine (cn _).mono ?_; rintro e w2 ⟨rfl, hb2⟩
                           have y0 := (hb2.cell (p := ⟨w.heap.size, 0, none⟩) hlt).trans x0
                           have y1 := (hb2.cell (p := ⟨w.heap.size, 1, none⟩) hlt).trans x1
                           have HB2 := Lib.hid (bstep hb1 hb2)
                           have HL2 := Lib.hid (Nat.lt_of_lt_of_le hlt hb2.size)
                           have Y := Lib.hid (And.intro y0 y1)
                           clear hb2)
    clear y0 y1
    have hV2 : VV w2 := HV.out.step HB2.out
    have s1 : (mkB (numT a)).size ≤ 5 := by rw [mkB_size]; exact numT_len (by omega)
    have s2 : (mkB (dayT7 b)).size ≤ 2 := by rw [mkB_size, dayT7_len h]; exact Nat.le_refl _
    have s3 : ¬ 9223372036854775807 < (mkB (numT a)).size + (mkB (dayT7 b)).size := by omega
    refine region_heldR (C := HoldD w2 w.heap.size a b) hmo (by kernel_rfl) (HoldD.step ⟨Y.out.1, Y.out.2, HL2.out, Below.refl _ _⟩ (Below.refl _ _).drew) ?_
    repeat (first
      | go_big_quiet_skip
      | (go_big_quiet_want; go_big_quiet_op; first
          | go_big_quiet_on
          | (refine ⟨_, fun _ _ => rfl, ?_⟩; go_big_quiet_on)
          | (apply Exists.intro
             refine ⟨fun w5 hw5 => ?_, ?_⟩
             · (simp only [hw5.c0, hw5.c1, Result.andThen_ok]
                first | exact ⟨trivial, rfl⟩ | exact ⟨rfl, rfl⟩)
             go_big_quiet_on)
          | (apply Exists.intro
             refine ⟨fun w5 hw5 => ?_, ?_⟩
             · ((with_reducible refine (ci _ (hV2.step hw5.below).dv).mono ?_); rintro e w6 ⟨rfl, hbx⟩; exact ⟨rfl, hw5.step hbx⟩)
             go_big_quiet_on)
          | (apply Exists.intro
             refine ⟨fun w5 hw5 => ?_, ?_⟩
             · ((with_reducible refine (cd _ (hV2.step hw5.below)).mono ?_); rintro e w6 ⟨rfl, hw6⟩; subst w6; exact ⟨rfl, hw5⟩)
             go_big_quiet_on)))
    refine wpQuiet_nil ?_
    intro w3 hw3
    have HB3 := Lib.hid (bstep HB2.out hw3.below)
    clear hw3
    go_wp2
    go_ret
    exact ⟨by rw [← H2.out]; rfl, HB3.out⟩
end Go.Proofs.YtnidkcedomhofaaGreatDoor
