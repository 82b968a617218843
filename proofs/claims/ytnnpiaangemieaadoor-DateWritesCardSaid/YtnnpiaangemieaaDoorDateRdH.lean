/-
  The program's own functions of layer 10: a time as HTTP writes it, read.
-/
import Derived.Test.YtnnpiaangemieaaDoorDateRdS
namespace Go.Proofs.YtnnpiaangemieaaDoor
open Go.RowKit

abbrev monsA : Value := .agg #[.string ⟨#[74, 97, 110]⟩, .string ⟨#[70, 101, 98]⟩, .string ⟨#[77, 97, 114]⟩, .string ⟨#[65, 112, 114]⟩, .string ⟨#[77, 97, 121]⟩, .string ⟨#[74, 117, 110]⟩, .string ⟨#[74, 117, 108]⟩, .string ⟨#[65, 117, 103]⟩, .string ⟨#[83, 101, 112]⟩, .string ⟨#[79, 99, 116]⟩, .string ⟨#[78, 111, 118]⟩, .string ⟨#[68, 101, 99]⟩]
theorem index_mon {k : Nat} (hk : k ≤ 11) (w : World) : (Instr.index 56 monsA (.int .i64 (k : Int))).run Tryd.prog w = .ok (.string ⟨(monT (k + 1)).toArray⟩) w := by
  have : k = 0 ∨ k = 1 ∨ k = 2 ∨ k = 3 ∨ k = 4 ∨ k = 5 ∨ k = 6 ∨ k = 7 ∨ k = 8 ∨ k = 9 ∨ k = 10 ∨ k = 11 := by omega
  rcases this with rfl | rfl | rfl | rfl | rfl | rfl | rfl | rfl | rfl | rfl | rfl | rfl <;> rfl
theorem monUp_none {x : List UInt8} : ∀ k, (∀ j, j < k → x ≠ monT (j + 1)) → monUp x k = 0
  | 0, _ => rfl
  | k + 1, h => by
    unfold monUp
    rw [if_neg (h k (by omega))]
    exact monUp_none k fun j hj => h j (by omega)

set_option maxRecDepth 100000 in
set_option maxHeartbeats 2000000 in
theorem monthNamed_any (s : ByteArray) (w : World) (hv : DV w) :
    Calls Tryd.prog 42 #[.string s] w fun e w' => e = .returned (.int .i64 (monUp s.data.toList 12)) ∧ w' = w := by
  have v0 := hv.mon 0 _ rfl
  have v1 := hv.mon 1 _ rfl
  have v2 := hv.mon 2 _ rfl
  have v3 := hv.mon 3 _ rfl
  have v4 := hv.mon 4 _ rfl
  have v5 := hv.mon 5 _ rfl
  have v6 := hv.mon 6 _ rfl
  have v7 := hv.mon 7 _ rfl
  have v8 := hv.mon 8 _ rfl
  have v9 := hv.mon 9 _ rfl
  have v10 := hv.mon 10 _ rfl
  have v11 := hv.mon 11 _ rfl
  clear hv
  go_enter Tryd.func42, Tryd.ntmps42
  go_wp2
  clear v0 v1 v2 v3 v4 v5 v6 v7 v8 v9 v10 v11
  go_loopw [6] (fun p wr => ∃ k : Nat, k ≤ 12 ∧ p = .int .i64 k ∧ wr = w ∧ Hid (∀ j, j < k → s.data.toList ≠ monT (j + 1))) (fun p _ => 12 - (intOf p).toNat)
  case atStart => exact ⟨0, by omega, rfl, rfl, Lib.hid (fun j hj => by omega)⟩
  case round =>
    obtain ⟨k, hk, rfl, rfl, HN⟩ := hrel
    by_cases hlt : k < 12
    · have hd : (k : Int) < 12 := by omega
      have hix := index_mon (k := k) (by omega)
      have hq := str_eqD ⟨(monT (k + 1)).toArray⟩ s
      by_cases he : s.data.toList = monT (k + 1)
      · have E : Hid (monUp s.data.toList 12 = k + 1) := Lib.hid (by rw [he]; exact monUp_is (by omega))
        have hb : ((⟨(monT (k + 1)).toArray⟩ : ByteArray).toList == s.toList) = true := by rw [hq, he]; simp
        generalize (⟨(monT (k + 1)).toArray⟩ : ByteArray) = mB at *
        clear hq he
        go_wp2
        go_ret
        exact ⟨by rw [E.out]; rfl, by first | rfl | trivial⟩
      · have hb : ((⟨(monT (k + 1)).toArray⟩ : ByteArray).toList == s.toList) = false := by
          rw [hq]
          exact decide_eq_false fun h => he h.symm
        have HN2 : Hid (∀ j, j < k + 1 → s.data.toList ≠ monT (j + 1)) := Lib.hid (fun j hj => by
          rcases Nat.lt_or_ge j k with h | h
          · exact HN.out j h
          · obtain rfl : j = k := by omega
            exact he)
        generalize (⟨(monT (k + 1)).toArray⟩ : ByteArray) = mB at *
        clear hq he
        go_wp2
        go_round
        case rel => exact ⟨k + 1, by omega, by go_num, by first | rfl | trivial, HN2⟩
        case measure => simp [intOf]; omega
    · obtain rfl : k = 12 := by omega
      have E : Hid (monUp s.data.toList 12 = 0) := Lib.hid (monUp_none 12 HN.out)
      go_wp2
      go_ret
      exact ⟨by rw [E.out]; rfl, by first | rfl | trivial⟩

set_option maxRecDepth 100000 in
set_option maxHeartbeats 2000000 in
theorem pReadHttp_any (s : ByteArray) (hs : s.size < 9223372036854775808) (w : World) (hv : DV w) :
    Calls Tryd.prog 24 #[.string s] w fun e w' => e = .returned (.tuple #[.int .i64 (rdHttp s.data.toList).1, .int .i64 (rdHttp s.data.toList).2]) ∧ Below w.heap.size w w' := by
  have hsz := bsize s
  by_cases h29 : s.size = 29
  · have hne : s.data.toList ≠ [] := by
      intro h
      have := congrArg List.length h
      simp only [List.length_nil] at this
      omega
    have e := rdHttp_cut hne
    have cm := fun W (hV : DV W) => monthNamed_any (s.extract 8 11) W hV
    have hm12 := monUp_le (cutL s.data.toList 8 11) 12
    have cd := fun W (hV : DV W) => readDate_any (s.extract 12 16) (s.extract 5 7) (monUp (cutL s.data.toList 8 11) 12) (by rw [ByteArray.size_extract]; omega) (by rw [ByteArray.size_extract]; omega) (by omega) W hV
    have cc := fun W => readClock_any (s.extract 17 19) (s.extract 20 22) (s.extract 23 25) (by rw [ByteArray.size_extract]; omega) (by rw [ByteArray.size_extract]; omega) (by rw [ByteArray.size_extract]; omega) W
    rw [cutB, cutB] at cd
    rw [cutB, cutB, cutB] at cc
    rw [cutB] at cm
    have r1 := dateW_range (cutL s.data.toList 12 16) (cutL s.data.toList 5 7) (monUp (cutL s.data.toList 8 11) 12 : Nat)
    have r2 := clkP_range (cutL s.data.toList 17 19) (cutL s.data.toList 20 22) (cutL s.data.toList 23 25)
    have hW : httpW s.data.toList = (dateW (cutL s.data.toList 12 16) (monUp (cutL s.data.toList 8 11) 12 : Nat) (cutL s.data.toList 5 7)).1 * 86400 + (clkP (cutL s.data.toList 17 19) (cutL s.data.toList 20 22) (cutL s.data.toList 23 25)).1 := rfl
    generalize dateW (cutL s.data.toList 12 16) (monUp (cutL s.data.toList 8 11) 12 : Nat) (cutL s.data.toList 5 7) = x at *
    generalize clkP (cutL s.data.toList 17 19) (cutL s.data.toList 20 22) (cutL s.data.toList 23 25) = z at *
    generalize monUp (cutL s.data.toList 8 11) 12 = mm at *
    obtain ⟨n, nb⟩ := x
    obtain ⟨c, ok⟩ := z
    dsimp only at cd cc r1 r2 hW
    rw [hW] at e
    have ch := fun W (hV : DV W) => pHttp_any (n * 86400 + c) (by omega) W hV
    have hq := str_eqD ⟨(httpT (n * 86400 + c)).toArray⟩ s
    have hmx : Tryd.prog.follows .mixedOrders = true := by kernel_rfl
    have E := Lib.hid e
    by_cases he : httpT (n * 86400 + c) = s.data.toList
    · have hb : ((⟨(httpT (n * 86400 + c)).toArray⟩ : ByteArray).toList == s.toList) = true := by rw [hq, he]; simp
      have hb2 : ((⟨(httpT (n * 86400 + c)).toArray⟩ : ByteArray).toList != s.toList) = false := by rw [bne, hb]; rfl
      have e2 := E.out
      rw [if_pos he] at e2
      have E2 := Lib.hid e2
      clear e2 E e hq he hW hne hsz hm12
      generalize (⟨(httpT (n * 86400 + c)).toArray⟩ : ByteArray) = hB at *
      go_enter Tryd.func24, Tryd.ntmps24
      go_wp2_with fail
      refine region_belowD (w0 := w) (Below.refl _ _) hmx (by kernel_rfl) ?_
      repeat (first
        | go_big_quiet_skip
        | (go_big_quiet_want; go_big_quiet_op; first
            | go_big_quiet_on
            | (refine ⟨_, fun _ _ => rfl, ?_⟩; go_big_quiet_on)
            | (apply Exists.intro
               refine ⟨fun w5 hw5 => ?_, ?_⟩
               · (first
                   | ((with_reducible refine (cm _ (hv.step hw5)).mono ?_); rintro e w6 ⟨rfl, hw⟩; subst w6; exact ⟨rfl, hw5⟩)
                   | ((with_reducible refine (cd _ (hv.step hw5)).mono ?_); rintro e w6 ⟨rfl, hbx⟩; exact ⟨rfl, bstep hw5 hbx⟩))
               go_big_quiet_on)))
      refine wpQuiet_nil ?_
      intro w7 hw7
      go_wp2_with fail
      refine region_belowD (w0 := w) hw7 hmx (by kernel_rfl) ?_
      repeat (first
        | go_big_quiet_skip
        | (go_big_quiet_want; go_big_quiet_op; first
            | go_big_quiet_on
            | (refine ⟨_, fun _ _ => rfl, ?_⟩; go_big_quiet_on)
            | (apply Exists.intro
               refine ⟨fun w5 hw5 => ?_, ?_⟩
               · ((with_reducible refine (cc _).mono ?_); rintro e w6 ⟨rfl, hw⟩; subst w6; exact ⟨rfl, hw5⟩)
               go_big_quiet_on)))
      refine wpQuiet_nil ?_
      intro w8 hw8
      go_wp2_with (go_at_call 30; ((with_reducible refine (ch _ (hv.step hw8)).mono ?_); rintro e w9 ⟨rfl, hb9⟩))
      go_ret2
      exact ⟨by rw [E2.out]; rfl, bstep hw8 hb9⟩
    · have hb : ((⟨(httpT (n * 86400 + c)).toArray⟩ : ByteArray).toList == s.toList) = false := by rw [hq]; exact decide_eq_false he
      have hb2 : ((⟨(httpT (n * 86400 + c)).toArray⟩ : ByteArray).toList != s.toList) = true := by rw [bne, hb]; rfl
      have e2 := E.out
      rw [if_neg he] at e2
      have E2 := Lib.hid e2
      clear e2 E e hq he hW hne hsz hm12
      generalize (⟨(httpT (n * 86400 + c)).toArray⟩ : ByteArray) = hB at *
      go_enter Tryd.func24, Tryd.ntmps24
      go_wp2_with fail
      refine region_belowD (w0 := w) (Below.refl _ _) hmx (by kernel_rfl) ?_
      repeat (first
        | go_big_quiet_skip
        | (go_big_quiet_want; go_big_quiet_op; first
            | go_big_quiet_on
            | (refine ⟨_, fun _ _ => rfl, ?_⟩; go_big_quiet_on)
            | (apply Exists.intro
               refine ⟨fun w5 hw5 => ?_, ?_⟩
               · (first
                   | ((with_reducible refine (cm _ (hv.step hw5)).mono ?_); rintro e w6 ⟨rfl, hw⟩; subst w6; exact ⟨rfl, hw5⟩)
                   | ((with_reducible refine (cd _ (hv.step hw5)).mono ?_); rintro e w6 ⟨rfl, hbx⟩; exact ⟨rfl, bstep hw5 hbx⟩))
               go_big_quiet_on)))
      refine wpQuiet_nil ?_
      intro w7 hw7
      go_wp2_with fail
      refine region_belowD (w0 := w) hw7 hmx (by kernel_rfl) ?_
      repeat (first
        | go_big_quiet_skip
        | (go_big_quiet_want; go_big_quiet_op; first
            | go_big_quiet_on
            | (refine ⟨_, fun _ _ => rfl, ?_⟩; go_big_quiet_on)
            | (apply Exists.intro
               refine ⟨fun w5 hw5 => ?_, ?_⟩
               · ((with_reducible refine (cc _).mono ?_); rintro e w6 ⟨rfl, hw⟩; subst w6; exact ⟨rfl, hw5⟩)
               go_big_quiet_on)))
      refine wpQuiet_nil ?_
      intro w8 hw8
      go_wp2_with (go_at_call 30; ((with_reducible refine (ch _ (hv.step hw8)).mono ?_); rintro e w9 ⟨rfl, hb9⟩))
      go_ret2
      exact ⟨by rw [E2.out]; rfl, bstep hw8 hb9⟩
  · have E : Hid (rdHttp s.data.toList = (0, 10)) := Lib.hid (rdHttp_len (by omega))
    have hne : ¬ (s.size : Int) = 29 := by omega
    have hne2 : ((s.size : Int) == 29) = false := by simp; omega
    clear hsz
    go_enter Tryd.func24, Tryd.ntmps24
    go_wp2
    go_ret2
    exact ⟨by rw [E.out]; rfl, Below.refl _ _⟩

end Go.Proofs.YtnnpiaangemieaaDoor
