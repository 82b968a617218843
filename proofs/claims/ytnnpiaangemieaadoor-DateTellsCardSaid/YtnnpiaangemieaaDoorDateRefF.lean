/-
  The document's own answers of layer 10: a time as HTTP writes it.
-/
import Derived.Test.YtnnpiaangemieaaDoorDateRefE
import Derived.BigQuiet
namespace Go.Proofs.YtnnpiaangemieaaDoor
open Go.RowKit

/-- A region that draws its order, whose operations read and whose calls leave what lay before: one walk, in the order of the text. -/
theorem region_belowD {P : Program} {id : Nat} {Q : Exit → Act → World → Prop} {a : Act} {w0 w : World} {l : List Oper} (hC : Below w0.heap.size w0 w) (hm : P.follows .mixedOrders = true) (hB : Region.lexB .any l.toArray = true)
    (h : wpQuiet P l.toArray (fun w' => Below w0.heap.size w0 w') (fun a' => ∀ w', Below w0.heap.size w0 w' → Q .normal a' w') l a) : (Code.region id l.toArray true).wp P Q a w :=
  wp_region_quiet (C := fun w' => Below w0.heap.size w0 w') hm hB hC.drew (by simpa using h)
def weekB : ByteArray := ⟨#[77, 111, 110, 84, 117, 101, 87, 101, 100, 84, 104, 117, 70, 114, 105, 83, 97, 116, 83, 117, 110]⟩
def monthB : ByteArray := ⟨#[74, 97, 110, 70, 101, 98, 77, 97, 114, 65, 112, 114, 77, 97, 121, 74, 117, 110, 74, 117, 108, 65, 117, 103, 83, 101, 112, 79, 99, 116, 78, 111, 118, 68, 101, 99]⟩

theorem week_cut {V : Nat} (h : V ≤ 6) : weekB.extract (3 * V) (3 * V + 3) = ⟨(wdT V).toArray⟩ := by
  have : V = 0 ∨ V = 1 ∨ V = 2 ∨ V = 3 ∨ V = 4 ∨ V = 5 ∨ V = 6 := by omega
  rcases this with rfl | rfl | rfl | rfl | rfl | rfl | rfl <;> decide +kernel
theorem month_cut {M : Nat} (h : 1 ≤ M ∧ M ≤ 12) : monthB.extract (3 * M - 3) (3 * M) = ⟨(monT M).toArray⟩ := by
  have : M = 1 ∨ M = 2 ∨ M = 3 ∨ M = 4 ∨ M = 5 ∨ M = 6 ∨ M = 7 ∨ M = 8 ∨ M = 9 ∨ M = 10 ∨ M = 11 ∨ M = 12 := by omega
  rcases this with rfl | rfl | rfl | rfl | rfl | rfl | rfl | rfl | rfl | rfl | rfl | rfl <;> decide +kernel

set_option maxRecDepth 100000 in
set_option maxHeartbeats 2000000 in
theorem refHttp_any (t : Int) (ht : -9223372036854775808 ≤ t ∧ t < 9223372036854775808) (w : World) :
    Calls Tryd.prog 31 #[.int .i64 t] w fun e w' => e = .returned (.string ⟨(httpT t).toArray⟩) ∧ Below w.heap.size w w' := by
  have ci := fun W => refIn_any t W
  have cp := fun W => refParts_any t ht W
  cases hin : inD t
  · rw [hin] at ci
    have e : Hid (httpT t = []) := Lib.hid (by unfold httpT; rw [hin]; rfl)
    clear hin ht cp
    go_enter Tryd.func31, Tryd.ntmps31
    go_wp2_with (go_at_call 18; ((with_reducible refine (ci _).mono ?_); rintro e w' ⟨rfl, hw⟩; subst w'))
    go_ret
    exact ⟨by rw [e.out]; rfl, Below.refl _ _⟩
  · rw [hin] at ci
    have hd := inD_day hin
    obtain ⟨s, hs⟩ : ∃ s : Nat, t % 86400 = s := ⟨(t % 86400).toNat, by omega⟩
    have hs2 := clk_parts s hs
    have cc := fun W => refCivil_any (t / 86400) (by omega) W
    have cw := fun W => refWeekday_any (t / 86400) W
    obtain ⟨y, m, d, hdt, hnum⟩ := num_of hd
    obtain ⟨hy, hm⟩ := lenD_range hdt
    have hp := lenD_pos hy hm
    have ec := civ_num hdt
    rw [← hnum] at ec
    unfold dateD at hdt
    obtain ⟨Y, rfl⟩ : ∃ k : Nat, y = k := ⟨y.toNat, by omega⟩
    obtain ⟨M, rfl⟩ : ∃ k : Nat, m = k := ⟨m.toNat, by omega⟩
    obtain ⟨D, rfl⟩ : ∃ k : Nat, d = k := ⟨d.toNat, by omega⟩
    obtain ⟨V, hV⟩ : ∃ k : Nat, wdD (t / 86400) = k := ⟨(wdD (t / 86400)).toNat, by have := wdD_range (t / 86400); omega⟩
    have hV6 : V ≤ 6 := by have := wdD_range (t / 86400); omega
    have e : Hid (httpT t = wdT V ++ [44, 32] ++ padT 2 D ++ [32] ++ monT M ++ [32] ++ padT 4 Y ++ [32] ++ clkT [58] s ++ [32, 71, 77, 84]) := Lib.hid (by unfold httpT; rw [hin, hs, ec, hV]; rfl)
    rw [hs] at cp
    rw [ec] at cc
    rw [hV] at cw
    clear hd hs hin ec hV hnum
    generalize t / 86400 = q at *
    have c1 := pad2_any (s / 3600) (by omega)
    have c2 := pad2_any (s / 60 % 60) (by omega)
    have c3 := pad2_any (s % 60) (by omega)
    have c4 := pad2_any D (by omega)
    have c5 := pad4_any Y (by omega)
    have m1 : Int.tdiv (s : Int) 3600 = ((s / 3600 : Nat) : Int) := by rw [tdiv_pos (by omega)]; omega
    have m2 : Int.tdiv (s : Int) 60 = ((s / 60 : Nat) : Int) := by rw [tdiv_pos (by omega)]; omega
    have m3 : Int.tmod ((s / 60 : Nat) : Int) 60 = ((s / 60 % 60 : Nat) : Int) := by rw [tmod_pos (by omega)]; omega
    have m4 : Int.tmod (s : Int) 60 = ((s % 60 : Nat) : Int) := by rw [tmod_pos (by omega)]; omega
    have HE := Lib.hid (show weekB.extract (3 * V) (3 * V + 3) ++ ⟨#[44, 32]⟩ ++ ⟨(padT 2 D).toArray⟩ ++ ⟨#[32]⟩ ++ monthB.extract (3 * M - 3) (3 * M) ++ ⟨#[32]⟩ ++ ⟨(padT 4 Y).toArray⟩ ++ ⟨#[32]⟩ ++ ⟨(padT 2 (s / 3600)).toArray⟩ ++ ⟨#[58]⟩ ++ ⟨(padT 2 (s / 60 % 60)).toArray⟩ ++ ⟨#[58]⟩ ++ ⟨(padT 2 (s % 60)).toArray⟩ ++ ⟨#[32, 71, 77, 84]⟩ = ⟨(httpT t).toArray⟩ by
      rw [week_cut hV6, month_cut (by omega), show (⟨#[44, 32]⟩ : ByteArray) = ⟨([44, 32] : List UInt8).toArray⟩ from rfl, show (⟨#[32]⟩ : ByteArray) = ⟨([32] : List UInt8).toArray⟩ from rfl, show (⟨#[58]⟩ : ByteArray) = ⟨([58] : List UInt8).toArray⟩ from rfl, show (⟨#[32, 71, 77, 84]⟩ : ByteArray) = ⟨([32, 71, 77, 84] : List UInt8).toArray⟩ from rfl]
      simp only [mk_app]
      rw [e.out]
      unfold clkT
      simp only [List.append_assoc])
    have hmx : Tryd.prog.follows .mixedOrders = true := by kernel_rfl
    have k1 : s / 3600 < 86400 := by omega
    have k2 : s / 60 < 86400 := by omega
    have k3 : s / 60 % 60 < 60 := by omega
    have k4 : s % 60 < 60 := by omega
    have s1 : (⟨(padT 2 (s / 3600)).toArray⟩ : ByteArray).size = 2 := by rw [mk_size, padT_length]
    have s2 : (⟨(padT 2 (s / 60 % 60)).toArray⟩ : ByteArray).size = 2 := by rw [mk_size, padT_length]
    have s3 : (⟨(padT 2 (s % 60)).toArray⟩ : ByteArray).size = 2 := by rw [mk_size, padT_length]
    have s4 : (⟨(padT 2 D).toArray⟩ : ByteArray).size = 2 := by rw [mk_size, padT_length]
    have s5 : (⟨(padT 4 Y).toArray⟩ : ByteArray).size = 4 := by rw [mk_size, padT_length]
    generalize (⟨(padT 2 (s / 3600)).toArray⟩ : ByteArray) = a at *
    generalize (⟨(padT 2 (s / 60 % 60)).toArray⟩ : ByteArray) = b at *
    generalize (⟨(padT 2 (s % 60)).toArray⟩ : ByteArray) = c at *
    generalize (⟨(padT 2 D).toArray⟩ : ByteArray) = dB at *
    generalize (⟨(padT 4 Y).toArray⟩ : ByteArray) = yB at *
    generalize s / 3600 = x1 at *
    generalize s / 60 % 60 = x3 at *
    generalize s / 60 = x2 at *
    generalize s % 60 = x4 at *
    go_enter Tryd.func31, Tryd.ntmps31
    go_wp2_with (first
      | (go_at_call 18; ((with_reducible refine (ci _).mono ?_); rintro e w' ⟨rfl, hw⟩; subst w'))
      | (go_at_call 12; ((with_reducible refine (cp _).mono ?_); rintro e w' ⟨rfl, hw⟩; subst w'))
      | (go_at_call 10; ((with_reducible refine (cc _).mono ?_); rintro e w' ⟨rfl, hw⟩; subst w'))
      | (go_at_call 16; ((with_reducible refine (cw _).mono ?_); rintro e w' ⟨rfl, hw⟩; subst w')))
    refine region_belowD (w0 := w) (Below.refl _ _) hmx (by kernel_rfl) ?_
    repeat (first
      | go_big_quiet_skip
      | (go_big_quiet_want; go_big_quiet_op; first
          | go_big_quiet_on
          | (refine ⟨_, fun _ _ => rfl, ?_⟩; go_big_quiet_on)
          | (apply Exists.intro
             refine ⟨fun w5 hw5 => ?_, ?_⟩
             · (first
                 | ((with_reducible refine (c1 _).mono ?_); rintro e w6 ⟨rfl, hbx⟩; exact ⟨rfl, bstep hw5 hbx⟩)
                 | ((with_reducible refine (c2 _).mono ?_); rintro e w6 ⟨rfl, hbx⟩; exact ⟨rfl, bstep hw5 hbx⟩)
                 | ((with_reducible refine (c3 _).mono ?_); rintro e w6 ⟨rfl, hbx⟩; exact ⟨rfl, bstep hw5 hbx⟩)
                 | ((with_reducible refine (c4 _).mono ?_); rintro e w6 ⟨rfl, hbx⟩; exact ⟨rfl, bstep hw5 hbx⟩)
                 | ((with_reducible refine (c5 _).mono ?_); rintro e w6 ⟨rfl, hbx⟩; exact ⟨rfl, bstep hw5 hbx⟩))
             go_big_quiet_on)))
    refine wpQuiet_nil ?_
    intro w7 hw7
    go_wp2_with fail
    go_ret
    exact ⟨by rw [← HE.out]; rfl, hw7⟩

end Go.Proofs.YtnnpiaangemieaaDoor
