/-
  The program's own functions of layer 10: a time as HTTP writes it.
-/
import Derived.BigQuiet
import Derived.Test.YtnnpiaangemieaaDoorDateWr
namespace Go.Proofs.YtnnpiaangemieaaDoor
open Go.RowKit

theorem wks_at {V : Nat} (h : V ≤ 6) : wksV[V]? = some (.string ⟨(wdT V).toArray⟩) := by
  have : V = 0 ∨ V = 1 ∨ V = 2 ∨ V = 3 ∨ V = 4 ∨ V = 5 ∨ V = 6 := by omega
  rcases this with rfl | rfl | rfl | rfl | rfl | rfl | rfl <;> rfl
theorem mons_at {M : Nat} (h : M ≤ 11) : monsV[M]? = some (.string ⟨(monT (M + 1)).toArray⟩) := by
  have : M = 0 ∨ M = 1 ∨ M = 2 ∨ M = 3 ∨ M = 4 ∨ M = 5 ∨ M = 6 ∨ M = 7 ∨ M = 8 ∨ M = 9 ∨ M = 10 ∨ M = 11 := by omega
  rcases this with rfl | rfl | rfl | rfl | rfl | rfl | rfl | rfl | rfl | rfl | rfl | rfl <;> rfl
theorem wdT_size {V : Nat} (h : V ≤ 6) : (wdT V).length = 3 := by
  have : V = 0 ∨ V = 1 ∨ V = 2 ∨ V = 3 ∨ V = 4 ∨ V = 5 ∨ V = 6 := by omega
  rcases this with rfl | rfl | rfl | rfl | rfl | rfl | rfl <;> rfl
theorem monT_size {M : Nat} (h : M ≤ 11) : (monT (M + 1)).length = 3 := by
  have : M = 0 ∨ M = 1 ∨ M = 2 ∨ M = 3 ∨ M = 4 ∨ M = 5 ∨ M = 6 ∨ M = 7 ∨ M = 8 ∨ M = 9 ∨ M = 10 ∨ M = 11 := by omega
  rcases this with rfl | rfl | rfl | rfl | rfl | rfl | rfl | rfl | rfl | rfl | rfl | rfl <;> rfl

set_option maxRecDepth 100000 in
set_option maxHeartbeats 2000000 in
theorem pHttp_any (t : Int) (ht : -9223372036854775808 ≤ t ∧ t < 9223372036854775808) (w : World) (hv : DV w) :
    Calls Tryd.prog 30 #[.int .i64 t] w fun e w' => e = .returned (.string ⟨(httpT t).toArray⟩) ∧ Below w.heap.size w w' := by
  have cp := fun W => parts_any t ht W
  have cc := pCivil_any (t / 86400) (by omega) w hv
  by_cases hd : -719162 ≤ t / 86400 ∧ t / 86400 ≤ 2932896
  · have hin : inD t = true := by rw [inD_iff]; omega
    obtain ⟨s, hs⟩ : ∃ s : Nat, t % 86400 = s := ⟨(t % 86400).toNat, by omega⟩
    have hs2 := clk_parts s hs
    have cw := fun W => weekday_any (t / 86400) W
    obtain ⟨y, m, d, hdt, hnum⟩ := num_of hd
    obtain ⟨hy, hm⟩ := lenD_range hdt
    have hp := lenD_pos hy hm
    have ec := civ_num hdt
    rw [← hnum] at ec
    unfold dateD at hdt
    obtain ⟨Y, rfl⟩ : ∃ k : Nat, y = k := ⟨y.toNat, by omega⟩
    obtain ⟨M, rfl⟩ : ∃ k : Nat, m = (k : Int) + 1 := ⟨(m - 1).toNat, by omega⟩
    obtain ⟨D, rfl⟩ : ∃ k : Nat, d = k := ⟨d.toNat, by omega⟩
    obtain ⟨V, hV⟩ : ∃ k : Nat, wdD (t / 86400) = k := ⟨(wdD (t / 86400)).toNat, by have := wdD_range (t / 86400); omega⟩
    have hV6 : V ≤ 6 := by have := wdD_range (t / 86400); omega
    have hM : M ≤ 11 := by omega
    have e : Hid (httpT t = wdT V ++ [44, 32] ++ padT 2 D ++ [32] ++ monT (M + 1) ++ [32] ++ padT 4 Y ++ [32] ++ clkT [58] s ++ [32, 71, 77, 84]) := Lib.hid (by unfold httpT; rw [hin, hs, ec, hV]; rfl)
    rw [hs] at cp
    rw [ec] at cc
    rw [hV] at cw
    have c4 := dig2_any D (by omega)
    have c5 := dig4_any Y (by omega)
    have c6 := clock_any s hs2 [58] (by decide)
    rw [show (⟨([58] : List UInt8).toArray⟩ : ByteArray) = ⟨#[58]⟩ from rfl] at c6
    clear hd hs hin ec hV hnum hs2
    generalize t / 86400 = q at *
    have HE := Lib.hid (show (⟨(wdT V).toArray⟩ : ByteArray) ++ ⟨#[44, 32]⟩ ++ ⟨(padT 2 D).toArray⟩ ++ ⟨#[32]⟩ ++ ⟨(monT (M + 1)).toArray⟩ ++ ⟨#[32]⟩ ++ ⟨(padT 4 Y).toArray⟩ ++ ⟨#[32]⟩ ++ ⟨(clkT [58] s).toArray⟩ ++ ⟨#[32, 71, 77, 84]⟩ = ⟨(httpT t).toArray⟩ by
      rw [show (⟨#[44, 32]⟩ : ByteArray) = ⟨([44, 32] : List UInt8).toArray⟩ from rfl, show (⟨#[32]⟩ : ByteArray) = ⟨([32] : List UInt8).toArray⟩ from rfl, show (⟨#[32, 71, 77, 84]⟩ : ByteArray) = ⟨([32, 71, 77, 84] : List UInt8).toArray⟩ from rfl]
      simp only [mk_app]
      rw [e.out])
    have hmx : Tryd.prog.follows .mixedOrders = true := by kernel_rfl
    have l1 : ∀ w5, Below w.heap.size w w5 → w5.cell? ⟨0, V, none⟩ = some (.string ⟨(wdT V).toArray⟩) := fun w5 h5 => (hv.step h5).wk V _ (wks_at hV6)
    have l2 : ∀ w5, Below w.heap.size w w5 → w5.cell? ⟨1, M, none⟩ = some (.string ⟨(monT (M + 1)).toArray⟩) := fun w5 h5 => (hv.step h5).mon M _ (mons_at hM)
    have s1 : (⟨(wdT V).toArray⟩ : ByteArray).size = 3 := by rw [mk_size, wdT_size hV6]
    have s2 : (⟨(monT (M + 1)).toArray⟩ : ByteArray).size = 3 := by rw [mk_size, monT_size hM]
    have s3 : (⟨(clkT [58] s).toArray⟩ : ByteArray).size = 8 := by rw [mk_size]; unfold clkT; simp [padT_length]
    have s4 : (⟨(padT 2 D).toArray⟩ : ByteArray).size = 2 := by rw [mk_size, padT_length]
    have s5 : (⟨(padT 4 Y).toArray⟩ : ByteArray).size = 4 := by rw [mk_size, padT_length]
    generalize (⟨(wdT V).toArray⟩ : ByteArray) = a at *
    generalize (⟨(monT (M + 1)).toArray⟩ : ByteArray) = b at *
    generalize (⟨(clkT [58] s).toArray⟩ : ByteArray) = c at *
    generalize (⟨(padT 2 D).toArray⟩ : ByteArray) = dB at *
    generalize (⟨(padT 4 Y).toArray⟩ : ByteArray) = yB at *
    clear hdt hp hm hy e
    go_enter Tryd.func30, Tryd.ntmps30
    go_wp2_with (first
      | (go_at_call 11; ((with_reducible refine (cp _).mono ?_); rintro e w' ⟨rfl, hw⟩; subst w'))
      | (go_at_call 9; ((with_reducible refine cc.mono ?_); rintro e w0 ⟨rfl, hb0⟩)))
    refine region_belowD (w0 := w) hb0 hmx (by kernel_rfl) ?_
    repeat (first
      | go_big_quiet_skip
      | (go_big_quiet_want; go_big_quiet_op; first
          | go_big_quiet_on
          | (refine ⟨_, fun _ _ => rfl, ?_⟩; go_big_quiet_on)
          | (apply Exists.intro
             refine ⟨fun w5 hw5 => ?_, ?_⟩
             · (first
                 | (rw [l1 w5 hw5]; exact ⟨rfl, rfl⟩)
                 | (rw [l2 w5 hw5]; exact ⟨rfl, rfl⟩)
                 | (go_at_call 15; (with_reducible refine (cw _).mono ?_); rintro e w6 ⟨rfl, hw⟩; subst w6; exact ⟨rfl, hw5⟩)
                 | ((with_reducible refine (c4 _ (hv.step hw5)).mono ?_); rintro e w6 ⟨rfl, hbx⟩; exact ⟨rfl, bstep hw5 hbx⟩)
                 | ((with_reducible refine (c5 _ (hv.step hw5)).mono ?_); rintro e w6 ⟨rfl, hbx⟩; exact ⟨rfl, bstep hw5 hbx⟩)
                 | ((with_reducible refine (c6 _ (hv.step hw5)).mono ?_); rintro e w6 ⟨rfl, hbx⟩; exact ⟨rfl, bstep hw5 hbx⟩))
             go_big_quiet_on)))
    refine wpQuiet_nil ?_
    intro w7 hw7
    go_wp2_with fail
    go_ret
    exact ⟨by rw [← HE.out]; rfl, hw7⟩
  · have e : Hid (httpT t = []) := Lib.hid (by
      unfold httpT
      rw [if_neg (by
        intro h
        have := inD_day h
        omega)])
    rw [civ_bad (by omega)] at cc
    clear hd
    generalize t / 86400 = q at *
    generalize t % 86400 = s at *
    go_enter Tryd.func30, Tryd.ntmps30
    go_wp2_with (first
      | (go_at_call 11; ((with_reducible refine (cp _).mono ?_); rintro e w' ⟨rfl, hw⟩; subst w'))
      | (go_at_call 9; ((with_reducible refine cc.mono ?_); rintro e w0 ⟨rfl, hb0⟩)))
    go_ret
    exact ⟨by rw [e.out]; rfl, hb0⟩

end Go.Proofs.YtnnpiaangemieaaDoor
