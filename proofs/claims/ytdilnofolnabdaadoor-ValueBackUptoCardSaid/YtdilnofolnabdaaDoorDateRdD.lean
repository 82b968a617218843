/-
  The program's own functions of layer 10: a day as it is read.
-/
import Derived.Test.YtdilnofolnabdaaDoorDateRdP
namespace Go.Proofs.YtdilnofolnabdaaDoor
open Go.RowKit

theorem cutB (s : ByteArray) (a b : Nat) : (s.extract a b).data.toList = cutL s.data.toList a b := cut_list s a b
set_option maxRecDepth 100000 in
set_option maxHeartbeats 2000000 in
theorem pReadDay_any (s : ByteArray) (_hs : s.size < 9223372036854775808) (w : World) (hv : DV w) :
    Calls Tryd.prog 34 #[.string s] w fun e w' => e = .returned (.tuple #[.int .i64 (rdDay s.data.toList).1, .int .i64 (rdDay s.data.toList).2]) ∧ Below w.heap.size w w' := by
  have hsz := bsize s
  by_cases h8 : s.size = 8
  · have cn := fun W => number_any (s.extract 4 6) (by rw [ByteArray.size_extract]; omega) 12 W
    rw [cutB] at cn
    have rm := numV_rangeB (cutL s.data.toList 4 6) (most := 12) (by decide)
    have cd := fun W (hV : DV W) => readDate_any (s.extract 0 4) (s.extract 6 8) (numV (cutL s.data.toList 4 6) 12).1 (by rw [ByteArray.size_extract]; omega) (by rw [ByteArray.size_extract]; omega) rm W hV
    rw [cutB, cutB, show cutL s.data.toList 0 4 = s.data.toList.take 4 from rfl, show cutL s.data.toList 6 8 = s.data.toList.drop 6 by
      unfold cutL; exact List.take_of_length_le (by rw [List.length_drop]; omega)] at cd
    have e := rdDay_cut (l := s.data.toList) (by omega)
    generalize numV (cutL s.data.toList 4 6) 12 = m at *
    obtain ⟨m, mb⟩ := m
    dsimp only at cn cd rm e
    generalize dateW (s.data.toList.take 4) m (s.data.toList.drop 6) = z at *
    obtain ⟨n, b⟩ := z
    dsimp only at cd e
    have hmx : Tryd.prog.follows .mixedOrders = true := by kernel_rfl
    have hE : ∀ r : Int × Int, rdDay s.data.toList = r → Hid (rdDay s.data.toList = r) := fun _ h => Lib.hid h
    have E := Lib.hid e
    clear e hE hsz
    go_enter Tryd.func34, Tryd.ntmps34
    go_wp2_with (go_at_call 54; ((with_reducible refine (cn _).mono ?_); rintro e w' ⟨rfl, hw⟩; subst w'))
    refine region_belowD (w0 := w) (Below.refl _ _) hmx (by kernel_rfl) ?_
    repeat (first
      | go_big_quiet_skip
      | (go_big_quiet_want; go_big_quiet_op; first
          | go_big_quiet_on
          | (refine ⟨_, fun _ _ => rfl, ?_⟩; go_big_quiet_on)
          | (apply Exists.intro
             refine ⟨fun w5 hw5 => ?_, ?_⟩
             · ((with_reducible refine (cd _ (hv.step hw5)).mono ?_); rintro e w6 ⟨rfl, hbx⟩; exact ⟨rfl, bstep hw5 hbx⟩)
             go_big_quiet_on)))
    refine wpQuiet_nil ?_
    intro w7 hw7
    cases b
    · have e2 := E.out
      rw [if_neg (by decide)] at e2
      have E2 := Lib.hid e2
      clear e2
      go_wp2_with fail
      go_ret2
      exact ⟨by rw [E2.out]; rfl, hw7⟩
    · have e2 := E.out
      rw [if_pos rfl] at e2
      have E2 := Lib.hid e2
      clear e2
      go_wp2_with fail
      go_ret2
      exact ⟨by rw [E2.out]; rfl, hw7⟩
  · have e : Hid (rdDay s.data.toList = (0, 10)) := Lib.hid (rdDay_len (by omega))
    have hne : ¬ (s.size : Int) = 8 := by omega
    have hne2 : ((s.size : Int) == 8) = false := by simp; omega
    have hne3 : ((s.size : Int) != 8) = true := by simp; omega
    clear hsz
    go_enter Tryd.func34, Tryd.ntmps34
    go_wp2
    go_ret2
    exact ⟨by rw [e.out]; rfl, Below.refl _ _⟩

end Go.Proofs.YtdilnofolnabdaaDoor
