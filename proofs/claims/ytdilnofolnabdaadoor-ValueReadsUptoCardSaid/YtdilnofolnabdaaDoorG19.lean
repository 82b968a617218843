/-
  The program's own functions of layer 10: a clock, a day, and a stamp.
-/
import Derived.Test.YtdilnofolnabdaaDoorG18
import Derived.Test.YtdilnofolnabdaaDoorG05
import Derived.BigQuiet
import Derived.Test.YtdilnofolnabdaaDoorG15
import Derived.Test.YtdilnofolnabdaaDoorG04
namespace Go.Proofs.YtdilnofolnabdaaDoor
open Go.RowKit

set_option maxRecDepth 100000 in
set_option maxHeartbeats 2000000 in
theorem clock_any (s : Nat) (hs2 : s < 86400) (sep : List UInt8) (hsep : sep.length ≤ 8) (w : World) (hv : DV w) :
    Calls Tryd.prog 71 #[.int .i64 s, .string ⟨sep.toArray⟩] w fun e w' => e = .returned (.string ⟨(clkT sep s).toArray⟩) ∧ Below w.heap.size w w' := by
  have c1 := dig2_any (s / 3600) (by omega)
  have c2 := dig2_any (s % 3600 / 60) (by omega)
  have c3 := dig2_any (s % 60) (by omega)
  have m1 : Int.tdiv (s : Int) 3600 = ((s / 3600 : Nat) : Int) := by rw [tdiv_pos (by omega)]; omega
  have m2 : Int.tmod (s : Int) 3600 = ((s % 3600 : Nat) : Int) := by rw [tmod_pos (by omega)]; omega
  have m3 : Int.tdiv ((s % 3600 : Nat) : Int) 60 = ((s % 3600 / 60 : Nat) : Int) := by rw [tdiv_pos (by omega)]; omega
  have m4 : Int.tmod (s : Int) 60 = ((s % 60 : Nat) : Int) := by rw [tmod_pos (by omega)]; omega
  have HE := Lib.hid (show (⟨(padT 2 (s / 3600)).toArray⟩ : ByteArray) ++ ⟨sep.toArray⟩ ++ ⟨(padT 2 (s % 3600 / 60)).toArray⟩ ++ ⟨sep.toArray⟩ ++ ⟨(padT 2 (s % 60)).toArray⟩ = ⟨(clkT sep s).toArray⟩ by
    simp only [mk_app]
    unfold clkT
    rw [show s % 3600 / 60 = s / 60 % 60 by omega])
  have s0 : (⟨sep.toArray⟩ : ByteArray).size = sep.length := mk_size _
  have s1 : (⟨(padT 2 (s / 3600)).toArray⟩ : ByteArray).size = 2 := by rw [mk_size, padT_length]
  have s2 : (⟨(padT 2 (s % 3600 / 60)).toArray⟩ : ByteArray).size = 2 := by rw [mk_size, padT_length]
  have s3 : (⟨(padT 2 (s % 60)).toArray⟩ : ByteArray).size = 2 := by rw [mk_size, padT_length]
  generalize (⟨(padT 2 (s / 3600)).toArray⟩ : ByteArray) = a at *
  generalize (⟨(padT 2 (s % 3600 / 60)).toArray⟩ : ByteArray) = b at *
  generalize (⟨(padT 2 (s % 60)).toArray⟩ : ByteArray) = c at *
  generalize (⟨sep.toArray⟩ : ByteArray) = p at *
  have no0 : ¬ 9223372036854775807 < a.size + p.size := by omega
  have no1 : ¬ 9223372036854775807 < (a ++ p).size + b.size := by rw [ByteArray.size_append]; omega
  have no2 : ¬ 9223372036854775807 < (a ++ p ++ b).size + p.size := by rw [ByteArray.size_append, ByteArray.size_append]; omega
  have no3 : ¬ 9223372036854775807 < (a ++ p ++ b ++ p).size + c.size := by rw [ByteArray.size_append, ByteArray.size_append, ByteArray.size_append]; omega
  have k1 : s / 3600 < 86400 := by omega
  have k2 : s % 3600 < 86400 := by omega
  have k3 : s % 3600 / 60 < 60 := by omega
  have k4 : s % 60 < 60 := by omega
  generalize s / 3600 = x1 at *
  generalize s % 3600 / 60 = x3 at *
  generalize s % 3600 = x2 at *
  generalize s % 60 = x4 at *
  clear hsep s0
  go_enter Tryd.func71, Tryd.ntmps71
  go_wp2_with (first
    | (go_at_call 73; ((with_reducible refine (c1 _ (by assumption)).mono ?_); rintro e w1 ⟨rfl, hb1⟩; have hv1 := DV.step hv hb1))
    | (go_at_call 73; ((with_reducible refine (c2 _ (by assumption)).mono ?_); rintro e w2 ⟨rfl, hb2⟩; have hv2 := DV.step hv1 hb2))
    | (go_at_call 73; ((with_reducible refine (c3 _ (by assumption)).mono ?_); rintro e w3 ⟨rfl, hb3⟩)))
  go_ret
  exact ⟨by rw [← HE.out]; rfl, bstep (bstep hb1 hb2) hb3⟩

set_option maxRecDepth 100000 in
set_option maxHeartbeats 2000000 in
theorem pDay_any (n : Int) (hn : -9223372036854775808 ≤ n ∧ n < 9223372036854775808) (w : World) (hv : DV w) :
    Calls Tryd.prog 49 #[.int .i64 n] w fun e w' => e = .returned (.string ⟨(dayT n).toArray⟩) ∧ Below w.heap.size w w' := by
  have hc := pCivil_any n hn w hv
  by_cases h : n < -719162 ∨ 2932896 < n
  · have e : Hid (dayT n = []) := Lib.hid (dayT_bad h)
    rw [civ_bad h] at hc
    clear hn h
    go_enter Tryd.func49, Tryd.ntmps49
    go_wp2_with (go_at_call 72; ((with_reducible refine hc.mono ?_); rintro e w1 ⟨rfl, hb1⟩))
    go_ret
    exact ⟨by rw [e.out]; rfl, hb1⟩
  · obtain ⟨y, m, d, hd, rfl⟩ := num_of (n := n) (by omega)
    obtain ⟨hy, hm⟩ := lenD_range hd
    have hp := lenD_pos hy hm
    have e : Hid (dayT (numD y m d) = padT 4 y.toNat ++ padT 2 m.toNat ++ padT 2 d.toNat) := Lib.hid (by unfold dayT; rw [civ_num hd]; rfl)
    rw [civ_num hd] at hc
    generalize numD y m d = n at *
    unfold dateD at hd
    obtain ⟨Y, rfl⟩ : ∃ k : Nat, y = k := ⟨y.toNat, by omega⟩
    obtain ⟨M, rfl⟩ : ∃ k : Nat, m = k := ⟨m.toNat, by omega⟩
    obtain ⟨D, rfl⟩ : ∃ k : Nat, d = k := ⟨d.toNat, by omega⟩
    have c1 := dig4_any Y (by omega)
    have c2 := dig2_any M (by omega)
    have c3 := dig2_any D (by omega)
    have HE := Lib.hid (show (⟨(padT 4 Y).toArray⟩ : ByteArray) ++ ⟨(padT 2 M).toArray⟩ ++ ⟨(padT 2 D).toArray⟩ = ⟨(dayT n).toArray⟩ by rw [mk_app, mk_app, e.out]; rfl)
    have s1 : (⟨(padT 4 Y).toArray⟩ : ByteArray).size = 4 := by rw [mk_size, padT_length]
    have s2 : (⟨(padT 2 M).toArray⟩ : ByteArray).size = 2 := by rw [mk_size, padT_length]
    have s3 : (⟨(padT 2 D).toArray⟩ : ByteArray).size = 2 := by rw [mk_size, padT_length]
    generalize (⟨(padT 4 Y).toArray⟩ : ByteArray) = a at *
    generalize (⟨(padT 2 M).toArray⟩ : ByteArray) = b at *
    generalize (⟨(padT 2 D).toArray⟩ : ByteArray) = c at *
    have no1 : ¬ 9223372036854775807 < a.size + b.size := by omega
    have no2 : ¬ 9223372036854775807 < (a ++ b).size + c.size := by rw [ByteArray.size_append]; omega
    go_enter Tryd.func49, Tryd.ntmps49
    go_wp2_with (first
      | (go_at_call 72; ((with_reducible refine hc.mono ?_); rintro e w0 ⟨rfl, hb0⟩; have hv0 := DV.step hv hb0))
      | (go_at_call 73; ((with_reducible refine (c1 _ (by assumption)).mono ?_); rintro e w1 ⟨rfl, hb1⟩; have hv1 := DV.step hv0 hb1))
      | (go_at_call 73; ((with_reducible refine (c2 _ (by assumption)).mono ?_); rintro e w2 ⟨rfl, hb2⟩; have hv2 := DV.step hv1 hb2))
      | (go_at_call 73; ((with_reducible refine (c3 _ (by assumption)).mono ?_); rintro e w3 ⟨rfl, hb3⟩)))
    go_ret
    exact ⟨by rw [← HE.out]; rfl, bstep (bstep (bstep hb0 hb1) hb2) hb3⟩

set_option maxRecDepth 100000 in
set_option maxHeartbeats 2000000 in
theorem pStamp_any (t : Int) (ht : -9223372036854775808 ≤ t ∧ t < 9223372036854775808) (w : World) (hv : DV w) :
    Calls Tryd.prog 47 #[.int .i64 t] w fun e w' => e = .returned (.string ⟨(stampT t).toArray⟩) ∧ Below w.heap.size w w' := by
  have ci := fun W => in_any t W
  have cp := fun W => parts_any t ht W
  cases hin : inD t
  · rw [hin] at ci
    have e : Hid (stampT t = []) := Lib.hid (by unfold stampT; rw [hin]; rfl)
    clear hin ht cp
    go_enter Tryd.func47, Tryd.ntmps47
    go_wp2_with (go_at_call 70; ((with_reducible refine (ci _).mono ?_); rintro e w' ⟨rfl, hw⟩; subst w'))
    go_ret
    exact ⟨by rw [e.out]; rfl, Below.refl _ _⟩
  · rw [hin] at ci
    have hd := inD_day hin
    obtain ⟨s, hs⟩ : ∃ s : Nat, t % 86400 = s := ⟨(t % 86400).toNat, by omega⟩
    have hs2 := clk_parts s hs
    have cd := fun W (h : DV W) => pDay_any (t / 86400) (by omega) W h
    have ck := clock_any s hs2 [] (by decide)
    have e : Hid (stampT t = dayT (t / 86400) ++ [84] ++ clkT [] s) := Lib.hid (by unfold stampT; rw [hin, hs]; rfl)
    have sd : (⟨(dayT (t / 86400)).toArray⟩ : ByteArray).size = 8 := by rw [mk_size, dayT_length hd]
    have HE := Lib.hid (show (⟨(dayT (t / 86400)).toArray⟩ : ByteArray) ++ ⟨#[84]⟩ ++ ⟨(clkT [] s).toArray⟩ = ⟨(stampT t).toArray⟩ by
      rw [show (⟨#[84]⟩ : ByteArray) = ⟨([84] : List UInt8).toArray⟩ from rfl, mk_app, mk_app, e.out])
    have sc : (⟨(clkT [] s).toArray⟩ : ByteArray).size = 6 := by rw [mk_size]; unfold clkT; simp [padT_length]
    rw [hs] at cp
    rw [show (⟨([] : List UInt8).toArray⟩ : ByteArray) = ⟨#[]⟩ from rfl] at ck
    clear hd hs hin e hs2
    generalize (⟨(dayT (t / 86400)).toArray⟩ : ByteArray) = d at *
    generalize (⟨(clkT [] s).toArray⟩ : ByteArray) = c at *
    generalize t / 86400 = q at *
    have no0 : ¬ 9223372036854775807 < d.size + (⟨#[84]⟩ : ByteArray).size := by rw [sd]; decide
    have no1 : ¬ 9223372036854775807 < (d ++ (⟨#[84]⟩ : ByteArray)).size + c.size := by rw [ByteArray.size_append, sd, sc]; decide
    go_enter Tryd.func47, Tryd.ntmps47
    go_wp2_with (first
      | (go_at_call 70; ((with_reducible refine (ci _).mono ?_); rintro e w' ⟨rfl, hw⟩; subst w'))
      | (go_at_call 48; ((with_reducible refine (cp _).mono ?_); rintro e w' ⟨rfl, hw⟩; subst w'))
      | (go_at_call 49; ((with_reducible refine (cd _ (by assumption)).mono ?_); rintro e w0 ⟨rfl, hb0⟩; have hv0 := DV.step hv hb0))
      | (go_at_call 71; ((with_reducible refine (ck _ (by assumption)).mono ?_); rintro e w1 ⟨rfl, hb1⟩)))
    go_ret
    exact ⟨by rw [← HE.out]; rfl, bstep hb0 hb1⟩

end Go.Proofs.YtdilnofolnabdaaDoor

/-
  The program's own functions of layer 10: a day and a stamp as they are read.
-/
namespace Go.Proofs.YtdilnofolnabdaaDoor
open Go.RowKit

theorem numV_rangeB (l : List UInt8) {most : Int} (hm : 0 ≤ most) : 0 ≤ (numV l most).1 ∧ (numV l most).1 ≤ most := numV_range l most hm
set_option maxRecDepth 100000 in
set_option maxHeartbeats 2000000 in
theorem readDate_any (yr dy : ByteArray) (m : Int) (hy : yr.size ≤ 64) (hd : dy.size ≤ 64) (hm : 0 ≤ m ∧ m ≤ 12) (w : World) (hv : DV w) :
    Calls Tryd.prog 59 #[.string yr, .int .i64 m, .string dy] w fun e w' => e = .returned (.tuple #[.int .i64 (dateW yr.data.toList m dy.data.toList).1, .bool (dateW yr.data.toList m dy.data.toList).2]) ∧ Below w.heap.size w w' := by
  have n1 := fun W => number_any yr (by omega) 9999 W
  have n2 := fun W => number_any dy (by omega) 31 W
  have r1 := numV_rangeB yr.data.toList (most := 9999) (by decide)
  have r2 := numV_rangeB dy.data.toList (most := 31) (by decide)
  unfold dateW
  generalize numV yr.data.toList 9999 = z1 at *
  generalize numV dy.data.toList 31 = z2 at *
  obtain ⟨y, yb⟩ := z1
  obtain ⟨d, db⟩ := z2
  dsimp only at n1 n2 r1 r2 ⊢
  have c1 := pDays_any y m d (by omega) (by omega) (by omega) w hv
  generalize daysV y m d = z at *
  obtain ⟨q, qb⟩ := z
  dsimp only at c1 ⊢
  go_enter Tryd.func59, Tryd.ntmps59
  go_wp2_with (first
    | (go_at_call 54; ((with_reducible refine (n1 _).mono ?_); rintro e w' ⟨rfl, hw⟩; subst w'))
    | (go_at_call 54; ((with_reducible refine (n2 _).mono ?_); rintro e w' ⟨rfl, hw⟩; subst w'))
    | (go_at_call 77; ((with_reducible refine c1.mono ?_); rintro e w1 ⟨rfl, hb1⟩)))
  go_ret2
  exact ⟨rfl, hb1⟩

set_option maxRecDepth 100000 in
set_option maxHeartbeats 2000000 in
theorem readClock_any (a b c : ByteArray) (ha : a.size ≤ 64) (hb : b.size ≤ 64) (hc : c.size ≤ 64) (w : World) :
    Calls Tryd.prog 57 #[.string a, .string b, .string c] w fun e w' => e = .returned (.tuple #[.int .i64 (clkP a.data.toList b.data.toList c.data.toList).1, .bool (clkP a.data.toList b.data.toList c.data.toList).2]) ∧ w' = w := by
  have n1 := fun W => number_any a (by omega) 23 W
  have n2 := fun W => number_any b (by omega) 59 W
  have n3 := fun W => number_any c (by omega) 59 W
  have r1 := numV_rangeB a.data.toList (most := 23) (by decide)
  have r2 := numV_rangeB b.data.toList (most := 59) (by decide)
  have r3 := numV_rangeB c.data.toList (most := 59) (by decide)
  unfold clkP
  generalize numV a.data.toList 23 = z1 at *
  generalize numV b.data.toList 59 = z2 at *
  generalize numV c.data.toList 59 = z3 at *
  obtain ⟨x, xb⟩ := z1
  obtain ⟨y, yb⟩ := z2
  obtain ⟨z, zb⟩ := z3
  dsimp only at n1 n2 n3 r1 r2 r3 ⊢
  cases xb <;> cases yb <;> cases zb <;>
  · go_enter Tryd.func57, Tryd.ntmps57
    go_wp2_with (first
      | (go_at_call 54; ((with_reducible refine (n1 _).mono ?_); rintro e w' ⟨rfl, hw⟩; subst w'))
      | (go_at_call 54; ((with_reducible refine (n2 _).mono ?_); rintro e w' ⟨rfl, hw⟩; subst w'))
      | (go_at_call 54; ((with_reducible refine (n3 _).mono ?_); rintro e w' ⟨rfl, hw⟩; subst w')))
    go_ret2
    exact ⟨rfl, rfl⟩

end Go.Proofs.YtdilnofolnabdaaDoor

/-
  The program's own functions of layer 10: a day as it is read.
-/
namespace Go.Proofs.YtdilnofolnabdaaDoor
open Go.RowKit

theorem cutB (s : ByteArray) (a b : Nat) : (s.extract a b).data.toList = cutL s.data.toList a b := cut_list s a b
set_option maxRecDepth 100000 in
set_option maxHeartbeats 2000000 in
theorem pReadDay_any (s : ByteArray) (_hs : s.size < 9223372036854775808) (w : World) (hv : DV w) :
    Calls Tryd.prog 34 #[.string s] w fun e w' => e = .returned (.tuple #[.int .i64 (rdDay s.data.toList).1, .int .i64 (rdDay s.data.toList).2]) ∧ Below w.heap.size w w' := by
  have hsz := bsize s
  by_cases h8 : s.size = 8
  · have cn := fun W => number_any (s.extract 4 6) (by rw [ByteArray.size_extract]; omega) 12 W
    rw [cutB] at cn
    have rm := numV_rangeB (cutL s.data.toList 4 6) (most := 12) (by decide)
    have cd := fun W (hV : DV W) => readDate_any (s.extract 0 4) (s.extract 6 8) (numV (cutL s.data.toList 4 6) 12).1 (by rw [ByteArray.size_extract]; omega) (by rw [ByteArray.size_extract]; omega) rm W hV
    rw [cutB, cutB, show cutL s.data.toList 0 4 = s.data.toList.take 4 from rfl, show cutL s.data.toList 6 8 = s.data.toList.drop 6 by
      unfold cutL; exact List.take_of_length_le (by rw [List.length_drop]; omega)] at cd
    have e := rdDay_cut (l := s.data.toList) (by omega)
    generalize numV (cutL s.data.toList 4 6) 12 = m at *
    obtain ⟨m, mb⟩ := m
    dsimp only at cn cd rm e
    generalize dateW (s.data.toList.take 4) m (s.data.toList.drop 6) = z at *
    obtain ⟨n, b⟩ := z
    dsimp only at cd e
    have hmx : Tryd.prog.follows .mixedOrders = true := by kernel_rfl
    have hE : ∀ r : Int × Int, rdDay s.data.toList = r → Hid (rdDay s.data.toList = r) := fun _ h => Lib.hid h
    have E := Lib.hid e
    clear e hE hsz
    go_enter Tryd.func34, Tryd.ntmps34
    go_wp2_with (go_at_call 54; ((with_reducible refine (cn _).mono ?_); rintro e w' ⟨rfl, hw⟩; subst w'))
    refine region_belowD (w0 := w) (Below.refl _ _) hmx (by kernel_rfl) ?_
    repeat (first
      | go_big_quiet_skip
      | (go_big_quiet_want; go_big_quiet_op; first
          | go_big_quiet_on
          | (refine ⟨_, fun _ _ => rfl, ?_⟩; go_big_quiet_on)
          | (apply Exists.intro
             refine ⟨fun w5 hw5 => ?_, ?_⟩
             · ((with_reducible refine (cd _ (hv.step hw5)).mono ?_); rintro e w6 ⟨rfl, hbx⟩; exact ⟨rfl, bstep hw5 hbx⟩)
             go_big_quiet_on)))
    refine wpQuiet_nil ?_
    intro w7 hw7
    cases b
    · have e2 := E.out
      rw [if_neg (by decide)] at e2
      have E2 := Lib.hid e2
      clear e2
      go_wp2_with fail
      go_ret2
      exact ⟨by rw [E2.out]; rfl, hw7⟩
    · have e2 := E.out
      rw [if_pos rfl] at e2
      have E2 := Lib.hid e2
      clear e2
      go_wp2_with fail
      go_ret2
      exact ⟨by rw [E2.out]; rfl, hw7⟩
  · have e : Hid (rdDay s.data.toList = (0, 10)) := Lib.hid (rdDay_len (by omega))
    have hne : ¬ (s.size : Int) = 8 := by omega
    have hne2 : ((s.size : Int) == 8) = false := by simp; omega
    have hne3 : ((s.size : Int) != 8) = true := by simp; omega
    clear hsz
    go_enter Tryd.func34, Tryd.ntmps34
    go_wp2
    go_ret2
    exact ⟨by rw [e.out]; rfl, Below.refl _ _⟩

end Go.Proofs.YtdilnofolnabdaaDoor
