/-
  The document's own answers of layer 10: a day and a stamp as they are read.
-/
import Derived.Test.YtdilnofolnabdaaDoorDateRefB
import Derived.Test.YtdilnofolnabdaaDoorDateRead
import Derived.Test.YtdilnofolnabdaaDoorTextNumberR
namespace Go.Proofs.YtdilnofolnabdaaDoor
open Go.RowKit

theorem cut_list (s : ByteArray) (a b : Nat) : (s.extract a b).data.toList = (s.data.toList.drop a).take (b - a) := by
  rw [ByteArray.data_extract, Array.toList_extract, List.extract_eq_take_drop]
theorem num_some {l : List UInt8} {v : Nat} {most : Int} (hl : 1 ≤ l.length ∧ l.length ≤ 18) (h : numL l 0 = some v) (hm : (v : Int) ≤ most) : numV l most = ((v : Int), true) := by
  have hx : ¬ (l = [] ∨ 18 < l.length) := by
    intro hx
    cases hx with
    | inl e => simp [e] at hl
    | inr e => omega
  unfold numV
  rw [if_neg hx, h]
  show (if most < (v : Int) then ((0 : Int), false) else ((v : Int), true)) = _
  rw [if_neg (by omega)]
theorem num_none {l : List UInt8} {most : Int} (h : numL l 0 = none) : numV l most = (0, false) := by
  unfold numV
  split
  · rfl
  · rw [h]

set_option maxRecDepth 100000 in
set_option maxHeartbeats 2000000 in
theorem refClock_any (h m s : Int) (hb : (0 ≤ h ∧ h ≤ 9999) ∧ (0 ≤ m ∧ m ≤ 9999) ∧ (0 ≤ s ∧ s ≤ 9999)) (w : World) :
    Calls Tryd.prog 62 #[.int .i64 h, .int .i64 m, .int .i64 s] w fun e w' => e = .returned (.int .i64 (clkV h m s)) ∧ w' = w := by
  by_cases h1 : 23 < h
  · have e : Hid (clkV h m s = -1) := Lib.hid (by unfold clkV; rw [if_pos (by omega)])
    go_enter Tryd.func62, Tryd.ntmps62
    go_wp2
    go_ret
    exact ⟨by rw [e.out]; rfl, rfl⟩
  by_cases h2 : 59 < m
  · have e : Hid (clkV h m s = -1) := Lib.hid (by unfold clkV; rw [if_pos (by omega)])
    go_enter Tryd.func62, Tryd.ntmps62
    go_wp2
    go_ret
    exact ⟨by rw [e.out]; rfl, rfl⟩
  by_cases h3 : 59 < s
  · have e : Hid (clkV h m s = -1) := Lib.hid (by unfold clkV; rw [if_pos (by omega)])
    go_enter Tryd.func62, Tryd.ntmps62
    go_wp2
    go_ret
    exact ⟨by rw [e.out]; rfl, rfl⟩
  have e : Hid (clkV h m s = h * 3600 + m * 60 + s) := Lib.hid (by unfold clkV; rw [if_neg (by omega)])
  go_enter Tryd.func62, Tryd.ntmps62
  go_wp2
  go_ret
  exact ⟨by rw [e.out]; rfl, rfl⟩

set_option maxRecDepth 100000 in
set_option maxHeartbeats 2000000 in
theorem refReadDay_any (s : ByteArray) (w : World) :
    Calls Tryd.prog 36 #[.string s] w fun e w' => e = .returned (.tuple #[.int .i64 (rdDay s.data.toList).1, .int .i64 (rdDay s.data.toList).2]) ∧ w' = w := by
  have hsz := bsize s
  by_cases h8 : s.size = 8
  · have cn := fun W => refNumber_any s (by omega) 99999999 W
    cases hn : numL s.data.toList 0 with
    | none =>
      rw [num_none hn] at cn
      have e : Hid (rdDay s.data.toList = (0, 10)) := Lib.hid (rdDay_none hn)
      clear hn hsz
      go_enter Tryd.func36, Tryd.ntmps36
      go_wp2_with (go_at_call 33; ((with_reducible refine (cn _).mono ?_); rintro e w' ⟨rfl, hw⟩; subst w'))
      go_ret2
      exact ⟨by rw [e.out]; rfl, rfl⟩
    | some v =>
      have hb := (pad_numL 8 _ v (by omega) hn).2
      rw [num_some (by omega) hn (by omega)] at cn
      have e := rdDay_num (by omega) hn
      have cd := fun W => refDays_any (v / 10000 : Nat) (v / 100 % 100 : Nat) (v % 100 : Nat) W
      have m1 : Int.tdiv (v : Int) 10000 = ((v / 10000 : Nat) : Int) := by rw [tdiv_pos (by omega)]; omega
      have m2 : Int.tdiv (v : Int) 100 = ((v / 100 : Nat) : Int) := by rw [tdiv_pos (by omega)]; omega
      have m3 : Int.tmod ((v / 100 : Nat) : Int) 100 = ((v / 100 % 100 : Nat) : Int) := by rw [tmod_pos (by omega)]; omega
      have m4 : Int.tmod (v : Int) 100 = ((v % 100 : Nat) : Int) := by rw [tmod_pos (by omega)]; omega
      have k1 : v / 10000 < 100000000 := by omega
      have k2 : v / 100 < 100000000 := by omega
      have k3 : v / 100 % 100 < 100000000 := by omega
      have k4 : v % 100 < 100000000 := by omega
      clear hn hsz
      generalize v / 10000 = x1 at *
      generalize v / 100 % 100 = x3 at *
      generalize v / 100 = x2 at *
      generalize v % 100 = x4 at *
      generalize daysV (x1 : Int) (x3 : Int) (x4 : Int) = z at *
      obtain ⟨zn, zb⟩ := z
      dsimp only at e cd
      cases zb
      · rw [if_neg (by decide)] at e
        have E := Lib.hid e
        clear e
        go_enter Tryd.func36, Tryd.ntmps36
        go_wp2_with (first
          | (go_at_call 33; ((with_reducible refine (cn _).mono ?_); rintro e w' ⟨rfl, hw⟩; subst w'))
          | (go_at_call 61; ((with_reducible refine (cd _).mono ?_); rintro e w' ⟨rfl, hw⟩; subst w')))
        go_ret2
        exact ⟨by rw [E.out]; rfl, rfl⟩
      · rw [if_pos rfl] at e
        have E := Lib.hid e
        clear e
        go_enter Tryd.func36, Tryd.ntmps36
        go_wp2_with (first
          | (go_at_call 33; ((with_reducible refine (cn _).mono ?_); rintro e w' ⟨rfl, hw⟩; subst w'))
          | (go_at_call 61; ((with_reducible refine (cd _).mono ?_); rintro e w' ⟨rfl, hw⟩; subst w')))
        go_ret2
        exact ⟨by rw [E.out]; rfl, rfl⟩
  · have e : Hid (rdDay s.data.toList = (0, 10)) := Lib.hid (rdDay_len (by omega))
    have hne : ¬ (s.size : Int) = 8 := by omega
    clear hsz
    go_enter Tryd.func36, Tryd.ntmps36
    go_wp2
    go_ret2
    exact ⟨by rw [e.out]; rfl, rfl⟩

end Go.Proofs.YtdilnofolnabdaaDoor
