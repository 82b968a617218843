/-
  Decimal numbers, as the program and as the document read them.
-/
import Derived.WalkSpells
import Derived.WalkLawsBesides
import Derived.Test.YtnidkcedomhofaaGreatDoorG03
import Derived.Test.YtnidkcedomhofaaGreatDoorG02
namespace Go.Proofs.YtnidkcedomhofaaGreatDoor
open Go.RowKit

theorem digN_in {n : Nat} (h : digN n = true) : 48 ≤ n ∧ n ≤ 57 := by simpa [digN] using h
/-- What is left at a place, the number so far being n. -/
theorem numL_step {l : List UInt8} {k n : Nat} (hk : k < l.length) (h : digN (l.getD k 0).toNat = true) : numL (l.drop k) n = numL (l.drop (k + 1)) (n * 10 + ((l.getD k 0).toNat - 48)) := by
  rw [List.drop_eq_getElem_cons hk, numL]
  rw [List.getD_eq_getElem?_getD, List.getElem?_eq_getElem hk] at *
  simp only [Option.getD_some] at *
  rw [if_pos h]
theorem numL_stop {l : List UInt8} {k n : Nat} (hk : k < l.length) (h : digN (l.getD k 0).toNat = false) : numL (l.drop k) n = none := by
  rw [List.drop_eq_getElem_cons hk, numL]
  rw [List.getD_eq_getElem?_getD, List.getElem?_eq_getElem hk] at h
  simp only [Option.getD_some] at h
  rw [h]; rfl
theorem getD_get {s : ByteArray} {k : Nat} (h : k < s.size) : s.data.toList.getD k 0 = s[k] := by
  have h' : k < s.data.size := h
  rw [List.getD_eq_getElem?_getD, Array.getElem?_toList, Array.getElem?_eq_getElem h']
  rfl
theorem pow10_le {k : Nat} (h : k ≤ 18) : 10 ^ k ≤ 1000000000000000000 := by
  have : (10 : Nat) ^ k ≤ 10 ^ 18 := Nat.pow_le_pow_right (by omega) h
  simpa using this

set_option maxRecDepth 100000 in
set_option maxHeartbeats 2000000 in
theorem number_any (s : ByteArray) (hs : s.size ≤ 16777216) (most : Int) (w : World) :
    Calls Tryz.prog 135 #[.string s, .int .i64 most] w fun e w' => e = .returned (.tuple #[.int .i64 (numV s.data.toList most).1, .bool (numV s.data.toList most).2]) ∧ w' = w := by
  have hsz := bsize s
  by_cases h0 : s.size < 1
  · have e : Hid (numV s.data.toList most = (0, false)) := Lib.hid (by
      unfold numV; rw [if_pos (.inl (List.eq_nil_of_length_eq_zero (by omega)))])
    clear hsz
    go_enter Tryz.func135, Tryz.ntmps135
    go_wp2
    go_ret2
    exact ⟨by rw [e.out]; rfl, rfl⟩
  · by_cases h18 : 18 < s.size
    · have e : Hid (numV s.data.toList most = (0, false)) := Lib.hid (by
        unfold numV; rw [if_pos (.inr (by omega))])
      clear hsz
      go_enter Tryz.func135, Tryz.ntmps135
      go_wp2
      go_ret2
      exact ⟨by rw [e.out]; rfl, rfl⟩
    · have eV : Hid (numV s.data.toList most = (match numL s.data.toList 0 with | some n => if most < n then (0, false) else ((n : Int), true) | none => (0, false))) := Lib.hid (by
        unfold numV
        rw [if_neg (by
          intro h
          rcases h with h | h
          · have := congrArg List.length h
            simp only [List.length_nil] at this
            omega
          · omega)]
        rfl)
      have HS := Lib.hid hsz; clear hsz
      go_enter Tryz.func135, Tryz.ntmps135
      go_wp2
      go_loopw [6, 18] (fun v p wr => ∃ k n : Nat, p = .int .i64 k ∧ v = .int .i64 n ∧ k ≤ s.size ∧ Hid (n < 10 ^ k) ∧ wr = w ∧ Hid (numL s.data.toList 0 = numL (s.data.toList.drop k) n)) (fun _ p _ => s.size - (intOf p).toNat)
      case atStart => exact ⟨0, 0, rfl, rfl, Nat.zero_le _, Lib.hid (by decide), rfl, Lib.hid rfl⟩
      case round =>
        obtain ⟨k, n, rfl, rfl, hk, HP, rfl, HN⟩ := hrel
        by_cases hlt : k < s.size
        · have hc := s[k].toNat_lt
          have hg := getD_get hlt
          cases hd : digN s[k].toNat
          · have e : Hid (numV s.data.toList most = (0, false)) := Lib.hid (by
              rw [eV.out, HN.out, numL_stop (by rw [← HS.out]; exact hlt) (by rw [hg]; exact hd)])
            clear hg
            go_wp2_with (go_at_call 160; refine (isDigit_any _ hc _).mono ?_; rintro e w' ⟨rfl, rfl⟩)
            go_ret2
            exact ⟨by rw [e.out]; rfl, by first | rfl | trivial⟩
          · have hdi := digN_in hd
            have hn1 : n * 10 + (s[k].toNat - 48) < 10 ^ (k + 1) := by
              have := HP.out
              rw [Nat.pow_succ]; omega
            have hn2 := pow10_le (k := k + 1) (by omega)
            have HN2 : Hid (numL s.data.toList 0 = numL (s.data.toList.drop (k + 1)) (n * 10 + (s[k].toNat - 48))) := Lib.hid (by
              rw [HN.out, numL_step (by rw [← HS.out]; exact hlt) (by rw [hg]; exact hd), hg])
            have hb : n * 10 + (s[k].toNat - 48) < 1000000000000000000 := by omega
            have HP2 := Lib.hid hn1
            clear hg hn1 hn2
            go_wp2_with (go_at_call 160; refine (isDigit_any _ hc _).mono ?_; rintro e w' ⟨rfl, rfl⟩)
            go_round
            case rel => exact ⟨k + 1, n * 10 + (s[k].toNat - 48), by go_num, by go_num, by omega, HP2, by first | rfl | trivial, HN2⟩
            case measure => simp [intOf]; omega
        · obtain rfl : k = s.size := by omega
          have hv : numL s.data.toList 0 = some n := by
            rw [HN.out, List.drop_eq_nil_of_le (by rw [← HS.out]; exact Nat.le_refl _), numL]
          have hb : n < 1000000000000000000 := by
            have := HP.out
            have := pow10_le (k := s.size) (by omega)
            omega
          by_cases hm : most < n
          · have e : Hid (numV s.data.toList most = (0, false)) := Lib.hid (by rw [eV.out, hv]; simp [hm])
            clear hv
            go_wp2
            go_ret2
            exact ⟨by rw [e.out]; rfl, by first | rfl | trivial⟩
          · have e : Hid (numV s.data.toList most = ((n : Int), true)) := Lib.hid (by rw [eV.out, hv]; simp [hm])
            clear hv
            go_wp2
            go_ret2
            exact ⟨by rw [e.out]; rfl, by first | rfl | trivial⟩

end Go.Proofs.YtnidkcedomhofaaGreatDoor

/-
  Decimal numbers, as the document reads them.
-/
namespace Go.Proofs.YtnidkcedomhofaaGreatDoor
open Go.RowKit

theorem not_empty {s : ByteArray} (h : ¬ s.size < 1) : (s.toList == []) = false := by
  rw [beq_eq_false_iff_ne, ByteArray.toList_eq]
  intro e
  have := congrArg List.length e
  rw [← bsize] at this
  simp at this
  simp [this] at h

set_option maxRecDepth 100000 in
set_option maxHeartbeats 2000000 in
theorem refNumber_any (s : ByteArray) (hs : s.size ≤ 16777216) (most : Int) (w : World) :
    Calls Tryz.prog 95 #[.string s, .int .i64 most] w fun e w' => e = .returned (.tuple #[.int .i64 (numV s.data.toList most).1, .bool (numV s.data.toList most).2]) ∧ w' = w := by
  have hsz := bsize s
  by_cases h0 : s.size < 1
  · have e : Hid (numV s.data.toList most = (0, false)) := Lib.hid (by
      unfold numV; rw [if_pos (.inl (List.eq_nil_of_length_eq_zero (by omega)))])
    obtain rfl : s = ⟨#[]⟩ := by
      have := of_mk (List.eq_nil_of_length_eq_zero (l := s.data.toList) (by omega))
      exact this
    clear hsz
    go_enter Tryz.func95, Tryz.ntmps95
    go_wp2
    go_ret2
    exact ⟨by rw [e.out]; rfl, rfl⟩
  · have hne := not_empty h0
    by_cases h18 : 18 < s.size
    · have e : Hid (numV s.data.toList most = (0, false)) := Lib.hid (by
        unfold numV; rw [if_pos (.inr (by omega))])
      clear hsz
      go_enter Tryz.func95, Tryz.ntmps95
      go_wp2
      go_ret2
      exact ⟨by rw [e.out]; rfl, rfl⟩
    · have eV : Hid (numV s.data.toList most = (match numL s.data.toList 0 with | some n => if most < n then (0, false) else ((n : Int), true) | none => (0, false))) := Lib.hid (by
        unfold numV
        rw [if_neg (by
          intro h
          rcases h with h | h
          · have := congrArg List.length h
            simp only [List.length_nil] at this
            omega
          · omega)]
        rfl)
      have HS := Lib.hid hsz; clear hsz
      go_enter Tryz.func95, Tryz.ntmps95
      go_wp2
      go_loopw [6, 7] (fun v p wr => ∃ k n : Nat, p = .int .i64 k ∧ v = .int .i64 n ∧ k ≤ s.size ∧ Hid (n < 10 ^ k) ∧ wr = w ∧ Hid (numL s.data.toList 0 = numL (s.data.toList.drop k) n)) (fun _ p _ => s.size - (intOf p).toNat)
      case atStart => exact ⟨0, 0, rfl, rfl, Nat.zero_le _, Lib.hid (by decide), rfl, Lib.hid rfl⟩
      case round =>
        obtain ⟨k, n, rfl, rfl, hk, HP, rfl, HN⟩ := hrel
        by_cases hlt : k < s.size
        · have hc := s[k].toNat_lt
          have hg := getD_get hlt
          cases hd : digN s[k].toNat
          · have e : Hid (numV s.data.toList most = (0, false)) := Lib.hid (by
              rw [eV.out, HN.out, numL_stop (by rw [← HS.out]; exact hlt) (by rw [hg]; exact hd)])
            clear hg
            go_wp2_with (go_at_call 121; refine (refDigit_any _ hc _).mono ?_; rintro e w' ⟨rfl, rfl⟩)
            go_ret2
            exact ⟨by rw [e.out]; rfl, by first | rfl | trivial⟩
          · have hdi := digN_in hd
            have hn1 : n * 10 + (s[k].toNat - 48) < 10 ^ (k + 1) := by
              have := HP.out
              rw [Nat.pow_succ]; omega
            have hn2 := pow10_le (k := k + 1) (by omega)
            have HN2 : Hid (numL s.data.toList 0 = numL (s.data.toList.drop (k + 1)) (n * 10 + (s[k].toNat - 48))) := Lib.hid (by
              rw [HN.out, numL_step (by rw [← HS.out]; exact hlt) (by rw [hg]; exact hd), hg])
            have hb : n * 10 + (s[k].toNat - 48) < 1000000000000000000 := by omega
            have HP2 := Lib.hid hn1
            clear hg hn1 hn2
            go_wp2_with (go_at_call 121; refine (refDigit_any _ hc _).mono ?_; rintro e w' ⟨rfl, rfl⟩)
            go_round
            case rel => exact ⟨k + 1, n * 10 + (s[k].toNat - 48), by go_num, by go_num, by omega, HP2, by first | rfl | trivial, HN2⟩
            case measure => simp [intOf]; omega
        · obtain rfl : k = s.size := by omega
          have hv : numL s.data.toList 0 = some n := by
            rw [HN.out, List.drop_eq_nil_of_le (by rw [← HS.out]; exact Nat.le_refl _), numL]
          have hb : n < 1000000000000000000 := by
            have := HP.out
            have := pow10_le (k := s.size) (by omega)
            omega
          by_cases hm : most < n
          · have e : Hid (numV s.data.toList most = (0, false)) := Lib.hid (by rw [eV.out, hv]; simp [hm])
            clear hv
            go_wp2
            go_ret2
            exact ⟨by rw [e.out]; rfl, by first | rfl | trivial⟩
          · have e : Hid (numV s.data.toList most = ((n : Int), true)) := Lib.hid (by rw [eV.out, hv]; simp [hm])
            clear hv
            go_wp2
            go_ret2
            exact ⟨by rw [e.out]; rfl, by first | rfl | trivial⟩

end Go.Proofs.YtnidkcedomhofaaGreatDoor

/-
  The document's own answers of layer 10: a day and a stamp as they are read.
-/
namespace Go.Proofs.YtnidkcedomhofaaGreatDoor
open Go.RowKit

theorem cut_list (s : ByteArray) (a b : Nat) : (s.extract a b).data.toList = (s.data.toList.drop a).take (b - a) := by
  rw [ByteArray.data_extract, Array.toList_extract, List.extract_eq_take_drop]
theorem num_some {l : List UInt8} {v : Nat} {most : Int} (hl : 1 ≤ l.length ∧ l.length ≤ 18) (h : numL l 0 = some v) (hm : (v : Int) ≤ most) : numV l most = ((v : Int), true) := by
  have hx : ¬ (l = [] ∨ 18 < l.length) := by
    intro hx
    cases hx with
    | inl e => simp [e] at hl
    | inr e => omega
  unfold numV
  rw [if_neg hx, h]
  show (if most < (v : Int) then ((0 : Int), false) else ((v : Int), true)) = _
  rw [if_neg (by omega)]
theorem num_none {l : List UInt8} {most : Int} (h : numL l 0 = none) : numV l most = (0, false) := by
  unfold numV
  split
  · rfl
  · rw [h]

set_option maxRecDepth 100000 in
set_option maxHeartbeats 2000000 in
theorem refClock_any (h m s : Int) (hb : (0 ≤ h ∧ h ≤ 9999) ∧ (0 ≤ m ∧ m ≤ 9999) ∧ (0 ≤ s ∧ s ≤ 9999)) (w : World) :
    Calls Tryz.prog 123 #[.int .i64 h, .int .i64 m, .int .i64 s] w fun e w' => e = .returned (.int .i64 (clkV h m s)) ∧ w' = w := by
  by_cases h1 : 23 < h
  · have e : Hid (clkV h m s = -1) := Lib.hid (by unfold clkV; rw [if_pos (by omega)])
    go_enter Tryz.func123, Tryz.ntmps123
    go_wp2
    go_ret
    exact ⟨by rw [e.out]; rfl, rfl⟩
  by_cases h2 : 59 < m
  · have e : Hid (clkV h m s = -1) := Lib.hid (by unfold clkV; rw [if_pos (by omega)])
    go_enter Tryz.func123, Tryz.ntmps123
    go_wp2
    go_ret
    exact ⟨by rw [e.out]; rfl, rfl⟩
  by_cases h3 : 59 < s
  · have e : Hid (clkV h m s = -1) := Lib.hid (by unfold clkV; rw [if_pos (by omega)])
    go_enter Tryz.func123, Tryz.ntmps123
    go_wp2
    go_ret
    exact ⟨by rw [e.out]; rfl, rfl⟩
  have e : Hid (clkV h m s = h * 3600 + m * 60 + s) := Lib.hid (by unfold clkV; rw [if_neg (by omega)])
  go_enter Tryz.func123, Tryz.ntmps123
  go_wp2
  go_ret
  exact ⟨by rw [e.out]; rfl, rfl⟩

set_option maxRecDepth 100000 in
set_option maxHeartbeats 2000000 in
theorem refReadDay_any (s : ByteArray) (w : World) :
    Calls Tryz.prog 96 #[.string s] w fun e w' => e = .returned (.tuple #[.int .i64 (rdDay s.data.toList).1, .int .i64 (rdDay s.data.toList).2]) ∧ w' = w := by
  have hsz := bsize s
  by_cases h8 : s.size = 8
  · have cn := fun W => refNumber_any s (by omega) 99999999 W
    cases hn : numL s.data.toList 0 with
    | none =>
      rw [num_none hn] at cn
      have e : Hid (rdDay s.data.toList = (0, 10)) := Lib.hid (rdDay_none hn)
      clear hn hsz
      go_enter Tryz.func96, Tryz.ntmps96
      go_wp2_with (go_at_call 95; ((with_reducible refine (cn _).mono ?_); rintro e w' ⟨rfl, hw⟩; subst w'))
      go_ret2
      exact ⟨by rw [e.out]; rfl, rfl⟩
    | some v =>
      have hb := (pad_numL 8 _ v (by omega) hn).2
      rw [num_some (by omega) hn (by omega)] at cn
      have e := rdDay_num (by omega) hn
      have cd := fun W => refDays_any (v / 10000 : Nat) (v / 100 % 100 : Nat) (v % 100 : Nat) W
      have m1 : Int.tdiv (v : Int) 10000 = ((v / 10000 : Nat) : Int) := by rw [tdiv_pos (by omega)]; omega
      have m2 : Int.tdiv (v : Int) 100 = ((v / 100 : Nat) : Int) := by rw [tdiv_pos (by omega)]; omega
      have m3 : Int.tmod ((v / 100 : Nat) : Int) 100 = ((v / 100 % 100 : Nat) : Int) := by rw [tmod_pos (by omega)]; omega
      have m4 : Int.tmod (v : Int) 100 = ((v % 100 : Nat) : Int) := by rw [tmod_pos (by omega)]; omega
      have k1 : v / 10000 < 100000000 := by omega
      have k2 : v / 100 < 100000000 := by omega
      have k3 : v / 100 % 100 < 100000000 := by omega
      have k4 : v % 100 < 100000000 := by omega
      clear hn hsz
      generalize v / 10000 = x1 at *
      generalize v / 100 % 100 = x3 at *
      generalize v / 100 = x2 at *
      generalize v % 100 = x4 at *
      generalize daysV (x1 : Int) (x3 : Int) (x4 : Int) = z at *
      obtain ⟨zn, zb⟩ := z
      dsimp only at e cd
      cases zb
      · rw [if_neg (by decide)] at e
        have E := Lib.hid e
        clear e
        go_enter Tryz.func96, Tryz.ntmps96
        go_wp2_with (first
          | (go_at_call 95; ((with_reducible refine (cn _).mono ?_); rintro e w' ⟨rfl, hw⟩; subst w'))
          | (go_at_call 122; ((with_reducible refine (cd _).mono ?_); rintro e w' ⟨rfl, hw⟩; subst w')))
        go_ret2
        exact ⟨by rw [E.out]; rfl, rfl⟩
      · rw [if_pos rfl] at e
        have E := Lib.hid e
        clear e
        go_enter Tryz.func96, Tryz.ntmps96
        go_wp2_with (first
          | (go_at_call 95; ((with_reducible refine (cn _).mono ?_); rintro e w' ⟨rfl, hw⟩; subst w'))
          | (go_at_call 122; ((with_reducible refine (cd _).mono ?_); rintro e w' ⟨rfl, hw⟩; subst w')))
        go_ret2
        exact ⟨by rw [E.out]; rfl, rfl⟩
  · have e : Hid (rdDay s.data.toList = (0, 10)) := Lib.hid (rdDay_len (by omega))
    have hne : ¬ (s.size : Int) = 8 := by omega
    clear hsz
    go_enter Tryz.func96, Tryz.ntmps96
    go_wp2
    go_ret2
    exact ⟨by rw [e.out]; rfl, rfl⟩

end Go.Proofs.YtnidkcedomhofaaGreatDoor
