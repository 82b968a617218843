/-
  The document's own answers of layer 10: a stamp as it is read.
-/
import Derived.Test.YtdilnofolnabdaaDoorDateRefG
namespace Go.Proofs.YtdilnofolnabdaaDoor
open Go.RowKit

theorem get_at {s : ByteArray} {k : Nat} (h : k < s.size) : s.data.toList[k]? = some s[k] := by
  have h' : k < s.data.size := h
  rw [Array.getElem?_toList, Array.getElem?_eq_getElem h']
  rfl
theorem eq_letter {s : ByteArray} {k : Nat} {c : UInt8} (h : k < s.size) : s.data.toList[k]? = some c ↔ s[k].toNat = c.toNat := by
  rw [get_at h, Option.some.injEq, UInt8.toNat_inj]

set_option maxRecDepth 100000 in
set_option maxHeartbeats 2000000 in
theorem refReadStamp_any (s : ByteArray) (w : World) :
    Calls Tryd.prog 37 #[.string s] w fun e w' => e = .returned (.tuple #[.int .i64 (rdStamp s.data.toList).1, .int .i64 (rdStamp s.data.toList).2]) ∧ w' = w := by
  have hsz := bsize s
  by_cases h15 : s.size = 15
  · have h8 : 8 < s.size := by omega
    have el := eq_letter (s := s) (k := 8) (c := 84) h8
    by_cases ht : s[8].toNat = 84
    · have e8 := el.2 ht
      have cd := fun W => refReadDay_any (s.extract 0 8) W
      have cn := fun W => refNumber_any (s.extract 9 15) (by rw [ByteArray.size_extract]; omega) 999999 W
      rw [cut_list] at cd cn
      have c15 : (s.data.toList.drop 9).take (15 - 9) = s.data.toList.drop 9 := List.take_of_length_le (by rw [List.length_drop]; omega)
      rw [show (s.data.toList.drop 0).take (8 - 0) = s.data.toList.take 8 by rfl] at cd
      rw [c15] at cn
      clear el c15
      rcases rdDay_cases (s.data.toList.take 8) with ⟨n, hd, hr⟩ | ⟨hd, hr⟩
      · rw [hr] at cd
        have hb1 := hd.1
        cases hn : numL (s.data.toList.drop 9) 0 with
        | none =>
          rw [num_none hn] at cn
          have E : Hid (rdStamp s.data.toList = (0, 10)) := Lib.hid (rdStamp_num hn)
          have cc := fun W => refClock_any 0 0 0 (by omega) W
          clear hn hsz hd hr e8
          go_enter Tryd.func37, Tryd.ntmps37
          go_wp2_with (first
            | (go_at_call 36; ((with_reducible refine (cd _).mono ?_); rintro e w' ⟨rfl, hw⟩; subst w'))
            | (go_at_call 33; ((with_reducible refine (cn _).mono ?_); rintro e w' ⟨rfl, hw⟩; subst w'))
            | (go_at_call 62; ((with_reducible refine (cc _).mono ?_); rintro e w' ⟨rfl, hw⟩; subst w')))
          go_ret2
          exact ⟨by rw [E.out]; rfl, rfl⟩
        | some v =>
          have hb := (pad_numL 6 _ v (by rw [List.length_drop]; omega) hn).2
          rw [num_some (by rw [List.length_drop]; omega) hn (by omega)] at cn
          have cc := fun W => refClock_any (v / 10000 : Nat) (v / 100 % 100 : Nat) (v % 100 : Nat) (by omega) W
          have m1 : Int.tdiv (v : Int) 10000 = ((v / 10000 : Nat) : Int) := by rw [tdiv_pos (by omega)]; omega
          have m2 : Int.tdiv (v : Int) 100 = ((v / 100 : Nat) : Int) := by rw [tdiv_pos (by omega)]; omega
          have m3 : Int.tmod ((v / 100 : Nat) : Int) 100 = ((v / 100 % 100 : Nat) : Int) := by rw [tmod_pos (by omega)]; omega
          have m4 : Int.tmod (v : Int) 100 = ((v % 100 : Nat) : Int) := by rw [tmod_pos (by omega)]; omega
          have k1 : v / 10000 < 100000000 := by omega
          have k2 : v / 100 < 100000000 := by omega
          have k3 : v / 100 % 100 < 100000000 := by omega
          have k4 : v % 100 < 100000000 := by omega
          have kc : clkV (v / 10000 : Nat) (v / 100 % 100 : Nat) (v % 100 : Nat) < 86400 := by unfold clkV; split <;> omega
          by_cases hc : clkV (v / 10000 : Nat) (v / 100 % 100 : Nat) (v % 100 : Nat) < 0
          · have E : Hid (rdStamp s.data.toList = (0, 10)) := Lib.hid (rdStamp_clk (by omega) hn hc)
            generalize clkV (v / 10000 : Nat) (v / 100 % 100 : Nat) (v % 100 : Nat) = c at *
            clear hn hsz hd hr e8
            generalize v / 10000 = x1 at *
            generalize v / 100 % 100 = x3 at *
            generalize v / 100 = x2 at *
            generalize v % 100 = x4 at *
            go_enter Tryd.func37, Tryd.ntmps37
            go_wp2_with (first
              | (go_at_call 36; ((with_reducible refine (cd _).mono ?_); rintro e w' ⟨rfl, hw⟩; subst w'))
              | (go_at_call 33; ((with_reducible refine (cn _).mono ?_); rintro e w' ⟨rfl, hw⟩; subst w'))
              | (go_at_call 62; ((with_reducible refine (cc _).mono ?_); rintro e w' ⟨rfl, hw⟩; subst w')))
            go_ret2
            exact ⟨by rw [E.out]; rfl, rfl⟩
          · have E := Lib.hid (rdStamp_all (by omega) e8 hd hn hc)
            generalize clkV (v / 10000 : Nat) (v / 100 % 100 : Nat) (v % 100 : Nat) = c at *
            clear hn hsz hd hr e8
            generalize v / 10000 = x1 at *
            generalize v / 100 % 100 = x3 at *
            generalize v / 100 = x2 at *
            generalize v % 100 = x4 at *
            go_enter Tryd.func37, Tryd.ntmps37
            go_wp2_with (first
              | (go_at_call 36; ((with_reducible refine (cd _).mono ?_); rintro e w' ⟨rfl, hw⟩; subst w'))
              | (go_at_call 33; ((with_reducible refine (cn _).mono ?_); rintro e w' ⟨rfl, hw⟩; subst w'))
              | (go_at_call 62; ((with_reducible refine (cc _).mono ?_); rintro e w' ⟨rfl, hw⟩; subst w')))
            go_ret2
            exact ⟨by rw [E.out]; rfl, rfl⟩
      · rw [hr] at cd
        have E : Hid (rdStamp s.data.toList = (0, 10)) := Lib.hid (rdStamp_day hd)
        have cn2 : ∃ q : Int × Bool, (0 ≤ q.1 ∧ q.1 ≤ 999999) ∧ ∀ W, Calls Tryd.prog 33 #[.string (s.extract 9 15), .int .i64 999999] W fun e w' => e = .returned (.tuple #[.int .i64 q.1, .bool q.2]) ∧ w' = W := by
          refine ⟨_, ?_, cn⟩
          unfold numV
          split
          · exact ⟨by decide, by decide⟩
          · split
            · rename_i n _
              split
              · exact ⟨by decide, by decide⟩
              · exact ⟨by simp, by simp; omega⟩
            · exact ⟨by decide, by decide⟩
        clear cn
        obtain ⟨⟨q, qb⟩, hq, cn⟩ := cn2
        dsimp only at hq cn
        obtain ⟨v, rfl⟩ : ∃ v : Nat, q = v := ⟨q.toNat, by omega⟩
        have cc := fun W => refClock_any (v / 10000 : Nat) (v / 100 % 100 : Nat) (v % 100 : Nat) (by omega) W
        have m1 : Int.tdiv (v : Int) 10000 = ((v / 10000 : Nat) : Int) := by rw [tdiv_pos (by omega)]; omega
        have m2 : Int.tdiv (v : Int) 100 = ((v / 100 : Nat) : Int) := by rw [tdiv_pos (by omega)]; omega
        have m3 : Int.tmod ((v / 100 : Nat) : Int) 100 = ((v / 100 % 100 : Nat) : Int) := by rw [tmod_pos (by omega)]; omega
        have m4 : Int.tmod (v : Int) 100 = ((v % 100 : Nat) : Int) := by rw [tmod_pos (by omega)]; omega
        have k1 : v / 10000 < 100000000 := by omega
        have k2 : v / 100 < 100000000 := by omega
        have k3 : v / 100 % 100 < 100000000 := by omega
        have k4 : v % 100 < 100000000 := by omega
        generalize clkV (v / 10000 : Nat) (v / 100 % 100 : Nat) (v % 100 : Nat) = c at *
        clear hsz hd hr e8
        generalize v / 10000 = x1 at *
        generalize v / 100 % 100 = x3 at *
        generalize v / 100 = x2 at *
        generalize v % 100 = x4 at *
        go_enter Tryd.func37, Tryd.ntmps37
        go_wp2_with (first
          | (go_at_call 36; ((with_reducible refine (cd _).mono ?_); rintro e w' ⟨rfl, hw⟩; subst w'))
          | (go_at_call 33; ((with_reducible refine (cn _).mono ?_); rintro e w' ⟨rfl, hw⟩; subst w'))
          | (go_at_call 62; ((with_reducible refine (cc _).mono ?_); rintro e w' ⟨rfl, hw⟩; subst w')))
        go_ret2
        exact ⟨by rw [E.out]; rfl, rfl⟩
    · have E : Hid (rdStamp s.data.toList = (0, 10)) := Lib.hid (rdStamp_t (fun h => ht (el.1 h)))
      have hti : ¬ (s[8].toNat : Int) = 84 := by omega
      clear hsz el
      go_enter Tryd.func37, Tryd.ntmps37
      go_wp2
      go_ret2
      exact ⟨by rw [E.out]; rfl, rfl⟩
  · have E : Hid (rdStamp s.data.toList = (0, 10)) := Lib.hid (rdStamp_len (by omega))
    have hne : ¬ (s.size : Int) = 15 := by omega
    clear hsz
    go_enter Tryd.func37, Tryd.ntmps37
    go_wp2
    go_ret2
    exact ⟨by rw [E.out]; rfl, rfl⟩

end Go.Proofs.YtdilnofolnabdaaDoor
