/-
  The document's own answers of layer 13: an offset.
-/
import Derived.Test.YtdilnofolnabdaaDoorG31
namespace Go.Proofs.YtdilnofolnabdaaDoor
open Go.RowKit

/-- An offset out of its sign and its three numbers. -/
def offW (sg : Int) (H M X : Int × Bool) : Int × Int := if (H.2 && M.2 && X.2) = true ∧ ¬ (sg < 0 ∧ H.1 * 3600 + M.1 * 60 + X.1 = 0) then (sg * (H.1 * 3600 + M.1 * 60 + X.1), 0) else (0, 10)
theorem offB_four (sg : Int) {r : List UInt8} (h : r.length = 4) : offB sg r = offW sg (numV (r.take 2) 23) (numV (cutL r 2 4) 59) (0, true) := by
  unfold offB
  rw [if_pos h]
  unfold off6 clkP
  rw [List.take_append_of_le_length (by omega)]
  have e1 : cutL (r ++ [48, 48]) 2 4 = cutL r 2 4 := by
    unfold cutL
    rw [List.drop_append_of_le_length (by omega), List.take_append_of_le_length (by rw [List.length_drop]; omega)]
  have e2 : (r ++ [48, 48]).drop 4 = [48, 48] := by
    rw [List.drop_append_of_le_length (by omega), List.drop_of_length_le (by omega), List.nil_append]
  have e3 : numV [48, 48] 59 = (0, true) := by decide
  rw [e1, e2, e3]
  rfl
theorem offB_six (sg : Int) {r : List UInt8} (h : r.length = 6) : offB sg r = offW sg (numV (r.take 2) 23) (numV (cutL r 2 4) 59) (numV (r.drop 4) 59) := by
  unfold offB
  rw [if_neg (by omega), if_pos h]
  rfl
theorem offV_len {l : List UInt8} (h5 : l.length ≠ 5) (h7 : l.length ≠ 7) : offV l = (0, 10) := by
  have k : ∀ sg (r : List UInt8), r.length ≠ 4 → r.length ≠ 6 → offB sg r = (0, 10) := fun sg r a b => by unfold offB; rw [if_neg a, if_neg b]
  unfold offV
  split
  · rename_i r; simp at h5 h7; exact k _ r (by omega) (by omega)
  · rename_i r; simp at h5 h7; exact k _ r (by omega) (by omega)
  · rfl
theorem offV_sign {c : UInt8} {r : List UInt8} (h1 : c ≠ 43) (h2 : c ≠ 45) : offV (c :: r) = (0, 10) := by
  unfold offV
  split
  · rename_i e; injection e with e; exact absurd e h1
  · rename_i e; injection e with e; exact absurd e h2
  · rfl
theorem offW_no {sg : Int} {H M X : Int × Bool} (h : (H.2 && M.2 && X.2) = false) : offW sg H M X = (0, 10) := by
  unfold offW
  rw [h, if_neg (fun k => by cases k.1)]
theorem numNot {l : List UInt8} {most : Int} {x : Int} {b : Bool} (h : numV l most = (x, b)) (hm : 0 ≤ most) : 0 ≤ x ∧ x ≤ most := by
  have := numV_range l most hm
  rw [h] at this
  exact this
set_option maxRecDepth 100000 in
set_option maxHeartbeats 8000000 in
theorem refOff13_any (s : ByteArray) (hs : s.size ≤ 1048576) (w : World) :
    Calls Tryd.prog 8 #[.string s] w fun e w' => e = .returned (.tuple #[.int .i64 (offV s.data.toList).1, .int .i64 (offV s.data.toList).2]) ∧ Below w.heap.size w w' := by
  have hsl := listR s
  by_cases hno : s.size ≠ 5 ∧ s.size ≠ 7
  · have E := Lib.hid (offV_len (l := s.data.toList) (by omega) (by omega))
    have n5 : ¬ ((s.size : Nat) : Int) = 5 := by omega
    have n7 : ¬ ((s.size : Nat) : Int) = 7 := by omega
    have m5 : (((s.size : Nat) : Int) == 5) = false := by rw [beq_eq_false_iff_ne]; exact n5
    have m7 : (((s.size : Nat) : Int) == 7) = false := by rw [beq_eq_false_iff_ne]; exact n7
    have p5 : (((s.size : Nat) : Int) != 5) = true := by simpa using n5
    have p7 : (((s.size : Nat) : Int) != 7) = true := by simpa using n7
    clear hsl hno
    go_enter Tryd.func8, Tryd.ntmps8
    go_wp2
    go_ret2
    exact ⟨by rw [E.out]; rfl, Below.refl _ _⟩
  · rcases hl : s.data.toList with _ | ⟨c, r⟩
    · rw [hl] at hsl; simp at hsl; omega
    · have HA := Hd.of hl
      have hs0 := HA.pos
      have hc0 := HA.at0 hs0
      have hrl : r.length + 1 = s.size := by rw [← hsl, hl, List.length_cons]
      have c13 : (s.extract 1 3).data.toList = r.take 2 := by rw [cutR, hl]; rfl
      have c35 : (s.extract 3 5).data.toList = cutL r 2 4 := by rw [cutR, hl]; rfl
      have k1 := fun W => refNumber_any (s.extract 1 3) (by rw [ByteArray.size_extract]; omega) 23 W
      have k2 := fun W => refNumber_any (s.extract 3 5) (by rw [ByteArray.size_extract]; omega) 59 W
      rw [c13] at k1
      rw [c35] at k2
      obtain ⟨⟨h, a⟩, hh⟩ : ∃ p, numV (r.take 2) 23 = p := ⟨_, rfl⟩
      obtain ⟨⟨m, b⟩, hm⟩ : ∃ p, numV (cutL r 2 4) 59 = p := ⟨_, rfl⟩
      have bh := numNot hh (by omega)
      have bm := numNot hm (by omega)
      rw [hh] at k1
      rw [hm] at k2
      clear c13 c35 hsl
      by_cases h5 : s.size = 5
      · by_cases hc : c = 43
        · subst hc
          have hb : s[0].toNat = 43 := hc0
          rw [show offV (43 :: r) = offB (1) r from rfl]
          have E0 : offB (1) r = offW (1) (h, a) (m, b) (0, true) := by rw [offB_four (1) (by omega), hh, hm]
          rw [E0]
          clear E0 hh hm hl HA hc0 hrl hno
          by_cases hq : (a && b && true) = true
          · simp only [Bool.and_true, Bool.and_eq_true] at hq
            obtain ⟨rfl, rfl⟩ := hq
            have n0 : -9223372036854775808 ≤ h * 3600 ∧ h * 3600 < 9223372036854775808 := by omega
            have n1 : -9223372036854775808 ≤ m * 60 ∧ m * 60 < 9223372036854775808 := by omega
            have n2 : -9223372036854775808 ≤ h * 3600 + m * 60 ∧ h * 3600 + m * 60 < 9223372036854775808 := by omega
            have E : Hid (offW (1) (h, true) (m, true) (0, true) = (h * 3600 + m * 60, 0)) := Lib.hid (by unfold offW; rw [if_pos ⟨rfl, fun k => absurd k.1 (by decide)⟩]; simp only [Prod.mk.injEq, and_true]; omega)
            clear bh bm 
            go_enter Tryd.func8, Tryd.ntmps8
            go_wp2_with (first
              | (go_at_call 33; ((with_reducible refine (k1 _).mono ?_); rintro e w' ⟨rfl, hw⟩; subst w'; clear k1))
              | (go_at_call 33; ((with_reducible refine (k2 _).mono ?_); rintro e w' ⟨rfl, hw⟩; subst w'; clear k2)))
            go_ret2
            exact ⟨by rw [E.out]; rfl, Below.refl _ _⟩
          · have E := Lib.hid (offW_no (sg := 1) (H := (h, a)) (M := (m, b)) (X := (0, true)) (by simpa using hq))
            have n0 : -9223372036854775808 ≤ h * 3600 ∧ h * 3600 < 9223372036854775808 := by omega
            clear bh bm 
            cases a
            · clear hq
              go_enter Tryd.func8, Tryd.ntmps8
              go_wp2_with (first
                | (go_at_call 33; ((with_reducible refine (k1 _).mono ?_); rintro e w' ⟨rfl, hw⟩; subst w'; clear k1))
                | (go_at_call 33; ((with_reducible refine (k2 _).mono ?_); rintro e w' ⟨rfl, hw⟩; subst w'; clear k2)))
              go_ret2
              exact ⟨by rw [E.out]; rfl, Below.refl _ _⟩
            · cases b
              · clear hq
                go_enter Tryd.func8, Tryd.ntmps8
                go_wp2_with (first
                  | (go_at_call 33; ((with_reducible refine (k1 _).mono ?_); rintro e w' ⟨rfl, hw⟩; subst w'; clear k1))
                  | (go_at_call 33; ((with_reducible refine (k2 _).mono ?_); rintro e w' ⟨rfl, hw⟩; subst w'; clear k2)))
                go_ret2
                exact ⟨by rw [E.out]; rfl, Below.refl _ _⟩
              · exact absurd rfl hq
        · by_cases hc2 : c = 45
          · subst hc2
            clear hc
            have hb : s[0].toNat = 45 := hc0
            rw [show offV (45 :: r) = offB (-1) r from rfl]
            have E0 : offB (-1) r = offW (-1) (h, a) (m, b) (0, true) := by rw [offB_four (-1) (by omega), hh, hm]
            rw [E0]
            clear E0 hh hm hl HA hc0 hrl hno
            by_cases hq : (a && b && true) = true
            · simp only [Bool.and_true, Bool.and_eq_true] at hq
              obtain ⟨rfl, rfl⟩ := hq
              have n0 : -9223372036854775808 ≤ h * 3600 ∧ h * 3600 < 9223372036854775808 := by omega
              have n1 : -9223372036854775808 ≤ m * 60 ∧ m * 60 < 9223372036854775808 := by omega
              have n2 : -9223372036854775808 ≤ h * 3600 + m * 60 ∧ h * 3600 + m * 60 < 9223372036854775808 := by omega
              by_cases hz : h * 3600 + m * 60 = 0
              · have E : Hid (offW (-1) (h, true) (m, true) (0, true) = (0, 10)) := Lib.hid (by unfold offW; rw [if_neg (fun k => k.2 ⟨by decide, by simp only; omega⟩)])
                have z1 : ((h * 3600 + m * 60) == 0) = true := by rw [beq_iff_eq]; exact hz
                clear bh bm hz 
                go_enter Tryd.func8, Tryd.ntmps8
                go_wp2_with (first
                  | (go_at_call 33; ((with_reducible refine (k1 _).mono ?_); rintro e w' ⟨rfl, hw⟩; subst w'; clear k1))
                  | (go_at_call 33; ((with_reducible refine (k2 _).mono ?_); rintro e w' ⟨rfl, hw⟩; subst w'; clear k2)))
                go_ret2
                exact ⟨by rw [E.out]; rfl, Below.refl _ _⟩
              · have E : Hid (offW (-1) (h, true) (m, true) (0, true) = (-(h * 3600 + m * 60), 0)) := Lib.hid (by unfold offW; rw [if_pos ⟨rfl, fun k => hz (by have := k.2; simp only at this; omega)⟩]; simp only [Prod.mk.injEq, and_true]; omega)
                have z1 : ((h * 3600 + m * 60) == 0) = false := by rw [beq_eq_false_iff_ne]; exact hz
                have n4 : -9223372036854775808 ≤ -(h * 3600 + m * 60) ∧ -(h * 3600 + m * 60) < 9223372036854775808 := by omega
                clear bh bm 
                go_enter Tryd.func8, Tryd.ntmps8
                go_wp2_with (first
                  | (go_at_call 33; ((with_reducible refine (k1 _).mono ?_); rintro e w' ⟨rfl, hw⟩; subst w'; clear k1))
                  | (go_at_call 33; ((with_reducible refine (k2 _).mono ?_); rintro e w' ⟨rfl, hw⟩; subst w'; clear k2)))
                go_ret2
                exact ⟨by rw [E.out]; rfl, Below.refl _ _⟩
            · have E := Lib.hid (offW_no (sg := -1) (H := (h, a)) (M := (m, b)) (X := (0, true)) (by simpa using hq))
              have n0 : -9223372036854775808 ≤ h * 3600 ∧ h * 3600 < 9223372036854775808 := by omega
              clear bh bm 
              cases a
              · clear hq
                go_enter Tryd.func8, Tryd.ntmps8
                go_wp2_with (first
                  | (go_at_call 33; ((with_reducible refine (k1 _).mono ?_); rintro e w' ⟨rfl, hw⟩; subst w'; clear k1))
                  | (go_at_call 33; ((with_reducible refine (k2 _).mono ?_); rintro e w' ⟨rfl, hw⟩; subst w'; clear k2)))
                go_ret2
                exact ⟨by rw [E.out]; rfl, Below.refl _ _⟩
              · cases b
                · clear hq
                  go_enter Tryd.func8, Tryd.ntmps8
                  go_wp2_with (first
                    | (go_at_call 33; ((with_reducible refine (k1 _).mono ?_); rintro e w' ⟨rfl, hw⟩; subst w'; clear k1))
                    | (go_at_call 33; ((with_reducible refine (k2 _).mono ?_); rintro e w' ⟨rfl, hw⟩; subst w'; clear k2)))
                  go_ret2
                  exact ⟨by rw [E.out]; rfl, Below.refl _ _⟩
                · exact absurd rfl hq
          · have E := Lib.hid (offV_sign (r := r) hc hc2)
            have q1 : ¬ s[0].toNat = 43 := fun h => hc (UInt8.toNat_inj.1 (hc0.symm.trans h))
            have q2 : ¬ s[0].toNat = 45 := fun h => hc2 (UInt8.toNat_inj.1 (hc0.symm.trans h))
            have q1i : ¬ (((s[0].toNat : Nat) : Int) = 43) := by omega
            have q1b : ((((s[0].toNat : Nat) : Int) == 43) = false) := by rw [beq_eq_false_iff_ne]; exact q1i
            have q1n : ((((s[0].toNat : Nat) : Int) != 43) = true) := by simpa using q1i
            have q2i : ¬ (((s[0].toNat : Nat) : Int) = 45) := by omega
            have q2b : ((((s[0].toNat : Nat) : Int) == 45) = false) := by rw [beq_eq_false_iff_ne]; exact q2i
            have q2n : ((((s[0].toNat : Nat) : Int) != 45) = true) := by simpa using q2i
            clear k1 k2 hc0 hl HA hrl hh hm hc hc2 bh bm hno 
            go_enter Tryd.func8, Tryd.ntmps8
            go_wp2
            go_ret2
            exact ⟨by rw [E.out]; rfl, Below.refl _ _⟩
      · have h7 : s.size = 7 := by omega
        have c57 : (s.extract 5 7).data.toList = r.drop 4 := by rw [cutR, hl]; exact List.take_of_length_le (by rw [List.length_drop, List.length_cons]; omega)
        have k3 := fun W => refNumber_any (s.extract 5 7) (by rw [ByteArray.size_extract]; omega) 59 W
        rw [c57] at k3
        obtain ⟨⟨x, d⟩, hx⟩ : ∃ p, numV (r.drop 4) 59 = p := ⟨_, rfl⟩
        have bx := numNot hx (by omega)
        rw [hx] at k3
        by_cases hc : c = 43
        · subst hc
          have hb : s[0].toNat = 43 := hc0
          rw [show offV (43 :: r) = offB (1) r from rfl]
          have E0 : offB (1) r = offW (1) (h, a) (m, b) (x, d) := by rw [offB_six (1) (by omega), hh, hm, hx]
          rw [E0]
          clear E0 hh hm hx c57 hl HA hc0 hrl hno
          by_cases hq : (a && b && d) = true
          · simp only [Bool.and_eq_true] at hq
            obtain ⟨⟨rfl, rfl⟩, rfl⟩ := hq
            have n0 : -9223372036854775808 ≤ h * 3600 ∧ h * 3600 < 9223372036854775808 := by omega
            have n1 : -9223372036854775808 ≤ m * 60 ∧ m * 60 < 9223372036854775808 := by omega
            have n2 : -9223372036854775808 ≤ h * 3600 + m * 60 ∧ h * 3600 + m * 60 < 9223372036854775808 := by omega
            have n3 : -9223372036854775808 ≤ h * 3600 + m * 60 + x ∧ h * 3600 + m * 60 + x < 9223372036854775808 := by omega
            have E : Hid (offW (1) (h, true) (m, true) (x, true) = (h * 3600 + m * 60 + x, 0)) := Lib.hid (by unfold offW; rw [if_pos ⟨rfl, fun k => absurd k.1 (by decide)⟩]; simp only [Prod.mk.injEq, and_true]; omega)
            clear bh bm bx
            go_enter Tryd.func8, Tryd.ntmps8
            go_wp2_with (first
              | (go_at_call 33; ((with_reducible refine (k1 _).mono ?_); rintro e w' ⟨rfl, hw⟩; subst w'; clear k1))
              | (go_at_call 33; ((with_reducible refine (k2 _).mono ?_); rintro e w' ⟨rfl, hw⟩; subst w'; clear k2))
              | (go_at_call 33; ((with_reducible refine (k3 _).mono ?_); rintro e w' ⟨rfl, hw⟩; subst w'; clear k3)))
            go_ret2
            exact ⟨by rw [E.out]; rfl, Below.refl _ _⟩
          · have E := Lib.hid (offW_no (sg := 1) (H := (h, a)) (M := (m, b)) (X := (x, d)) (by simpa using hq))
            have n0 : -9223372036854775808 ≤ h * 3600 ∧ h * 3600 < 9223372036854775808 := by omega
            clear bh bm bx
            cases a
            · clear hq
              go_enter Tryd.func8, Tryd.ntmps8
              go_wp2_with (first
                | (go_at_call 33; ((with_reducible refine (k1 _).mono ?_); rintro e w' ⟨rfl, hw⟩; subst w'; clear k1))
                | (go_at_call 33; ((with_reducible refine (k2 _).mono ?_); rintro e w' ⟨rfl, hw⟩; subst w'; clear k2))
                | (go_at_call 33; ((with_reducible refine (k3 _).mono ?_); rintro e w' ⟨rfl, hw⟩; subst w'; clear k3)))
              go_ret2
              exact ⟨by rw [E.out]; rfl, Below.refl _ _⟩
            · cases b
              · clear hq
                go_enter Tryd.func8, Tryd.ntmps8
                go_wp2_with (first
                  | (go_at_call 33; ((with_reducible refine (k1 _).mono ?_); rintro e w' ⟨rfl, hw⟩; subst w'; clear k1))
                  | (go_at_call 33; ((with_reducible refine (k2 _).mono ?_); rintro e w' ⟨rfl, hw⟩; subst w'; clear k2))
                  | (go_at_call 33; ((with_reducible refine (k3 _).mono ?_); rintro e w' ⟨rfl, hw⟩; subst w'; clear k3)))
                go_ret2
                exact ⟨by rw [E.out]; rfl, Below.refl _ _⟩
              · cases d
                · clear hq
                  go_enter Tryd.func8, Tryd.ntmps8
                  go_wp2_with (first
                    | (go_at_call 33; ((with_reducible refine (k1 _).mono ?_); rintro e w' ⟨rfl, hw⟩; subst w'; clear k1))
                    | (go_at_call 33; ((with_reducible refine (k2 _).mono ?_); rintro e w' ⟨rfl, hw⟩; subst w'; clear k2))
                    | (go_at_call 33; ((with_reducible refine (k3 _).mono ?_); rintro e w' ⟨rfl, hw⟩; subst w'; clear k3)))
                  go_ret2
                  exact ⟨by rw [E.out]; rfl, Below.refl _ _⟩
                · exact absurd rfl hq
        · by_cases hc2 : c = 45
          · subst hc2
            clear hc
            have hb : s[0].toNat = 45 := hc0
            rw [show offV (45 :: r) = offB (-1) r from rfl]
            have E0 : offB (-1) r = offW (-1) (h, a) (m, b) (x, d) := by rw [offB_six (-1) (by omega), hh, hm, hx]
            rw [E0]
            clear E0 hh hm hx c57 hl HA hc0 hrl hno
            by_cases hq : (a && b && d) = true
            · simp only [Bool.and_eq_true] at hq
              obtain ⟨⟨rfl, rfl⟩, rfl⟩ := hq
              have n0 : -9223372036854775808 ≤ h * 3600 ∧ h * 3600 < 9223372036854775808 := by omega
              have n1 : -9223372036854775808 ≤ m * 60 ∧ m * 60 < 9223372036854775808 := by omega
              have n2 : -9223372036854775808 ≤ h * 3600 + m * 60 ∧ h * 3600 + m * 60 < 9223372036854775808 := by omega
              have n3 : -9223372036854775808 ≤ h * 3600 + m * 60 + x ∧ h * 3600 + m * 60 + x < 9223372036854775808 := by omega
              by_cases hz : h * 3600 + m * 60 + x = 0
              · have E : Hid (offW (-1) (h, true) (m, true) (x, true) = (0, 10)) := Lib.hid (by unfold offW; rw [if_neg (fun k => k.2 ⟨by decide, by simp only; omega⟩)])
                have z1 : ((h * 3600 + m * 60 + x) == 0) = true := by rw [beq_iff_eq]; exact hz
                clear bh bm hz bx
                go_enter Tryd.func8, Tryd.ntmps8
                go_wp2_with (first
                  | (go_at_call 33; ((with_reducible refine (k1 _).mono ?_); rintro e w' ⟨rfl, hw⟩; subst w'; clear k1))
                  | (go_at_call 33; ((with_reducible refine (k2 _).mono ?_); rintro e w' ⟨rfl, hw⟩; subst w'; clear k2))
                  | (go_at_call 33; ((with_reducible refine (k3 _).mono ?_); rintro e w' ⟨rfl, hw⟩; subst w'; clear k3)))
                go_ret2
                exact ⟨by rw [E.out]; rfl, Below.refl _ _⟩
              · have E : Hid (offW (-1) (h, true) (m, true) (x, true) = (-(h * 3600 + m * 60 + x), 0)) := Lib.hid (by unfold offW; rw [if_pos ⟨rfl, fun k => hz (by have := k.2; simp only at this; omega)⟩]; simp only [Prod.mk.injEq, and_true]; omega)
                have z1 : ((h * 3600 + m * 60 + x) == 0) = false := by rw [beq_eq_false_iff_ne]; exact hz
                have n4 : -9223372036854775808 ≤ -(h * 3600 + m * 60 + x) ∧ -(h * 3600 + m * 60 + x) < 9223372036854775808 := by omega
                clear bh bm bx
                go_enter Tryd.func8, Tryd.ntmps8
                go_wp2_with (first
                  | (go_at_call 33; ((with_reducible refine (k1 _).mono ?_); rintro e w' ⟨rfl, hw⟩; subst w'; clear k1))
                  | (go_at_call 33; ((with_reducible refine (k2 _).mono ?_); rintro e w' ⟨rfl, hw⟩; subst w'; clear k2))
                  | (go_at_call 33; ((with_reducible refine (k3 _).mono ?_); rintro e w' ⟨rfl, hw⟩; subst w'; clear k3)))
                go_ret2
                exact ⟨by rw [E.out]; rfl, Below.refl _ _⟩
            · have E := Lib.hid (offW_no (sg := -1) (H := (h, a)) (M := (m, b)) (X := (x, d)) (by simpa using hq))
              have n0 : -9223372036854775808 ≤ h * 3600 ∧ h * 3600 < 9223372036854775808 := by omega
              clear bh bm bx
              cases a
              · clear hq
                go_enter Tryd.func8, Tryd.ntmps8
                go_wp2_with (first
                  | (go_at_call 33; ((with_reducible refine (k1 _).mono ?_); rintro e w' ⟨rfl, hw⟩; subst w'; clear k1))
                  | (go_at_call 33; ((with_reducible refine (k2 _).mono ?_); rintro e w' ⟨rfl, hw⟩; subst w'; clear k2))
                  | (go_at_call 33; ((with_reducible refine (k3 _).mono ?_); rintro e w' ⟨rfl, hw⟩; subst w'; clear k3)))
                go_ret2
                exact ⟨by rw [E.out]; rfl, Below.refl _ _⟩
              · cases b
                · clear hq
                  go_enter Tryd.func8, Tryd.ntmps8
                  go_wp2_with (first
                    | (go_at_call 33; ((with_reducible refine (k1 _).mono ?_); rintro e w' ⟨rfl, hw⟩; subst w'; clear k1))
                    | (go_at_call 33; ((with_reducible refine (k2 _).mono ?_); rintro e w' ⟨rfl, hw⟩; subst w'; clear k2))
                    | (go_at_call 33; ((with_reducible refine (k3 _).mono ?_); rintro e w' ⟨rfl, hw⟩; subst w'; clear k3)))
                  go_ret2
                  exact ⟨by rw [E.out]; rfl, Below.refl _ _⟩
                · cases d
                  · clear hq
                    go_enter Tryd.func8, Tryd.ntmps8
                    go_wp2_with (first
                      | (go_at_call 33; ((with_reducible refine (k1 _).mono ?_); rintro e w' ⟨rfl, hw⟩; subst w'; clear k1))
                      | (go_at_call 33; ((with_reducible refine (k2 _).mono ?_); rintro e w' ⟨rfl, hw⟩; subst w'; clear k2))
                      | (go_at_call 33; ((with_reducible refine (k3 _).mono ?_); rintro e w' ⟨rfl, hw⟩; subst w'; clear k3)))
                    go_ret2
                    exact ⟨by rw [E.out]; rfl, Below.refl _ _⟩
                  · exact absurd rfl hq
          · have E := Lib.hid (offV_sign (r := r) hc hc2)
            have q1 : ¬ s[0].toNat = 43 := fun h => hc (UInt8.toNat_inj.1 (hc0.symm.trans h))
            have q2 : ¬ s[0].toNat = 45 := fun h => hc2 (UInt8.toNat_inj.1 (hc0.symm.trans h))
            have q1i : ¬ (((s[0].toNat : Nat) : Int) = 43) := by omega
            have q1b : ((((s[0].toNat : Nat) : Int) == 43) = false) := by rw [beq_eq_false_iff_ne]; exact q1i
            have q1n : ((((s[0].toNat : Nat) : Int) != 43) = true) := by simpa using q1i
            have q2i : ¬ (((s[0].toNat : Nat) : Int) = 45) := by omega
            have q2b : ((((s[0].toNat : Nat) : Int) == 45) = false) := by rw [beq_eq_false_iff_ne]; exact q2i
            have q2n : ((((s[0].toNat : Nat) : Int) != 45) = true) := by simpa using q2i
            clear k1 k2 hc0 hl HA hrl hh hm hc hc2 bh bm hno k3 hx bx c57 
            go_enter Tryd.func8, Tryd.ntmps8
            go_wp2
            go_ret2
            exact ⟨by rw [E.out]; rfl, Below.refl _ _⟩
end Go.Proofs.YtdilnofolnabdaaDoor
