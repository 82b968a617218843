/-
  The document's own answers of layer 13: a duration's time, its parts, and the whole.
-/
import Derived.Test.YtdilnofolnabdaaGreatDoorG25
import Derived.Test.YtdilnofolnabdaaGreatDoorG10
namespace Go.Proofs.YtdilnofolnabdaaGreatDoor
open Go.RowKit

theorem numSome {s : ByteArray} (hs : s.size ≤ 1048576) {c : UInt8} {v : Int} {r : List UInt8} (h : numR s.data.toList c = some (v, r)) (w : World) :
    Calls Tryz.prog 95 #[.string s, .int .u8 (c.toNat : Int)] w fun e w' => e = .returned (.tuple #[.int .i64 v, .string ⟨r.toArray⟩, .bool true]) ∧ Below w.heap.size w w' :=
  (refNum_any s hs c w).mono fun e w' ⟨hn, hb⟩ => by
    rcases hn with ⟨v', r', h', he⟩ | ⟨h', _⟩
    · rw [h] at h'
      simp only [Option.some.injEq, Prod.mk.injEq] at h'
      rw [h'.1, h'.2]; exact ⟨he, hb⟩
    · rw [h] at h'; cases h'
theorem numNone {s : ByteArray} (hs : s.size ≤ 1048576) {c : UInt8} (h : numR s.data.toList c = none) (w : World) :
    Calls Tryz.prog 95 #[.string s, .int .u8 (c.toNat : Int)] w fun e w' => e = .returned (.tuple #[.int .i64 0, .string s, .bool false]) ∧ Below w.heap.size w w' :=
  (refNum_any s hs c w).mono fun e w' ⟨hn, hb⟩ => by
    rcases hn with ⟨v', r', h', _⟩ | ⟨_, he⟩
    · rw [h] at h'; cases h'
    · exact ⟨he, hb⟩
theorem ne_text {r : List UInt8} (h : r ≠ []) : (⟨r.toArray⟩ : ByteArray).toList.isEmpty = false := by
  rw [ByteArray.toList_eq, mk_listR]
  cases r with
  | nil => exact absurd rfl h
  | cons c r => rfl
theorem ne_listR {r : List UInt8} (h : r ≠ []) : r.isEmpty = false := by
  cases r with
  | nil => exact absurd rfl h
  | cons c r => rfl
set_option maxRecDepth 100000 in
set_option maxHeartbeats 8000000 in
theorem refClk13_any (r : List UInt8) (hr : r.length ≤ 1048576) (w : World) :
    Calls Tryz.prog 96 #[.string ⟨r.toArray⟩] w fun e w' => ∃ v, e = .returned (.tuple #[.int .i64 v, .bool (goP 84 0 r).isSome]) ∧ (∀ x, goP 84 0 r = some x → v = x) ∧ (0 ≤ v ∧ v ≤ 100000000000) ∧ Below w.heap.size w w' := by
  rcases h72 : numR (r) 72 with _ | ⟨h, a⟩
  · rcases h77 : numR (r) 77 with _ | ⟨m, b⟩
    · rcases h83 : numR (r) 83 with _ | ⟨x, c⟩
      · have k0 : ∀ W, Calls Tryz.prog 95 #[.string ⟨(r).toArray⟩, .int .u8 72] W fun e w' => e = .returned (.tuple #[.int .i64 0, .string ⟨(r).toArray⟩, .bool false]) ∧ Below W.heap.size W w' := fun W => numNone (c := 72) (by rw [mk_sizeR]; omega) (by rw [mk_listR]; assumption) W
        have k1 : ∀ W, Calls Tryz.prog 95 #[.string ⟨(r).toArray⟩, .int .u8 77] W fun e w' => e = .returned (.tuple #[.int .i64 0, .string ⟨(r).toArray⟩, .bool false]) ∧ Below W.heap.size W w' := fun W => numNone (c := 77) (by rw [mk_sizeR]; omega) (by rw [mk_listR]; assumption) W
        have k2 : ∀ W, Calls Tryz.prog 95 #[.string ⟨(r).toArray⟩, .int .u8 83] W fun e w' => e = .returned (.tuple #[.int .i64 0, .string ⟨(r).toArray⟩, .bool false]) ∧ Below W.heap.size W w' := fun W => numNone (c := 83) (by rw [mk_sizeR]; omega) (by rw [mk_listR]; assumption) W
        have G := Lib.hid (show goP 84 0 r = none by rw [goT, h72, h77, h83])
        have hV : 0 ≤ (0 : Int) ∧ (0 : Int) ≤ 100000000000 := by omega
        have HVb := Lib.hid hV
        clear hV h72 h77 h83
        go_enter Tryz.func96, Tryz.ntmps96
        go_wp2_with (first
          | (go_at_call 95; ((with_reducible refine (k0 _).mono ?_); rintro e w0 ⟨rfl, hb0⟩; clear k0; have B0 := Lib.hid hb0))
          | (go_at_call 95; ((with_reducible refine (k1 _).mono ?_); rintro e w1 ⟨rfl, hb1⟩; clear k1; have B1 := Lib.hid (bstep B0.out hb1)))
          | (go_at_call 95; ((with_reducible refine (k2 _).mono ?_); rintro e w2 ⟨rfl, hb2⟩; clear k2; have B2 := Lib.hid (bstep B1.out hb2))))
        go_ret2
        exact ⟨(0 : Int), by rw [G.out]; rfl, (fun x hx => by rw [G.out] at hx; cases hx), HVb.out, B2.out⟩
      · have b83 := numR_bound h83
        have k0 : ∀ W, Calls Tryz.prog 95 #[.string ⟨(r).toArray⟩, .int .u8 72] W fun e w' => e = .returned (.tuple #[.int .i64 0, .string ⟨(r).toArray⟩, .bool false]) ∧ Below W.heap.size W w' := fun W => numNone (c := 72) (by rw [mk_sizeR]; omega) (by rw [mk_listR]; assumption) W
        have k1 : ∀ W, Calls Tryz.prog 95 #[.string ⟨(r).toArray⟩, .int .u8 77] W fun e w' => e = .returned (.tuple #[.int .i64 0, .string ⟨(r).toArray⟩, .bool false]) ∧ Below W.heap.size W w' := fun W => numNone (c := 77) (by rw [mk_sizeR]; omega) (by rw [mk_listR]; assumption) W
        by_cases hc : c = []
        · subst hc
          have k2 : ∀ W, Calls Tryz.prog 95 #[.string ⟨(r).toArray⟩, .int .u8 83] W fun e w' => e = .returned (.tuple #[.int .i64 x, .string ⟨#[]⟩, .bool true]) ∧ Below W.heap.size W w' := fun W => numSome (c := 83) (by rw [mk_sizeR]; omega) (by rw [mk_listR]; assumption) W
          have G := Lib.hid (show goP 84 0 r = some (0 + x) by rw [goT, h72, h77, h83]; rfl)
          have hV : 0 ≤ x ∧ x ≤ 100000000000 := by omega
          have HVb := Lib.hid hV
          clear hV h72 h77 h83
          go_enter Tryz.func96, Tryz.ntmps96
          go_wp2_with (first
            | (go_at_call 95; ((with_reducible refine (k0 _).mono ?_); rintro e w0 ⟨rfl, hb0⟩; clear k0; have B0 := Lib.hid hb0))
            | (go_at_call 95; ((with_reducible refine (k1 _).mono ?_); rintro e w1 ⟨rfl, hb1⟩; clear k1; have B1 := Lib.hid (bstep B0.out hb1)))
            | (go_at_call 95; ((with_reducible refine (k2 _).mono ?_); rintro e w2 ⟨rfl, hb2⟩; clear k2; have B2 := Lib.hid (bstep B1.out hb2))))
          go_ret2
          exact ⟨x, by rw [G.out]; rfl, (fun x hx => by rw [G.out] at hx; have := Option.some.inj hx; omega), HVb.out, B2.out⟩
        · have k2 : ∀ W, Calls Tryz.prog 95 #[.string ⟨(r).toArray⟩, .int .u8 83] W fun e w' => e = .returned (.tuple #[.int .i64 x, .string ⟨(c).toArray⟩, .bool true]) ∧ Below W.heap.size W w' := fun W => numSome (c := 83) (by rw [mk_sizeR]; omega) (by rw [mk_listR]; assumption) W
          have G := Lib.hid (show goP 84 0 r = none by rw [goT, h72, h77, h83]; simp [hc])
          have ne0 := ne_text hc
          have nl0 := ne_listR hc
          have hV : 0 ≤ x ∧ x ≤ 100000000000 := by omega
          have HVb := Lib.hid hV
          clear hV h72 h77 h83
          go_enter Tryz.func96, Tryz.ntmps96
          go_wp2_with (first
            | (go_at_call 95; ((with_reducible refine (k0 _).mono ?_); rintro e w0 ⟨rfl, hb0⟩; clear k0; have B0 := Lib.hid hb0))
            | (go_at_call 95; ((with_reducible refine (k1 _).mono ?_); rintro e w1 ⟨rfl, hb1⟩; clear k1; have B1 := Lib.hid (bstep B0.out hb1)))
            | (go_at_call 95; ((with_reducible refine (k2 _).mono ?_); rintro e w2 ⟨rfl, hb2⟩; clear k2; have B2 := Lib.hid (bstep B1.out hb2))))
          go_ret2
          exact ⟨x, by rw [G.out]; rfl, (fun x hx => by rw [G.out] at hx; cases hx), HVb.out, B2.out⟩
    · have b77 := numR_bound h77
      have k0 : ∀ W, Calls Tryz.prog 95 #[.string ⟨(r).toArray⟩, .int .u8 72] W fun e w' => e = .returned (.tuple #[.int .i64 0, .string ⟨(r).toArray⟩, .bool false]) ∧ Below W.heap.size W w' := fun W => numNone (c := 72) (by rw [mk_sizeR]; omega) (by rw [mk_listR]; assumption) W
      by_cases hb : b = []
      · subst hb
        have k1 : ∀ W, Calls Tryz.prog 95 #[.string ⟨(r).toArray⟩, .int .u8 77] W fun e w' => e = .returned (.tuple #[.int .i64 m, .string ⟨#[]⟩, .bool true]) ∧ Below W.heap.size W w' := fun W => numSome (c := 77) (by rw [mk_sizeR]; omega) (by rw [mk_listR]; assumption) W
        have G := Lib.hid (show goP 84 0 r = some (0 + m * 60) by rw [goT, h72, h77]; rfl)
        have n0 : -9223372036854775808 ≤ m * 60 ∧ m * 60 < 9223372036854775808 := by omega
        have hV : 0 ≤ m * 60 ∧ m * 60 ≤ 100000000000 := by omega
        have HVb := Lib.hid hV
        clear hV h72 h77
        go_enter Tryz.func96, Tryz.ntmps96
        go_wp2_with (first
          | (go_at_call 95; ((with_reducible refine (k0 _).mono ?_); rintro e w0 ⟨rfl, hb0⟩; clear k0; have B0 := Lib.hid hb0))
          | (go_at_call 95; ((with_reducible refine (k1 _).mono ?_); rintro e w1 ⟨rfl, hb1⟩; clear k1; have B1 := Lib.hid (bstep B0.out hb1))))
        go_ret2
        exact ⟨m * 60, by rw [G.out]; rfl, (fun x hx => by rw [G.out] at hx; have := Option.some.inj hx; omega), HVb.out, B1.out⟩
      · have k1 : ∀ W, Calls Tryz.prog 95 #[.string ⟨(r).toArray⟩, .int .u8 77] W fun e w' => e = .returned (.tuple #[.int .i64 m, .string ⟨(b).toArray⟩, .bool true]) ∧ Below W.heap.size W w' := fun W => numSome (c := 77) (by rw [mk_sizeR]; omega) (by rw [mk_listR]; assumption) W
        rcases h83 : numR (b) 83 with _ | ⟨x, c⟩
        · have k2 : ∀ W, Calls Tryz.prog 95 #[.string ⟨(b).toArray⟩, .int .u8 83] W fun e w' => e = .returned (.tuple #[.int .i64 0, .string ⟨(b).toArray⟩, .bool false]) ∧ Below W.heap.size W w' := fun W => numNone (c := 83) (by rw [mk_sizeR]; omega) (by rw [mk_listR]; assumption) W
          have G := Lib.hid (show goP 84 0 r = none by rw [goT, h72, h77]; simp only; rw [goM, if_neg hb, h83])
          have n0 : -9223372036854775808 ≤ m * 60 ∧ m * 60 < 9223372036854775808 := by omega
          have n1 : -9223372036854775808 ≤ m * 60 + 0 ∧ m * 60 + 0 < 9223372036854775808 := by omega
          have ne0 := ne_text hb
          have nl0 := ne_listR hb
          have hV : 0 ≤ m * 60 ∧ m * 60 ≤ 100000000000 := by omega
          have HVb := Lib.hid hV
          clear hV h72 h77 h83
          go_enter Tryz.func96, Tryz.ntmps96
          go_wp2_with (first
            | (go_at_call 95; ((with_reducible refine (k0 _).mono ?_); rintro e w0 ⟨rfl, hb0⟩; clear k0; have B0 := Lib.hid hb0))
            | (go_at_call 95; ((with_reducible refine (k1 _).mono ?_); rintro e w1 ⟨rfl, hb1⟩; clear k1; have B1 := Lib.hid (bstep B0.out hb1)))
            | (go_at_call 95; ((with_reducible refine (k2 _).mono ?_); rintro e w2 ⟨rfl, hb2⟩; clear k2; have B2 := Lib.hid (bstep B1.out hb2))))
          go_ret2
          exact ⟨m * 60, by rw [G.out]; rfl, (fun x hx => by rw [G.out] at hx; cases hx), HVb.out, B2.out⟩
        · have b83 := numR_bound h83
          by_cases hc : c = []
          · subst hc
            have k2 : ∀ W, Calls Tryz.prog 95 #[.string ⟨(b).toArray⟩, .int .u8 83] W fun e w' => e = .returned (.tuple #[.int .i64 x, .string ⟨#[]⟩, .bool true]) ∧ Below W.heap.size W w' := fun W => numSome (c := 83) (by rw [mk_sizeR]; omega) (by rw [mk_listR]; assumption) W
            have G := Lib.hid (show goP 84 0 r = some (0 + m * 60 + x) by rw [goT, h72, h77]; simp only; rw [goM, if_neg hb, h83]; rfl)
            have n0 : -9223372036854775808 ≤ m * 60 ∧ m * 60 < 9223372036854775808 := by omega
            have n1 : -9223372036854775808 ≤ m * 60 + x ∧ m * 60 + x < 9223372036854775808 := by omega
            have ne0 := ne_text hb
            have nl0 := ne_listR hb
            have hV : 0 ≤ m * 60 + x ∧ m * 60 + x ≤ 100000000000 := by omega
            have HVb := Lib.hid hV
            clear hV h72 h77 h83
            go_enter Tryz.func96, Tryz.ntmps96
            go_wp2_with (first
              | (go_at_call 95; ((with_reducible refine (k0 _).mono ?_); rintro e w0 ⟨rfl, hb0⟩; clear k0; have B0 := Lib.hid hb0))
              | (go_at_call 95; ((with_reducible refine (k1 _).mono ?_); rintro e w1 ⟨rfl, hb1⟩; clear k1; have B1 := Lib.hid (bstep B0.out hb1)))
              | (go_at_call 95; ((with_reducible refine (k2 _).mono ?_); rintro e w2 ⟨rfl, hb2⟩; clear k2; have B2 := Lib.hid (bstep B1.out hb2))))
            go_ret2
            exact ⟨m * 60 + x, by rw [G.out]; rfl, (fun x hx => by rw [G.out] at hx; have := Option.some.inj hx; omega), HVb.out, B2.out⟩
          · have k2 : ∀ W, Calls Tryz.prog 95 #[.string ⟨(b).toArray⟩, .int .u8 83] W fun e w' => e = .returned (.tuple #[.int .i64 x, .string ⟨(c).toArray⟩, .bool true]) ∧ Below W.heap.size W w' := fun W => numSome (c := 83) (by rw [mk_sizeR]; omega) (by rw [mk_listR]; assumption) W
            have G := Lib.hid (show goP 84 0 r = none by rw [goT, h72, h77]; simp only; rw [goM, if_neg hb, h83]; simp [hc])
            have n0 : -9223372036854775808 ≤ m * 60 ∧ m * 60 < 9223372036854775808 := by omega
            have n1 : -9223372036854775808 ≤ m * 60 + x ∧ m * 60 + x < 9223372036854775808 := by omega
            have ne0 := ne_text hb
            have nl0 := ne_listR hb
            have ne1 := ne_text hc
            have nl1 := ne_listR hc
            have hV : 0 ≤ m * 60 + x ∧ m * 60 + x ≤ 100000000000 := by omega
            have HVb := Lib.hid hV
            clear hV h72 h77 h83
            go_enter Tryz.func96, Tryz.ntmps96
            go_wp2_with (first
              | (go_at_call 95; ((with_reducible refine (k0 _).mono ?_); rintro e w0 ⟨rfl, hb0⟩; clear k0; have B0 := Lib.hid hb0))
              | (go_at_call 95; ((with_reducible refine (k1 _).mono ?_); rintro e w1 ⟨rfl, hb1⟩; clear k1; have B1 := Lib.hid (bstep B0.out hb1)))
              | (go_at_call 95; ((with_reducible refine (k2 _).mono ?_); rintro e w2 ⟨rfl, hb2⟩; clear k2; have B2 := Lib.hid (bstep B1.out hb2))))
            go_ret2
            exact ⟨m * 60 + x, by rw [G.out]; rfl, (fun x hx => by rw [G.out] at hx; cases hx), HVb.out, B2.out⟩
  · have b72 := numR_bound h72
    by_cases ha : a = []
    · subst ha
      have k0 : ∀ W, Calls Tryz.prog 95 #[.string ⟨(r).toArray⟩, .int .u8 72] W fun e w' => e = .returned (.tuple #[.int .i64 h, .string ⟨#[]⟩, .bool true]) ∧ Below W.heap.size W w' := fun W => numSome (c := 72) (by rw [mk_sizeR]; omega) (by rw [mk_listR]; assumption) W
      have G := Lib.hid (show goP 84 0 r = some (0 + h * 3600) by rw [goT, h72]; rfl)
      have n0 : -9223372036854775808 ≤ h * 3600 ∧ h * 3600 < 9223372036854775808 := by omega
      have hV : 0 ≤ h * 3600 ∧ h * 3600 ≤ 100000000000 := by omega
      have HVb := Lib.hid hV
      clear hV h72
      go_enter Tryz.func96, Tryz.ntmps96
      go_wp2_with (first
        | (go_at_call 95; ((with_reducible refine (k0 _).mono ?_); rintro e w0 ⟨rfl, hb0⟩; clear k0; have B0 := Lib.hid hb0)))
      go_ret2
      exact ⟨h * 3600, by rw [G.out]; rfl, (fun x hx => by rw [G.out] at hx; have := Option.some.inj hx; omega), HVb.out, B0.out⟩
    · have k0 : ∀ W, Calls Tryz.prog 95 #[.string ⟨(r).toArray⟩, .int .u8 72] W fun e w' => e = .returned (.tuple #[.int .i64 h, .string ⟨(a).toArray⟩, .bool true]) ∧ Below W.heap.size W w' := fun W => numSome (c := 72) (by rw [mk_sizeR]; omega) (by rw [mk_listR]; assumption) W
      rcases h77 : numR (a) 77 with _ | ⟨m, b⟩
      · have k1 : ∀ W, Calls Tryz.prog 95 #[.string ⟨(a).toArray⟩, .int .u8 77] W fun e w' => e = .returned (.tuple #[.int .i64 0, .string ⟨(a).toArray⟩, .bool false]) ∧ Below W.heap.size W w' := fun W => numNone (c := 77) (by rw [mk_sizeR]; omega) (by rw [mk_listR]; assumption) W
        rcases h83 : numR (a) 83 with _ | ⟨x, c⟩
        · have k2 : ∀ W, Calls Tryz.prog 95 #[.string ⟨(a).toArray⟩, .int .u8 83] W fun e w' => e = .returned (.tuple #[.int .i64 0, .string ⟨(a).toArray⟩, .bool false]) ∧ Below W.heap.size W w' := fun W => numNone (c := 83) (by rw [mk_sizeR]; omega) (by rw [mk_listR]; assumption) W
          have G := Lib.hid (show goP 84 0 r = none by rw [goT, h72]; simp only; rw [goH, if_neg ha, h77])
          have n0 : -9223372036854775808 ≤ h * 3600 ∧ h * 3600 < 9223372036854775808 := by omega
          have n1 : -9223372036854775808 ≤ h * 3600 + 0 ∧ h * 3600 + 0 < 9223372036854775808 := by omega
          have n2 : -9223372036854775808 ≤ h * 3600 + 0 + 0 ∧ h * 3600 + 0 + 0 < 9223372036854775808 := by omega
          have ne0 := ne_text ha
          have nl0 := ne_listR ha
          have hV : 0 ≤ h * 3600 ∧ h * 3600 ≤ 100000000000 := by omega
          have HVb := Lib.hid hV
          clear hV h72 h77 h83
          go_enter Tryz.func96, Tryz.ntmps96
          go_wp2_with (first
            | (go_at_call 95; ((with_reducible refine (k0 _).mono ?_); rintro e w0 ⟨rfl, hb0⟩; clear k0; have B0 := Lib.hid hb0))
            | (go_at_call 95; ((with_reducible refine (k1 _).mono ?_); rintro e w1 ⟨rfl, hb1⟩; clear k1; have B1 := Lib.hid (bstep B0.out hb1)))
            | (go_at_call 95; ((with_reducible refine (k2 _).mono ?_); rintro e w2 ⟨rfl, hb2⟩; clear k2; have B2 := Lib.hid (bstep B1.out hb2))))
          go_ret2
          exact ⟨h * 3600, by rw [G.out]; rfl, (fun x hx => by rw [G.out] at hx; cases hx), HVb.out, B2.out⟩
        · have b83 := numR_bound h83
          have k2 : ∀ W, Calls Tryz.prog 95 #[.string ⟨(a).toArray⟩, .int .u8 83] W fun e w' => e = .returned (.tuple #[.int .i64 x, .string ⟨(c).toArray⟩, .bool true]) ∧ Below W.heap.size W w' := fun W => numSome (c := 83) (by rw [mk_sizeR]; omega) (by rw [mk_listR]; assumption) W
          have G := Lib.hid (show goP 84 0 r = none by rw [goT, h72]; simp only; rw [goH, if_neg ha, h77])
          have n0 : -9223372036854775808 ≤ h * 3600 ∧ h * 3600 < 9223372036854775808 := by omega
          have n1 : -9223372036854775808 ≤ h * 3600 + 0 ∧ h * 3600 + 0 < 9223372036854775808 := by omega
          have n2 : -9223372036854775808 ≤ h * 3600 + x ∧ h * 3600 + x < 9223372036854775808 := by omega
          have n3 : -9223372036854775808 ≤ h * 3600 + 0 + x ∧ h * 3600 + 0 + x < 9223372036854775808 := by omega
          have ne0 := ne_text ha
          have nl0 := ne_listR ha
          have hV : 0 ≤ h * 3600 + x ∧ h * 3600 + x ≤ 100000000000 := by omega
          have HVb := Lib.hid hV
          clear hV h72 h77 h83
          go_enter Tryz.func96, Tryz.ntmps96
          go_wp2_with (first
            | (go_at_call 95; ((with_reducible refine (k0 _).mono ?_); rintro e w0 ⟨rfl, hb0⟩; clear k0; have B0 := Lib.hid hb0))
            | (go_at_call 95; ((with_reducible refine (k1 _).mono ?_); rintro e w1 ⟨rfl, hb1⟩; clear k1; have B1 := Lib.hid (bstep B0.out hb1)))
            | (go_at_call 95; ((with_reducible refine (k2 _).mono ?_); rintro e w2 ⟨rfl, hb2⟩; clear k2; have B2 := Lib.hid (bstep B1.out hb2))))
          go_ret2
          exact ⟨h * 3600 + x, by rw [G.out]; rfl, (fun x hx => by rw [G.out] at hx; cases hx), HVb.out, B2.out⟩
      · have b77 := numR_bound h77
        by_cases hb : b = []
        · subst hb
          have k1 : ∀ W, Calls Tryz.prog 95 #[.string ⟨(a).toArray⟩, .int .u8 77] W fun e w' => e = .returned (.tuple #[.int .i64 m, .string ⟨#[]⟩, .bool true]) ∧ Below W.heap.size W w' := fun W => numSome (c := 77) (by rw [mk_sizeR]; omega) (by rw [mk_listR]; assumption) W
          have G := Lib.hid (show goP 84 0 r = some (0 + h * 3600 + m * 60) by rw [goT, h72]; simp only; rw [goH, if_neg ha, h77]; rfl)
          have n0 : -9223372036854775808 ≤ h * 3600 ∧ h * 3600 < 9223372036854775808 := by omega
          have n1 : -9223372036854775808 ≤ m * 60 ∧ m * 60 < 9223372036854775808 := by omega
          have n2 : -9223372036854775808 ≤ h * 3600 + m * 60 ∧ h * 3600 + m * 60 < 9223372036854775808 := by omega
          have ne0 := ne_text ha
          have nl0 := ne_listR ha
          have hV : 0 ≤ h * 3600 + m * 60 ∧ h * 3600 + m * 60 ≤ 100000000000 := by omega
          have HVb := Lib.hid hV
          clear hV h72 h77
          go_enter Tryz.func96, Tryz.ntmps96
          go_wp2_with (first
            | (go_at_call 95; ((with_reducible refine (k0 _).mono ?_); rintro e w0 ⟨rfl, hb0⟩; clear k0; have B0 := Lib.hid hb0))
            | (go_at_call 95; ((with_reducible refine (k1 _).mono ?_); rintro e w1 ⟨rfl, hb1⟩; clear k1; have B1 := Lib.hid (bstep B0.out hb1))))
          go_ret2
          exact ⟨h * 3600 + m * 60, by rw [G.out]; rfl, (fun x hx => by rw [G.out] at hx; have := Option.some.inj hx; omega), HVb.out, B1.out⟩
        · have k1 : ∀ W, Calls Tryz.prog 95 #[.string ⟨(a).toArray⟩, .int .u8 77] W fun e w' => e = .returned (.tuple #[.int .i64 m, .string ⟨(b).toArray⟩, .bool true]) ∧ Below W.heap.size W w' := fun W => numSome (c := 77) (by rw [mk_sizeR]; omega) (by rw [mk_listR]; assumption) W
          rcases h83 : numR (b) 83 with _ | ⟨x, c⟩
          · have k2 : ∀ W, Calls Tryz.prog 95 #[.string ⟨(b).toArray⟩, .int .u8 83] W fun e w' => e = .returned (.tuple #[.int .i64 0, .string ⟨(b).toArray⟩, .bool false]) ∧ Below W.heap.size W w' := fun W => numNone (c := 83) (by rw [mk_sizeR]; omega) (by rw [mk_listR]; assumption) W
            have G := Lib.hid (show goP 84 0 r = none by rw [goT, h72]; simp only; rw [goH, if_neg ha, h77]; simp only; rw [goM, if_neg hb, h83])
            have n0 : -9223372036854775808 ≤ h * 3600 ∧ h * 3600 < 9223372036854775808 := by omega
            have n1 : -9223372036854775808 ≤ m * 60 ∧ m * 60 < 9223372036854775808 := by omega
            have n2 : -9223372036854775808 ≤ h * 3600 + m * 60 ∧ h * 3600 + m * 60 < 9223372036854775808 := by omega
            have n3 : -9223372036854775808 ≤ h * 3600 + m * 60 + 0 ∧ h * 3600 + m * 60 + 0 < 9223372036854775808 := by omega
            have ne0 := ne_text ha
            have nl0 := ne_listR ha
            have ne1 := ne_text hb
            have nl1 := ne_listR hb
            have hV : 0 ≤ h * 3600 + m * 60 ∧ h * 3600 + m * 60 ≤ 100000000000 := by omega
            have HVb := Lib.hid hV
            clear hV h72 h77 h83
            go_enter Tryz.func96, Tryz.ntmps96
            go_wp2_with (first
              | (go_at_call 95; ((with_reducible refine (k0 _).mono ?_); rintro e w0 ⟨rfl, hb0⟩; clear k0; have B0 := Lib.hid hb0))
              | (go_at_call 95; ((with_reducible refine (k1 _).mono ?_); rintro e w1 ⟨rfl, hb1⟩; clear k1; have B1 := Lib.hid (bstep B0.out hb1)))
              | (go_at_call 95; ((with_reducible refine (k2 _).mono ?_); rintro e w2 ⟨rfl, hb2⟩; clear k2; have B2 := Lib.hid (bstep B1.out hb2))))
            go_ret2
            exact ⟨h * 3600 + m * 60, by rw [G.out]; rfl, (fun x hx => by rw [G.out] at hx; cases hx), HVb.out, B2.out⟩
          · have b83 := numR_bound h83
            by_cases hc : c = []
            · subst hc
              have k2 : ∀ W, Calls Tryz.prog 95 #[.string ⟨(b).toArray⟩, .int .u8 83] W fun e w' => e = .returned (.tuple #[.int .i64 x, .string ⟨#[]⟩, .bool true]) ∧ Below W.heap.size W w' := fun W => numSome (c := 83) (by rw [mk_sizeR]; omega) (by rw [mk_listR]; assumption) W
              have G := Lib.hid (show goP 84 0 r = some (0 + h * 3600 + m * 60 + x) by rw [goT, h72]; simp only; rw [goH, if_neg ha, h77]; simp only; rw [goM, if_neg hb, h83]; rfl)
              have n0 : -9223372036854775808 ≤ h * 3600 ∧ h * 3600 < 9223372036854775808 := by omega
              have n1 : -9223372036854775808 ≤ m * 60 ∧ m * 60 < 9223372036854775808 := by omega
              have n2 : -9223372036854775808 ≤ h * 3600 + m * 60 ∧ h * 3600 + m * 60 < 9223372036854775808 := by omega
              have n3 : -9223372036854775808 ≤ h * 3600 + m * 60 + x ∧ h * 3600 + m * 60 + x < 9223372036854775808 := by omega
              have ne0 := ne_text ha
              have nl0 := ne_listR ha
              have ne1 := ne_text hb
              have nl1 := ne_listR hb
              have hV : 0 ≤ h * 3600 + m * 60 + x ∧ h * 3600 + m * 60 + x ≤ 100000000000 := by omega
              have HVb := Lib.hid hV
              clear hV h72 h77 h83
              go_enter Tryz.func96, Tryz.ntmps96
              go_wp2_with (first
                | (go_at_call 95; ((with_reducible refine (k0 _).mono ?_); rintro e w0 ⟨rfl, hb0⟩; clear k0; have B0 := Lib.hid hb0))
                | (go_at_call 95; ((with_reducible refine (k1 _).mono ?_); rintro e w1 ⟨rfl, hb1⟩; clear k1; have B1 := Lib.hid (bstep B0.out hb1)))
                | (go_at_call 95; ((with_reducible refine (k2 _).mono ?_); rintro e w2 ⟨rfl, hb2⟩; clear k2; have B2 := Lib.hid (bstep B1.out hb2))))
              go_ret2
              exact ⟨h * 3600 + m * 60 + x, by rw [G.out]; rfl, (fun x hx => by rw [G.out] at hx; have := Option.some.inj hx; omega), HVb.out, B2.out⟩
            · have k2 : ∀ W, Calls Tryz.prog 95 #[.string ⟨(b).toArray⟩, .int .u8 83] W fun e w' => e = .returned (.tuple #[.int .i64 x, .string ⟨(c).toArray⟩, .bool true]) ∧ Below W.heap.size W w' := fun W => numSome (c := 83) (by rw [mk_sizeR]; omega) (by rw [mk_listR]; assumption) W
              have G := Lib.hid (show goP 84 0 r = none by rw [goT, h72]; simp only; rw [goH, if_neg ha, h77]; simp only; rw [goM, if_neg hb, h83]; simp [hc])
              have n0 : -9223372036854775808 ≤ h * 3600 ∧ h * 3600 < 9223372036854775808 := by omega
              have n1 : -9223372036854775808 ≤ m * 60 ∧ m * 60 < 9223372036854775808 := by omega
              have n2 : -9223372036854775808 ≤ h * 3600 + m * 60 ∧ h * 3600 + m * 60 < 9223372036854775808 := by omega
              have n3 : -9223372036854775808 ≤ h * 3600 + m * 60 + x ∧ h * 3600 + m * 60 + x < 9223372036854775808 := by omega
              have ne0 := ne_text ha
              have nl0 := ne_listR ha
              have ne1 := ne_text hb
              have nl1 := ne_listR hb
              have ne2 := ne_text hc
              have nl2 := ne_listR hc
              have hV : 0 ≤ h * 3600 + m * 60 + x ∧ h * 3600 + m * 60 + x ≤ 100000000000 := by omega
              have HVb := Lib.hid hV
              clear hV h72 h77 h83
              go_enter Tryz.func96, Tryz.ntmps96
              go_wp2_with (first
                | (go_at_call 95; ((with_reducible refine (k0 _).mono ?_); rintro e w0 ⟨rfl, hb0⟩; clear k0; have B0 := Lib.hid hb0))
                | (go_at_call 95; ((with_reducible refine (k1 _).mono ?_); rintro e w1 ⟨rfl, hb1⟩; clear k1; have B1 := Lib.hid (bstep B0.out hb1)))
                | (go_at_call 95; ((with_reducible refine (k2 _).mono ?_); rintro e w2 ⟨rfl, hb2⟩; clear k2; have B2 := Lib.hid (bstep B1.out hb2))))
              go_ret2
              exact ⟨h * 3600 + m * 60 + x, by rw [G.out]; rfl, (fun x hx => by rw [G.out] at hx; cases hx), HVb.out, B2.out⟩
end Go.Proofs.YtdilnofolnabdaaGreatDoor
