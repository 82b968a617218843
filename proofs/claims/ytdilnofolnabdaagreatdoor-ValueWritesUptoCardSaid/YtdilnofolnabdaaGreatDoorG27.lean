/-
  The document's own answers of layer 13: what stands behind the P, and a whole duration.
-/
import Derived.Test.YtdilnofolnabdaaGreatDoorG26
import Derived.Test.YtdilnofolnabdaaGreatDoorG24
namespace Go.Proofs.YtdilnofolnabdaaGreatDoor
open Go.RowKit

/-- A text that has a first byte. -/
structure Hd (A : ByteArray) (c : UInt8) (q : List UInt8) : Prop where
  pos : 0 < A.size
  at0 : ∀ p : 0 < A.size, (A[0]'p).toNat = c.toNat
  ne : A.toList.isEmpty = false
  one : (1 : Int) ≤ (A.size : Int)
  tail : A.extract 1 A.size = ⟨q.toArray⟩
theorem Hd.of {A : ByteArray} {c : UInt8} {q : List UInt8} (h : A.data.toList = c :: q) : Hd A c q := by
  have hl := listR A
  rw [h, List.length_cons] at hl
  have hp : 0 < A.size := by omega
  refine ⟨hp, ?_, ?_, by omega, (dropOne A h).1⟩
  · intro p
    have := getR hp
    rw [h] at this
    simp only [List.getElem?_cons_zero, Option.some.injEq] at this
    rw [this]
  · rw [ByteArray.toList_eq, h]; rfl
theorem Hd.mk_of (c : UInt8) (q : List UInt8) : Hd ⟨(c :: q).toArray⟩ c q := Hd.of (mk_listR _)
theorem goD_T (a : Int) (q : List UInt8) : goP 68 a (84 :: q) = goP 84 a q := by rw [goD, if_neg (by simp)]; rfl
theorem goD_no {a : Int} {c : UInt8} (h : c ≠ 84) (q : List UInt8) : goP 68 a (c :: q) = none := by
  rw [goD, if_neg (by simp)]
  split
  · rename_i e; injection e with e1; exact absurd e1 h
  · rfl
theorem goPP_T {q : List UInt8} (a : Int) (h1 : numR (84 :: q) 87 = none) (h2 : numR (84 :: q) 68 = none) : goP 80 a (84 :: q) = goP 84 a q := by rw [goPP, h1, h2]; rfl
theorem goPP_no {c : UInt8} (hc : c ≠ 84) {q : List UInt8} (a : Int) (h1 : numR (c :: q) 87 = none) (h2 : numR (c :: q) 68 = none) : goP 80 a (c :: q) = none := by
  rw [goPP, h1, h2]
  simp only
  split
  · rename_i e; injection e with e1; exact absurd e1 hc
  · rfl
theorem runP_add (k : Int) : ∀ (xs : List (UInt8 × List UInt8)) (c : UInt8) (a : Int), runP (c, a + k) xs = (runP (c, a) xs).map fun s => (s.1, s.2 + k)
  | [], c, a => rfl
  | x :: xs, c, a => by
    simp only [runP]
    unfold stepP
    simp only
    split
    · simp only [Option.bind_some]
      rw [show a + k + (cntP x.1 x.2).1 * unitP x.1 = a + (cntP x.1 x.2).1 * unitP x.1 + k by omega]
      exact runP_add k xs x.1 _
    · rfl
theorem goP_add (c : UInt8) (k : Int) (l : List UInt8) : goP c (0 + k) l = (goP c 0 l).map (k + ·) := by
  unfold goP
  rw [runP_add]
  cases runP (c, 0) (partsA [] l) with
  | none => rfl
  | some s =>
    simp only [Option.map_some, Option.bind_some, finP]
    split
    · rfl
    · simp only [Option.map_some]; congr 1; omega
set_option maxRecDepth 100000 in
set_option maxHeartbeats 8000000 in
theorem refLong13_any (r : List UInt8) (hr : r.length ≤ 1048576) (w : World) :
    Calls Tryz.prog 70 #[.string ⟨r.toArray⟩] w fun e w' => ∃ v, e = .returned (.tuple #[.int .i64 v, .bool (goP 80 0 r).isSome]) ∧ (∀ x, goP 80 0 r = some x → v = x) ∧ (0 ≤ v ∧ v ≤ 10000000000000) ∧ Below w.heap.size w w' := by
  rcases h87 : numR r 87 with _ | ⟨v, a⟩
  · rcases h68 : numR r 68 with _ | ⟨d, a⟩
    · rcases r with _ | ⟨c, q⟩
      · have k0 : ∀ W, Calls Tryz.prog 95 #[.string ⟨([]).toArray⟩, .int .u8 87] W fun e w' => e = .returned (.tuple #[.int .i64 0, .string ⟨([]).toArray⟩, .bool false]) ∧ Below W.heap.size W w' := fun W => numNone (c := 87) (by rw [mk_sizeR]; omega) (by rw [mk_listR]; assumption) W
        have k1 : ∀ W, Calls Tryz.prog 95 #[.string ⟨([]).toArray⟩, .int .u8 68] W fun e w' => e = .returned (.tuple #[.int .i64 0, .string ⟨([]).toArray⟩, .bool false]) ∧ Below W.heap.size W w' := fun W => numNone (c := 68) (by rw [mk_sizeR]; omega) (by rw [mk_listR]; assumption) W
        have G := Lib.hid (show goP 80 0 [] = none from rfl)
        have HV := Lib.hid (show 0 ≤ (0 : Int) ∧ (0 : Int) ≤ 10000000000000 by omega)
        clear h87 h68
        go_enter Tryz.func70, Tryz.ntmps70
        go_wp2_with (first
          | (go_at_call 95; ((with_reducible refine (k0 _).mono ?_); rintro e w0 ⟨rfl, hb0⟩; clear k0; have B0 := Lib.hid hb0))
          | (go_at_call 95; ((with_reducible refine (k1 _).mono ?_); rintro e w1 ⟨rfl, hb1⟩; clear k1; have B1 := Lib.hid (bstep B0.out hb1))))
        go_ret2
        exact ⟨(0 : Int), by rw [G.out]; rfl, (fun x hx => by rw [G.out] at hx; cases hx), HV.out, B1.out⟩
      · have HA := Hd.mk_of c q
        have k0 : ∀ W, Calls Tryz.prog 95 #[.string ⟨(c :: q).toArray⟩, .int .u8 87] W fun e w' => e = .returned (.tuple #[.int .i64 0, .string ⟨(c :: q).toArray⟩, .bool false]) ∧ Below W.heap.size W w' := fun W => numNone (c := 87) (by rw [mk_sizeR]; omega) (by rw [mk_listR]; assumption) W
        have k1 : ∀ W, Calls Tryz.prog 95 #[.string ⟨(c :: q).toArray⟩, .int .u8 68] W fun e w' => e = .returned (.tuple #[.int .i64 0, .string ⟨(c :: q).toArray⟩, .bool false]) ∧ Below W.heap.size W w' := fun W => numNone (c := 68) (by rw [mk_sizeR]; omega) (by rw [mk_listR]; assumption) W
        by_cases hc : c = 84
        · subst hc
          have G := Lib.hid (goPP_T 0 h87 h68)
          have QL := Lib.hid (show q.length ≤ 1048576 by simp at hr; omega)
          generalize (⟨(84 :: q).toArray⟩ : ByteArray) = A at *
          have h0 := HA.pos
          have ha0 := HA.at0 h0
          have hne := HA.ne
          have h1 := HA.one
          have HX := Lib.hid HA.tail
          clear HA
          have ha0' : A[0].toNat = 84 := ha0
          have kc : ∀ W, Calls Tryz.prog 96 #[.string (A.extract 1 A.size)] W fun e w' => ∃ v, e = .returned (.tuple #[.int .i64 v, .bool (goP 84 0 q).isSome]) ∧ (∀ x, goP 84 0 q = some x → v = x) ∧ (0 ≤ v ∧ v ≤ 100000000000) ∧ Below W.heap.size W w' := fun W => by rw [HX.out]; exact refClk13_any q QL.out W
          clear h87 h68 hr ha0
          go_enter Tryz.func70, Tryz.ntmps70
          go_wp2_with (first
            | (go_at_call 95; ((with_reducible refine (k0 _).mono ?_); rintro e w0 ⟨rfl, hb0⟩; clear k0; have B0 := Lib.hid hb0))
            | (go_at_call 95; ((with_reducible refine (k1 _).mono ?_); rintro e w1 ⟨rfl, hb1⟩; clear k1; have B1 := Lib.hid (bstep B0.out hb1)))
            | (go_at_call 96; ((with_reducible refine (kc _).mono ?_); rintro e w2 ⟨t, rfl, ht, hbt, hb2⟩; clear kc; have B2 := Lib.hid (bstep B1.out hb2); have HT := Lib.hid ht; clear ht; have ht1 := hbt.1; have ht2 := hbt.2; skip)))
          go_ret2
          refine ⟨t, by rw [G.out]; rfl, (fun x hx => ?_), ⟨ht1, by omega⟩, B2.out⟩
          rw [G.out] at hx
          exact HT.out x hx
        · have G := Lib.hid (goPP_no hc 0 h87 h68)
          generalize (⟨(c :: q).toArray⟩ : ByteArray) = A at *
          have h0 := HA.pos
          have ha0 := HA.at0 h0
          have hne := HA.ne
          have h1 := HA.one
          have HX := Lib.hid HA.tail
          clear HA
          have hq : ¬ A[0].toNat = 84 := fun h => hc (UInt8.toNat_inj.1 (ha0.symm.trans h))
          have hq2 := (byte_ne hq).1
          have hq3 := (byte_ne hq).2
          clear h87 h68 hr ha0 hc
          go_enter Tryz.func70, Tryz.ntmps70
          go_wp2_with (first
            | (go_at_call 95; ((with_reducible refine (k0 _).mono ?_); rintro e w0 ⟨rfl, hb0⟩; clear k0; have B0 := Lib.hid hb0))
            | (go_at_call 95; ((with_reducible refine (k1 _).mono ?_); rintro e w1 ⟨rfl, hb1⟩; clear k1; have B1 := Lib.hid (bstep B0.out hb1))))
          go_ret2
          exact ⟨0, by rw [G.out]; rfl, (fun x hx => by rw [G.out] at hx; cases hx), by omega, B1.out⟩
    · have b68 := numR_bound h68
      have k0 : ∀ W, Calls Tryz.prog 95 #[.string ⟨(r).toArray⟩, .int .u8 87] W fun e w' => e = .returned (.tuple #[.int .i64 0, .string ⟨(r).toArray⟩, .bool false]) ∧ Below W.heap.size W w' := fun W => numNone (c := 87) (by rw [mk_sizeR]; omega) (by rw [mk_listR]; assumption) W
      rcases a with _ | ⟨c, q⟩
      · have k1 : ∀ W, Calls Tryz.prog 95 #[.string ⟨(r).toArray⟩, .int .u8 68] W fun e w' => e = .returned (.tuple #[.int .i64 d, .string ⟨#[]⟩, .bool true]) ∧ Below W.heap.size W w' := fun W => numSome (c := 68) (by rw [mk_sizeR]; omega) (by rw [mk_listR]; assumption) W
        have G := Lib.hid (show goP 80 0 r = some (0 + d * 86400) by rw [goPP, h87, h68]; rfl)
        have n0 : -9223372036854775808 ≤ d * 86400 ∧ d * 86400 < 9223372036854775808 := by omega
        have HV := Lib.hid (show 0 ≤ d * 86400 ∧ d * 86400 ≤ 10000000000000 by omega)
        clear h87 h68
        go_enter Tryz.func70, Tryz.ntmps70
        go_wp2_with (first
          | (go_at_call 95; ((with_reducible refine (k0 _).mono ?_); rintro e w0 ⟨rfl, hb0⟩; clear k0; have B0 := Lib.hid hb0))
          | (go_at_call 95; ((with_reducible refine (k1 _).mono ?_); rintro e w1 ⟨rfl, hb1⟩; clear k1; have B1 := Lib.hid (bstep B0.out hb1))))
        go_ret2
        exact ⟨d * 86400, by rw [G.out]; rfl, (fun x hx => by rw [G.out] at hx; have := Option.some.inj hx; omega), HV.out, B1.out⟩
      · have k1 : ∀ W, Calls Tryz.prog 95 #[.string ⟨(r).toArray⟩, .int .u8 68] W fun e w' => e = .returned (.tuple #[.int .i64 d, .string ⟨(c :: q).toArray⟩, .bool true]) ∧ Below W.heap.size W w' := fun W => numSome (c := 68) (by rw [mk_sizeR]; omega) (by rw [mk_listR]; assumption) W
        have HA := Hd.mk_of c q
        by_cases hc : c = 84
        · subst hc
          have G := Lib.hid (show goP 80 0 r = goP 84 (0 + d * 86400) q by rw [goPP, h87, h68]; simp only; rw [goD_T])
          have QL := Lib.hid (show q.length ≤ 1048576 by have := b68.2.2; simp at this; omega)
          have bd := b68.1
          have bd2 := b68.2.1
          clear b68
          generalize (⟨(84 :: q).toArray⟩ : ByteArray) = A at *
          have h0 := HA.pos
          have ha0 := HA.at0 h0
          have hne := HA.ne
          have h1 := HA.one
          have HX := Lib.hid HA.tail
          clear HA
          have ha0' : A[0].toNat = 84 := ha0
          have kc : ∀ W, Calls Tryz.prog 96 #[.string (A.extract 1 A.size)] W fun e w' => ∃ v, e = .returned (.tuple #[.int .i64 v, .bool (goP 84 0 q).isSome]) ∧ (∀ x, goP 84 0 q = some x → v = x) ∧ (0 ≤ v ∧ v ≤ 100000000000) ∧ Below W.heap.size W w' := fun W => by rw [HX.out]; exact refClk13_any q QL.out W
          have n0 : -9223372036854775808 ≤ d * 86400 ∧ d * 86400 < 9223372036854775808 := by omega
          clear h87 h68 ha0
          go_enter Tryz.func70, Tryz.ntmps70
          go_wp2_with (first
            | (go_at_call 95; ((with_reducible refine (k0 _).mono ?_); rintro e w0 ⟨rfl, hb0⟩; clear k0; have B0 := Lib.hid hb0))
            | (go_at_call 95; ((with_reducible refine (k1 _).mono ?_); rintro e w1 ⟨rfl, hb1⟩; clear k1; have B1 := Lib.hid (bstep B0.out hb1)))
            | (go_at_call 96; ((with_reducible refine (kc _).mono ?_); rintro e w2 ⟨t, rfl, ht, hbt, hb2⟩; clear kc; have B2 := Lib.hid (bstep B1.out hb2); have HT := Lib.hid ht; clear ht; have ht1 := hbt.1; have ht2 := hbt.2; have n1 : -9223372036854775808 ≤ d * 86400 + t ∧ d * 86400 + t < 9223372036854775808 := (by omega))))
          go_ret2
          refine ⟨d * 86400 + t, by rw [G.out, goP_add]; rw [Option.isSome_map]; rfl, (fun x hx => ?_), by omega, B2.out⟩
          rw [G.out, goP_add] at hx
          obtain ⟨y, hy, rfl⟩ := Option.map_eq_some_iff.1 hx
          have := HT.out y hy; omega
        · have G := Lib.hid (show goP 80 0 r = none by rw [goPP, h87, h68]; simp only; rw [goD_no hc])
          generalize (⟨(c :: q).toArray⟩ : ByteArray) = A at *
          have h0 := HA.pos
          have ha0 := HA.at0 h0
          have hne := HA.ne
          have h1 := HA.one
          have HX := Lib.hid HA.tail
          clear HA
          have hq : ¬ A[0].toNat = 84 := fun h => hc (UInt8.toNat_inj.1 (ha0.symm.trans h))
          have hq2 := (byte_ne hq).1
          have hq3 := (byte_ne hq).2
          clear h87 h68 ha0 hc b68
          go_enter Tryz.func70, Tryz.ntmps70
          go_wp2_with (first
            | (go_at_call 95; ((with_reducible refine (k0 _).mono ?_); rintro e w0 ⟨rfl, hb0⟩; clear k0; have B0 := Lib.hid hb0))
            | (go_at_call 95; ((with_reducible refine (k1 _).mono ?_); rintro e w1 ⟨rfl, hb1⟩; clear k1; have B1 := Lib.hid (bstep B0.out hb1))))
          go_ret2
          exact ⟨0, by rw [G.out]; rfl, (fun x hx => by rw [G.out] at hx; cases hx), by omega, B1.out⟩
  · have b87 := numR_bound h87
    have n0 : -9223372036854775808 ≤ v * 604800 ∧ v * 604800 < 9223372036854775808 := by omega
    have HV := Lib.hid (show 0 ≤ v * 604800 ∧ v * 604800 ≤ 10000000000000 by omega)
    by_cases ha : a = []
    · subst ha
      have k0 : ∀ W, Calls Tryz.prog 95 #[.string ⟨(r).toArray⟩, .int .u8 87] W fun e w' => e = .returned (.tuple #[.int .i64 v, .string ⟨#[]⟩, .bool true]) ∧ Below W.heap.size W w' := fun W => numSome (c := 87) (by rw [mk_sizeR]; omega) (by rw [mk_listR]; assumption) W
      have G := Lib.hid (show goP 80 0 r = some (0 + v * 604800) by rw [goPP, h87]; rfl)
      clear h87 b87
      go_enter Tryz.func70, Tryz.ntmps70
      go_wp2_with (first
        | (go_at_call 95; ((with_reducible refine (k0 _).mono ?_); rintro e w0 ⟨rfl, hb0⟩; clear k0; have B0 := Lib.hid hb0)))
      go_ret2
      exact ⟨v * 604800, by rw [G.out]; rfl, (fun x hx => by rw [G.out] at hx; have := Option.some.inj hx; omega), HV.out, B0.out⟩
    · have k0 : ∀ W, Calls Tryz.prog 95 #[.string ⟨(r).toArray⟩, .int .u8 87] W fun e w' => e = .returned (.tuple #[.int .i64 v, .string ⟨(a).toArray⟩, .bool true]) ∧ Below W.heap.size W w' := fun W => numSome (c := 87) (by rw [mk_sizeR]; omega) (by rw [mk_listR]; assumption) W
      have G := Lib.hid (show goP 80 0 r = none by rw [goPP, h87]; simp only; rw [if_neg ha])
      have ne0 := ne_text ha
      have nl0 := ne_listR ha
      clear h87 b87
      go_enter Tryz.func70, Tryz.ntmps70
      go_wp2_with (first
        | (go_at_call 95; ((with_reducible refine (k0 _).mono ?_); rintro e w0 ⟨rfl, hb0⟩; clear k0; have B0 := Lib.hid hb0)))
      go_ret2
      exact ⟨v * 604800, by rw [G.out]; rfl, (fun x hx => by rw [G.out] at hx; cases hx), HV.out, B0.out⟩
end Go.Proofs.YtdilnofolnabdaaGreatDoor
