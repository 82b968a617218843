/-
  The document's own answers of layer 13: a whole duration.
-/
import Derived.Test.YtdilnofolnabdaaDoorG30
namespace Go.Proofs.YtdilnofolnabdaaDoor
open Go.RowKit

theorem durB_no {sg : Int} {l : List UInt8} (h : ∀ r, l ≠ 80 :: r) : durB sg l = (0, 10) := by
  unfold durB
  split
  · rename_i r; exact absurd rfl (h r)
  · rfl
set_option maxRecDepth 100000 in
set_option maxHeartbeats 8000000 in
theorem refDur13_any (s : ByteArray) (hs : s.size ≤ 1048576) (w : World) :
    Calls Tryd.prog 6 #[.string s] w fun e w' => e = .returned (.tuple #[.int .i64 (durV s.data.toList).1, .int .i64 (durV s.data.toList).2]) ∧ Below w.heap.size w w' := by
  have hsl := listR s
  rcases hl : s.data.toList with _ | ⟨c, r⟩
  · have E : Hid (durV ([] : List UInt8) = (0, 10)) := Lib.hid rfl
    obtain rfl : s = ⟨#[]⟩ := by rw [← list_mkR s, hl]
    clear hl
    go_enter Tryd.func6, Tryd.ntmps6
    go_wp2
    go_ret2
    exact ⟨by rw [E.out]; rfl, Below.refl _ _⟩
  · by_cases hc : c = 43
    · subst hc
      have HA := Hd.of hl
      have h0 := HA.pos
      have ha0 := HA.at0 h0
      have hne := HA.ne
      have h1 := HA.one
      have HX := HA.tail
      have ha0' : s[0].toNat = 43 := ha0
      clear HA ha0
      have QL : r.length ≤ 1048576 := by rw [hl, List.length_cons] at hsl; omega
      have E : durV (43 :: r) = durB (1) r := rfl
      clear hl hsl
      rcases r with _ | ⟨c, q⟩
      · have HE : Hid (durB (1) ([] : List UInt8) = (0, 10)) := Lib.hid rfl
        have HX0 : s.extract 1 s.size = ⟨#[]⟩ := HX
        rw [E]
        clear E HX
        go_enter Tryd.func6, Tryd.ntmps6
        go_wp2
        go_ret2
        exact ⟨by rw [HE.out]; rfl, Below.refl _ _⟩
      · have HA2 : Hd (s.extract 1 s.size) c q := by rw [HX]; exact Hd.mk_of c q
        rw [E]
        have hsx : (s.extract 1 s.size).size = s.size - 1 := by rw [ByteArray.size_extract]; omega
        have h01 : 0 < s.size - 1 := by rw [← hsx]; exact HA2.pos
        have hi1 : 1 < s.size := by omega
        have hi2 : (1 : Int) ≤ ((s.size - 1 : Nat) : Int) := by omega
        have hg1 : ∀ p, (s.extract 1 s.size)[0]'p = s[1] := fun p => by rw [ByteArray.getElem_extract]
        have h0' := HA2.pos
        have hb0 := HA2.at0 h0'
        have hne' := HA2.ne
        have h1' := HA2.one
        have HX' := HA2.tail
        clear HA2
        by_cases hp : c = 80
        · subst hp
          have hb0' : ((s.extract 1 s.size))[0].toNat = 80 := hb0
          have QL2 : q.length ≤ 1048576 := by simp at QL; omega
          have kl := fun W => refLong13_any q QL2 W
          rw [← HX'] at kl
          rw [hsx] at kl
          have hb1' : s[1].toNat = 80 := by rw [← hg1 h0']; exact hb0'
          clear hsx hg1
          have HE : Hid (durB (1) (80 :: q) = match goP 80 0 q with | some n => ((1) * n, 0) | none => (0, 10)) := Lib.hid rfl
          clear hb0 HX' QL QL2 E HX
          rcases hg : goP 80 0 q with _ | n
          · rw [hg] at kl
            rw [hg] at HE
            clear hg
            go_enter Tryd.func6, Tryd.ntmps6
            go_wp2_with (go_at_call 31; ((with_reducible refine (kl _).mono ?_); rintro e w1 ⟨v, rfl, hv, hb, hb1⟩; clear kl hv))
            go_ret2
            exact ⟨by rw [HE.out]; rfl, hb1⟩
          · rw [hg] at kl
            have kl2 : ∀ W, Calls Tryd.prog 31 #[.string (((s.extract 1 s.size)).extract 1 (s.size - 1))] W fun e w' => e = .returned (.tuple #[.int .i64 n, .bool true]) ∧ (0 ≤ n ∧ n ≤ 10000000000000) ∧ Below W.heap.size W w' := fun W => (kl W).mono fun e w' ⟨v, he, hv, hb, hw⟩ => by obtain rfl := hv n rfl; exact ⟨he, hb, hw⟩
            rw [hg] at HE
            clear kl hg
            go_enter Tryd.func6, Tryd.ntmps6
            go_wp2_with (go_at_call 31; ((with_reducible refine (kl2 _).mono ?_); rintro e w1 ⟨rfl, hn, hb1⟩; clear kl2; have hn1 := hn.1; have hn2 := hn.2; have n0 : -9223372036854775808 ≤ -1 * n ∧ -1 * n < 9223372036854775808 := (by omega); have n1 : -9223372036854775808 ≤ 1 * n ∧ 1 * n < 9223372036854775808 := (by omega); have n2 : -9223372036854775808 ≤ n ∧ n < 9223372036854775808 := (by omega); have n3 : -9223372036854775808 ≤ -n ∧ -n < 9223372036854775808 := (by omega)))
            go_ret2
            refine ⟨by rw [HE.out]; first | rfl | simp, hb1⟩
        · have hq : ¬ ((s.extract 1 s.size))[0].toNat = 80 := fun h => hp (UInt8.toNat_inj.1 (hb0.symm.trans h))
          have hq2 := (byte_ne hq).1
          have hq3 := (byte_ne hq).2
          have hr1 : ¬ s[1].toNat = 80 := by rw [← hg1 h0']; exact hq
          have hr2 := (byte_ne hr1).1
          have hr3 := (byte_ne hr1).2
          clear hsx hg1
          have HE := Lib.hid (durB_no (sg := 1) (l := c :: q) (fun r e => hp (by injection e)))
          clear hb0 HX' hp QL E HX
          go_enter Tryd.func6, Tryd.ntmps6
          go_wp2
          go_ret2
          exact ⟨by rw [HE.out]; rfl, Below.refl _ _⟩
    · by_cases hc2 : c = 45
      · subst hc2
        have HA := Hd.of hl
        have h0 := HA.pos
        have ha0 := HA.at0 h0
        have hne := HA.ne
        have h1 := HA.one
        have HX := HA.tail
        have ha0' : s[0].toNat = 45 := ha0
        clear HA ha0
        have QL : r.length ≤ 1048576 := by rw [hl, List.length_cons] at hsl; omega
        have E : durV (45 :: r) = durB (-1) r := rfl
        clear hl hsl
        rcases r with _ | ⟨c, q⟩
        · have HE : Hid (durB (-1) ([] : List UInt8) = (0, 10)) := Lib.hid rfl
          have HX0 : s.extract 1 s.size = ⟨#[]⟩ := HX
          rw [E]
          clear E HX
          go_enter Tryd.func6, Tryd.ntmps6
          go_wp2
          go_ret2
          exact ⟨by rw [HE.out]; rfl, Below.refl _ _⟩
        · have HA2 : Hd (s.extract 1 s.size) c q := by rw [HX]; exact Hd.mk_of c q
          rw [E]
          have hsx : (s.extract 1 s.size).size = s.size - 1 := by rw [ByteArray.size_extract]; omega
          have h01 : 0 < s.size - 1 := by rw [← hsx]; exact HA2.pos
          have hi1 : 1 < s.size := by omega
          have hi2 : (1 : Int) ≤ ((s.size - 1 : Nat) : Int) := by omega
          have hg1 : ∀ p, (s.extract 1 s.size)[0]'p = s[1] := fun p => by rw [ByteArray.getElem_extract]
          have h0' := HA2.pos
          have hb0 := HA2.at0 h0'
          have hne' := HA2.ne
          have h1' := HA2.one
          have HX' := HA2.tail
          clear HA2
          by_cases hp : c = 80
          · subst hp
            have hb0' : ((s.extract 1 s.size))[0].toNat = 80 := hb0
            have QL2 : q.length ≤ 1048576 := by simp at QL; omega
            have kl := fun W => refLong13_any q QL2 W
            rw [← HX'] at kl
            rw [hsx] at kl
            have hb1' : s[1].toNat = 80 := by rw [← hg1 h0']; exact hb0'
            clear hsx hg1
            have HE : Hid (durB (-1) (80 :: q) = match goP 80 0 q with | some n => ((-1) * n, 0) | none => (0, 10)) := Lib.hid rfl
            clear hb0 HX' QL QL2 E HX
            rcases hg : goP 80 0 q with _ | n
            · rw [hg] at kl
              rw [hg] at HE
              clear hg
              go_enter Tryd.func6, Tryd.ntmps6
              go_wp2_with (go_at_call 31; ((with_reducible refine (kl _).mono ?_); rintro e w1 ⟨v, rfl, hv, hb, hb1⟩; clear kl hv))
              go_ret2
              exact ⟨by rw [HE.out]; rfl, hb1⟩
            · rw [hg] at kl
              have kl2 : ∀ W, Calls Tryd.prog 31 #[.string (((s.extract 1 s.size)).extract 1 (s.size - 1))] W fun e w' => e = .returned (.tuple #[.int .i64 n, .bool true]) ∧ (0 ≤ n ∧ n ≤ 10000000000000) ∧ Below W.heap.size W w' := fun W => (kl W).mono fun e w' ⟨v, he, hv, hb, hw⟩ => by obtain rfl := hv n rfl; exact ⟨he, hb, hw⟩
              rw [hg] at HE
              clear kl hg
              go_enter Tryd.func6, Tryd.ntmps6
              go_wp2_with (go_at_call 31; ((with_reducible refine (kl2 _).mono ?_); rintro e w1 ⟨rfl, hn, hb1⟩; clear kl2; have hn1 := hn.1; have hn2 := hn.2; have n0 : -9223372036854775808 ≤ -1 * n ∧ -1 * n < 9223372036854775808 := (by omega); have n1 : -9223372036854775808 ≤ 1 * n ∧ 1 * n < 9223372036854775808 := (by omega); have n2 : -9223372036854775808 ≤ n ∧ n < 9223372036854775808 := (by omega); have n3 : -9223372036854775808 ≤ -n ∧ -n < 9223372036854775808 := (by omega)))
              go_ret2
              refine ⟨by rw [HE.out]; first | rfl | simp, hb1⟩
          · have hq : ¬ ((s.extract 1 s.size))[0].toNat = 80 := fun h => hp (UInt8.toNat_inj.1 (hb0.symm.trans h))
            have hq2 := (byte_ne hq).1
            have hq3 := (byte_ne hq).2
            have hr1 : ¬ s[1].toNat = 80 := by rw [← hg1 h0']; exact hq
            have hr2 := (byte_ne hr1).1
            have hr3 := (byte_ne hr1).2
            clear hsx hg1
            have HE := Lib.hid (durB_no (sg := -1) (l := c :: q) (fun r e => hp (by injection e)))
            clear hb0 HX' hp QL E HX
            go_enter Tryd.func6, Tryd.ntmps6
            go_wp2
            go_ret2
            exact ⟨by rw [HE.out]; rfl, Below.refl _ _⟩
      · have HA2 := Hd.of hl
        have X : s = s := rfl
        have E : durV (c :: r) = durB 1 (c :: r) := by unfold durV; split <;> simp_all
        have HX := HA2.tail
        have QL : (c :: r).length ≤ 1048576 := by rw [hl] at hsl; omega
        rw [E]
        have hs0 := HA2.pos
        have h43 : ¬ s[0].toNat = 43 := fun h => hc (UInt8.toNat_inj.1 ((HA2.at0 hs0).symm.trans h))
        have h45 : ¬ s[0].toNat = 45 := fun h => hc2 (UInt8.toNat_inj.1 ((HA2.at0 hs0).symm.trans h))
        have h43a := (byte_ne h43).1
        have h43b := (byte_ne h43).2
        have h45a := (byte_ne h45).1
        have h45b := (byte_ne h45).2
        have h43i : ¬ (((s[0].toNat : Nat) : Int) = 43) := by omega
        have h45i : ¬ (((s[0].toNat : Nat) : Int) = 45) := by omega
        have h43c : ((((s[0].toNat : Nat) : Int) == 43) = false) := by rw [beq_eq_false_iff_ne]; exact h43i
        have h45c : ((((s[0].toNat : Nat) : Int) == 45) = false) := by rw [beq_eq_false_iff_ne]; exact h45i
        have h43d : ((((s[0].toNat : Nat) : Int) != 43) = true) := by simpa using h43i
        have h45d : ((((s[0].toNat : Nat) : Int) != 45) = true) := by simpa using h45i
        clear hl hsl hc hc2 X
        have h0' := HA2.pos
        have hb0 := HA2.at0 h0'
        have hne' := HA2.ne
        have h1' := HA2.one
        have HX' := HA2.tail
        clear HA2
        by_cases hp : c = 80
        · subst hp
          have hb0' : (s)[0].toNat = 80 := hb0
          have QL2 : r.length ≤ 1048576 := by simp at QL; omega
          have kl := fun W => refLong13_any r QL2 W
          rw [← HX'] at kl
          have HE : Hid (durB (1) (80 :: r) = match goP 80 0 r with | some n => ((1) * n, 0) | none => (0, 10)) := Lib.hid rfl
          clear hb0 HX' QL QL2 E HX
          rcases hg : goP 80 0 r with _ | n
          · rw [hg] at kl
            rw [hg] at HE
            clear hg
            go_enter Tryd.func6, Tryd.ntmps6
            go_wp2_with (go_at_call 31; ((with_reducible refine (kl _).mono ?_); rintro e w1 ⟨v, rfl, hv, hb, hb1⟩; clear kl hv))
            go_ret2
            exact ⟨by rw [HE.out]; rfl, hb1⟩
          · rw [hg] at kl
            have kl2 : ∀ W, Calls Tryd.prog 31 #[.string ((s).extract 1 s.size)] W fun e w' => e = .returned (.tuple #[.int .i64 n, .bool true]) ∧ (0 ≤ n ∧ n ≤ 10000000000000) ∧ Below W.heap.size W w' := fun W => (kl W).mono fun e w' ⟨v, he, hv, hb, hw⟩ => by obtain rfl := hv n rfl; exact ⟨he, hb, hw⟩
            rw [hg] at HE
            clear kl hg
            go_enter Tryd.func6, Tryd.ntmps6
            go_wp2_with (go_at_call 31; ((with_reducible refine (kl2 _).mono ?_); rintro e w1 ⟨rfl, hn, hb1⟩; clear kl2; have hn1 := hn.1; have hn2 := hn.2; have n0 : -9223372036854775808 ≤ -1 * n ∧ -1 * n < 9223372036854775808 := (by omega); have n1 : -9223372036854775808 ≤ 1 * n ∧ 1 * n < 9223372036854775808 := (by omega); have n2 : -9223372036854775808 ≤ n ∧ n < 9223372036854775808 := (by omega); have n3 : -9223372036854775808 ≤ -n ∧ -n < 9223372036854775808 := (by omega)))
            go_ret2
            refine ⟨by rw [HE.out]; first | rfl | simp, hb1⟩
        · have hq : ¬ (s)[0].toNat = 80 := fun h => hp (UInt8.toNat_inj.1 (hb0.symm.trans h))
          have hq2 := (byte_ne hq).1
          have hq3 := (byte_ne hq).2
          have HE := Lib.hid (durB_no (sg := 1) (l := c :: r) (fun r e => hp (by injection e)))
          clear hb0 HX' hp QL E HX
          go_enter Tryd.func6, Tryd.ntmps6
          go_wp2
          go_ret2
          exact ⟨by rw [HE.out]; rfl, Below.refl _ _⟩
end Go.Proofs.YtdilnofolnabdaaDoor
