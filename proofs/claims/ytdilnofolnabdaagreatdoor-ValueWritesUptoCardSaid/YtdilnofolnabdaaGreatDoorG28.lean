/-
  The document's own answers of layer 13: a whole duration.
-/
import Derived.Test.YtdilnofolnabdaaGreatDoorG27
import Derived.Test.YtdilnofolnabdaaGreatDoorG19
import Derived.Test.YtdilnofolnabdaaGreatDoorG10
namespace Go.Proofs.YtdilnofolnabdaaGreatDoor
open Go.RowKit

theorem durB_no {sg : Int} {l : List UInt8} (h : ∀ r, l ≠ 80 :: r) : durB sg l = (0, 10) := by
  unfold durB
  split
  · rename_i r; exact absurd rfl (h r)
  · rfl
set_option maxRecDepth 100000 in
set_option maxHeartbeats 8000000 in
theorem refDur13_any (s : ByteArray) (hs : s.size ≤ 1048576) (w : World) :
    Calls Tryz.prog 47 #[.string s] w fun e w' => e = .returned (.tuple #[.int .i64 (durV s.data.toList).1, .int .i64 (durV s.data.toList).2]) ∧ Below w.heap.size w w' := by
  have hsl := listR s
  rcases hl : s.data.toList with _ | ⟨c, r⟩
  · have E : Hid (durV ([] : List UInt8) = (0, 10)) := Lib.hid rfl
    obtain rfl : s = ⟨#[]⟩ := by rw [← list_mkR s, hl]
    clear hl
    go_enter Tryz.func47, Tryz.ntmps47
    go_wp2
    go_ret2
    exact ⟨by rw [E.out]; rfl, Below.refl _ _⟩
  · by_cases hc : c = 43
    · subst hc
      have HA := Hd.of hl
      have h0 := HA.pos
      have ha0 := HA.at0 h0
      have hne := HA.ne
      have h1 := HA.one
      have HX := HA.tail
      have ha0' : s[0].toNat = 43 := ha0
      clear HA ha0
      have QL : r.length ≤ 1048576 := by rw [hl, List.length_cons] at hsl; omega
      have E : durV (43 :: r) = durB (1) r := rfl
      clear hl hsl
      rcases r with _ | ⟨c, q⟩
      · have HE : Hid (durB (1) ([] : List UInt8) = (0, 10)) := Lib.hid rfl
        have HX0 : s.extract 1 s.size = ⟨#[]⟩ := HX
        rw [E]
        clear E HX
        go_enter Tryz.func47, Tryz.ntmps47
        go_wp2
        go_ret2
        exact ⟨by rw [HE.out]; rfl, Below.refl _ _⟩
      · have HA2 : Hd (s.extract 1 s.size) c q := by rw [HX]; exact Hd.mk_of c q
        rw [E]
        have hsx : (s.extract 1 s.size).size = s.size - 1 := by rw [ByteArray.size_extract]; omega
        have h01 : 0 < s.size - 1 := by rw [← hsx]; exact HA2.pos
        have hi1 : 1 < s.size := by omega
        have hi2 : (1 : Int) ≤ ((s.size - 1 : Nat) : Int) := by omega
        have hg1 : ∀ p, (s.extract 1 s.size)[0]'p = s[1] := fun p => by rw [ByteArray.getElem_extract]
        have h0' := HA2.pos
        have hb0 := HA2.at0 h0'
        have hne' := HA2.ne
        have h1' := HA2.one
        have HX' := HA2.tail
        clear HA2
        by_cases hp : c = 80
        · subst hp
          have hb0' : ((s.extract 1 s.size))[0].toNat = 80 := hb0
          have QL2 : q.length ≤ 1048576 := by simp at QL; omega
          have kl := fun W => refLong13_any q QL2 W
          rw [← HX'] at kl
          rw [hsx] at kl
          have hb1' : s[1].toNat = 80 := by rw [← hg1 h0']; exact hb0'
          clear hsx hg1
          have HE : Hid (durB (1) (80 :: q) = match goP 80 0 q with | some n => ((1) * n, 0) | none => (0, 10)) := Lib.hid rfl
          clear hb0 HX' QL QL2 E HX
          rcases hg : goP 80 0 q with _ | n
          · rw [hg] at kl
            rw [hg] at HE
            clear hg
            go_enter Tryz.func47, Tryz.ntmps47
            go_wp2_with (go_at_call 70; ((with_reducible refine (kl _).mono ?_); rintro e w1 ⟨v, rfl, hv, hb, hb1⟩; clear kl hv))
            go_ret2
            exact ⟨by rw [HE.out]; rfl, hb1⟩
          · rw [hg] at kl
            have kl2 : ∀ W, Calls Tryz.prog 70 #[.string (((s.extract 1 s.size)).extract 1 (s.size - 1))] W fun e w' => e = .returned (.tuple #[.int .i64 n, .bool true]) ∧ (0 ≤ n ∧ n ≤ 10000000000000) ∧ Below W.heap.size W w' := fun W => (kl W).mono fun e w' ⟨v, he, hv, hb, hw⟩ => by obtain rfl := hv n rfl; exact ⟨he, hb, hw⟩
            rw [hg] at HE
            clear kl hg
            go_enter Tryz.func47, Tryz.ntmps47
            go_wp2_with (go_at_call 70; ((with_reducible refine (kl2 _).mono ?_); rintro e w1 ⟨rfl, hn, hb1⟩; clear kl2; have hn1 := hn.1; have hn2 := hn.2; have n0 : -9223372036854775808 ≤ -1 * n ∧ -1 * n < 9223372036854775808 := (by omega); have n1 : -9223372036854775808 ≤ 1 * n ∧ 1 * n < 9223372036854775808 := (by omega); have n2 : -9223372036854775808 ≤ n ∧ n < 9223372036854775808 := (by omega); have n3 : -9223372036854775808 ≤ -n ∧ -n < 9223372036854775808 := (by omega)))
            go_ret2
            refine ⟨by rw [HE.out]; first | rfl | simp, hb1⟩
        · have hq : ¬ ((s.extract 1 s.size))[0].toNat = 80 := fun h => hp (UInt8.toNat_inj.1 (hb0.symm.trans h))
          have hq2 := (byte_ne hq).1
          have hq3 := (byte_ne hq).2
          have hr1 : ¬ s[1].toNat = 80 := by rw [← hg1 h0']; exact hq
          have hr2 := (byte_ne hr1).1
          have hr3 := (byte_ne hr1).2
          clear hsx hg1
          have HE := Lib.hid (durB_no (sg := 1) (l := c :: q) (fun r e => hp (by injection e)))
          clear hb0 HX' hp QL E HX
          go_enter Tryz.func47, Tryz.ntmps47
          go_wp2
          go_ret2
          exact ⟨by rw [HE.out]; rfl, Below.refl _ _⟩
    · by_cases hc2 : c = 45
      · subst hc2
        have HA := Hd.of hl
        have h0 := HA.pos
        have ha0 := HA.at0 h0
        have hne := HA.ne
        have h1 := HA.one
        have HX := HA.tail
        have ha0' : s[0].toNat = 45 := ha0
        clear HA ha0
        have QL : r.length ≤ 1048576 := by rw [hl, List.length_cons] at hsl; omega
        have E : durV (45 :: r) = durB (-1) r := rfl
        clear hl hsl
        rcases r with _ | ⟨c, q⟩
        · have HE : Hid (durB (-1) ([] : List UInt8) = (0, 10)) := Lib.hid rfl
          have HX0 : s.extract 1 s.size = ⟨#[]⟩ := HX
          rw [E]
          clear E HX
          go_enter Tryz.func47, Tryz.ntmps47
          go_wp2
          go_ret2
          exact ⟨by rw [HE.out]; rfl, Below.refl _ _⟩
        · have HA2 : Hd (s.extract 1 s.size) c q := by rw [HX]; exact Hd.mk_of c q
          rw [E]
          have hsx : (s.extract 1 s.size).size = s.size - 1 := by rw [ByteArray.size_extract]; omega
          have h01 : 0 < s.size - 1 := by rw [← hsx]; exact HA2.pos
          have hi1 : 1 < s.size := by omega
          have hi2 : (1 : Int) ≤ ((s.size - 1 : Nat) : Int) := by omega
          have hg1 : ∀ p, (s.extract 1 s.size)[0]'p = s[1] := fun p => by rw [ByteArray.getElem_extract]
          have h0' := HA2.pos
          have hb0 := HA2.at0 h0'
          have hne' := HA2.ne
          have h1' := HA2.one
          have HX' := HA2.tail
          clear HA2
          by_cases hp : c = 80
          · subst hp
            have hb0' : ((s.extract 1 s.size))[0].toNat = 80 := hb0
            have QL2 : q.length ≤ 1048576 := by simp at QL; omega
            have kl := fun W => refLong13_any q QL2 W
            rw [← HX'] at kl
            rw [hsx] at kl
            have hb1' : s[1].toNat = 80 := by rw [← hg1 h0']; exact hb0'
            clear hsx hg1
            have HE : Hid (durB (-1) (80 :: q) = match goP 80 0 q with | some n => ((-1) * n, 0) | none => (0, 10)) := Lib.hid rfl
            clear hb0 HX' QL QL2 E HX
            rcases hg : goP 80 0 q with _ | n
            · rw [hg] at kl
              rw [hg] at HE
              clear hg
              go_enter Tryz.func47, Tryz.ntmps47
              go_wp2_with (go_at_call 70; ((with_reducible refine (kl _).mono ?_); rintro e w1 ⟨v, rfl, hv, hb, hb1⟩; clear kl hv))
              go_ret2
              exact ⟨by rw [HE.out]; rfl, hb1⟩
            · rw [hg] at kl
              have kl2 : ∀ W, Calls Tryz.prog 70 #[.string (((s.extract 1 s.size)).extract 1 (s.size - 1))] W fun e w' => e = .returned (.tuple #[.int .i64 n, .bool true]) ∧ (0 ≤ n ∧ n ≤ 10000000000000) ∧ Below W.heap.size W w' := fun W => (kl W).mono fun e w' ⟨v, he, hv, hb, hw⟩ => by obtain rfl := hv n rfl; exact ⟨he, hb, hw⟩
              rw [hg] at HE
              clear kl hg
              go_enter Tryz.func47, Tryz.ntmps47
              go_wp2_with (go_at_call 70; ((with_reducible refine (kl2 _).mono ?_); rintro e w1 ⟨rfl, hn, hb1⟩; clear kl2; have hn1 := hn.1; have hn2 := hn.2; have n0 : -9223372036854775808 ≤ -1 * n ∧ -1 * n < 9223372036854775808 := (by omega); have n1 : -9223372036854775808 ≤ 1 * n ∧ 1 * n < 9223372036854775808 := (by omega); have n2 : -9223372036854775808 ≤ n ∧ n < 9223372036854775808 := (by omega); have n3 : -9223372036854775808 ≤ -n ∧ -n < 9223372036854775808 := (by omega)))
              go_ret2
              refine ⟨by rw [HE.out]; first | rfl | simp, hb1⟩
          · have hq : ¬ ((s.extract 1 s.size))[0].toNat = 80 := fun h => hp (UInt8.toNat_inj.1 (hb0.symm.trans h))
            have hq2 := (byte_ne hq).1
            have hq3 := (byte_ne hq).2
            have hr1 : ¬ s[1].toNat = 80 := by rw [← hg1 h0']; exact hq
            have hr2 := (byte_ne hr1).1
            have hr3 := (byte_ne hr1).2
            clear hsx hg1
            have HE := Lib.hid (durB_no (sg := -1) (l := c :: q) (fun r e => hp (by injection e)))
            clear hb0 HX' hp QL E HX
            go_enter Tryz.func47, Tryz.ntmps47
            go_wp2
            go_ret2
            exact ⟨by rw [HE.out]; rfl, Below.refl _ _⟩
      · have HA2 := Hd.of hl
        have X : s = s := rfl
        have E : durV (c :: r) = durB 1 (c :: r) := by unfold durV; split <;> simp_all
        have HX := HA2.tail
        have QL : (c :: r).length ≤ 1048576 := by rw [hl] at hsl; omega
        rw [E]
        have hs0 := HA2.pos
        have h43 : ¬ s[0].toNat = 43 := fun h => hc (UInt8.toNat_inj.1 ((HA2.at0 hs0).symm.trans h))
        have h45 : ¬ s[0].toNat = 45 := fun h => hc2 (UInt8.toNat_inj.1 ((HA2.at0 hs0).symm.trans h))
        have h43a := (byte_ne h43).1
        have h43b := (byte_ne h43).2
        have h45a := (byte_ne h45).1
        have h45b := (byte_ne h45).2
        have h43i : ¬ (((s[0].toNat : Nat) : Int) = 43) := by omega
        have h45i : ¬ (((s[0].toNat : Nat) : Int) = 45) := by omega
        have h43c : ((((s[0].toNat : Nat) : Int) == 43) = false) := by rw [beq_eq_false_iff_ne]; exact h43i
        have h45c : ((((s[0].toNat : Nat) : Int) == 45) = false) := by rw [beq_eq_false_iff_ne]; exact h45i
        have h43d : ((((s[0].toNat : Nat) : Int) != 43) = true) := by simpa using h43i
        have h45d : ((((s[0].toNat : Nat) : Int) != 45) = true) := by simpa using h45i
        clear hl hsl hc hc2 X
        have h0' := HA2.pos
        have hb0 := HA2.at0 h0'
        have hne' := HA2.ne
        have h1' := HA2.one
        have HX' := HA2.tail
        clear HA2
        by_cases hp : c = 80
        · subst hp
          have hb0' : (s)[0].toNat = 80 := hb0
          have QL2 : r.length ≤ 1048576 := by simp at QL; omega
          have kl := fun W => refLong13_any r QL2 W
          rw [← HX'] at kl
          have HE : Hid (durB (1) (80 :: r) = match goP 80 0 r with | some n => ((1) * n, 0) | none => (0, 10)) := Lib.hid rfl
          clear hb0 HX' QL QL2 E HX
          rcases hg : goP 80 0 r with _ | n
          · rw [hg] at kl
            rw [hg] at HE
            clear hg
            go_enter Tryz.func47, Tryz.ntmps47
            go_wp2_with (go_at_call 70; ((with_reducible refine (kl _).mono ?_); rintro e w1 ⟨v, rfl, hv, hb, hb1⟩; clear kl hv))
            go_ret2
            exact ⟨by rw [HE.out]; rfl, hb1⟩
          · rw [hg] at kl
            have kl2 : ∀ W, Calls Tryz.prog 70 #[.string ((s).extract 1 s.size)] W fun e w' => e = .returned (.tuple #[.int .i64 n, .bool true]) ∧ (0 ≤ n ∧ n ≤ 10000000000000) ∧ Below W.heap.size W w' := fun W => (kl W).mono fun e w' ⟨v, he, hv, hb, hw⟩ => by obtain rfl := hv n rfl; exact ⟨he, hb, hw⟩
            rw [hg] at HE
            clear kl hg
            go_enter Tryz.func47, Tryz.ntmps47
            go_wp2_with (go_at_call 70; ((with_reducible refine (kl2 _).mono ?_); rintro e w1 ⟨rfl, hn, hb1⟩; clear kl2; have hn1 := hn.1; have hn2 := hn.2; have n0 : -9223372036854775808 ≤ -1 * n ∧ -1 * n < 9223372036854775808 := (by omega); have n1 : -9223372036854775808 ≤ 1 * n ∧ 1 * n < 9223372036854775808 := (by omega); have n2 : -9223372036854775808 ≤ n ∧ n < 9223372036854775808 := (by omega); have n3 : -9223372036854775808 ≤ -n ∧ -n < 9223372036854775808 := (by omega)))
            go_ret2
            refine ⟨by rw [HE.out]; first | rfl | simp, hb1⟩
        · have hq : ¬ (s)[0].toNat = 80 := fun h => hp (UInt8.toNat_inj.1 (hb0.symm.trans h))
          have hq2 := (byte_ne hq).1
          have hq3 := (byte_ne hq).2
          have HE := Lib.hid (durB_no (sg := 1) (l := c :: r) (fun r e => hp (by injection e)))
          clear hb0 HX' hp QL E HX
          go_enter Tryz.func47, Tryz.ntmps47
          go_wp2
          go_ret2
          exact ⟨by rw [HE.out]; rfl, Below.refl _ _⟩
end Go.Proofs.YtdilnofolnabdaaGreatDoor

/-
  The document's own answers of layer 13: an offset.
-/
namespace Go.Proofs.YtdilnofolnabdaaGreatDoor
open Go.RowKit

/-- An offset out of its sign and its three numbers. -/
def offW (sg : Int) (H M X : Int × Bool) : Int × Int := if (H.2 && M.2 && X.2) = true ∧ ¬ (sg < 0 ∧ H.1 * 3600 + M.1 * 60 + X.1 = 0) then (sg * (H.1 * 3600 + M.1 * 60 + X.1), 0) else (0, 10)
theorem offB_four (sg : Int) {r : List UInt8} (h : r.length = 4) : offB sg r = offW sg (numV (r.take 2) 23) (numV (cutL r 2 4) 59) (0, true) := by
  unfold offB
  rw [if_pos h]
  unfold off6 clkP
  rw [List.take_append_of_le_length (by omega)]
  have e1 : cutL (r ++ [48, 48]) 2 4 = cutL r 2 4 := by
    unfold cutL
    rw [List.drop_append_of_le_length (by omega), List.take_append_of_le_length (by rw [List.length_drop]; omega)]
  have e2 : (r ++ [48, 48]).drop 4 = [48, 48] := by
    rw [List.drop_append_of_le_length (by omega), List.drop_of_length_le (by omega), List.nil_append]
  have e3 : numV [48, 48] 59 = (0, true) := by decide
  rw [e1, e2, e3]
  rfl
theorem offB_six (sg : Int) {r : List UInt8} (h : r.length = 6) : offB sg r = offW sg (numV (r.take 2) 23) (numV (cutL r 2 4) 59) (numV (r.drop 4) 59) := by
  unfold offB
  rw [if_neg (by omega), if_pos h]
  rfl
theorem offV_len {l : List UInt8} (h5 : l.length ≠ 5) (h7 : l.length ≠ 7) : offV l = (0, 10) := by
  have k : ∀ sg (r : List UInt8), r.length ≠ 4 → r.length ≠ 6 → offB sg r = (0, 10) := fun sg r a b => by unfold offB; rw [if_neg a, if_neg b]
  unfold offV
  split
  · rename_i r; simp at h5 h7; exact k _ r (by omega) (by omega)
  · rename_i r; simp at h5 h7; exact k _ r (by omega) (by omega)
  · rfl
theorem offV_sign {c : UInt8} {r : List UInt8} (h1 : c ≠ 43) (h2 : c ≠ 45) : offV (c :: r) = (0, 10) := by
  unfold offV
  split
  · rename_i e; injection e with e; exact absurd e h1
  · rename_i e; injection e with e; exact absurd e h2
  · rfl
theorem offW_no {sg : Int} {H M X : Int × Bool} (h : (H.2 && M.2 && X.2) = false) : offW sg H M X = (0, 10) := by
  unfold offW
  rw [h, if_neg (fun k => by cases k.1)]
theorem numNot {l : List UInt8} {most : Int} {x : Int} {b : Bool} (h : numV l most = (x, b)) (hm : 0 ≤ most) : 0 ≤ x ∧ x ≤ most := by
  have := numV_range l most hm
  rw [h] at this
  exact this
end Go.Proofs.YtdilnofolnabdaaGreatDoor

/-
  The document's own answers of layer 13: what is escaped, taken back.
-/
namespace Go.Proofs.YtdilnofolnabdaaGreatDoor
open Go.RowKit

theorem oneR {s : ByteArray} {k : Nat} (h : k < s.size) : (s.extract k (k + 1)).data.toList = [s[k]] := by
  rw [cutR, dropR h, show k + 1 - k = 1 by omega]; rfl
theorem appR (a b : ByteArray) : (a ++ b).data.toList = a.data.toList ++ b.data.toList := by simp
theorem sizeAppR (a b : ByteArray) : (a ++ b).size = a.size + b.size := ByteArray.size_append
theorem sizeOneR {s : ByteArray} {k : Nat} (h : k < s.size) : (s.extract k (k + 1)).size = 1 := by rw [← listR, oneR h]; rfl
theorem intNe {n : Nat} {d : Int} (h : ¬ (n : Int) = d) : ((n : Int) == d) = false ∧ ((n : Int) != d) = true := ⟨by rw [beq_eq_false_iff_ne]; exact h, by simpa using h⟩
end Go.Proofs.YtdilnofolnabdaaGreatDoor

/-
  The document's own answers of layer 13: a time.
-/
namespace Go.Proofs.YtdilnofolnabdaaGreatDoor
open Go.RowKit

set_option maxRecDepth 100000 in
set_option maxHeartbeats 8000000 in
theorem refTime13_any (s : ByteArray) (w : World) :
    Calls Tryz.prog 46 #[.string s] w fun e w' => e = .returned (.tuple #[whV (timV s.data.toList).1, .int .i64 (timV s.data.toList).2]) ∧ Below w.heap.size w w' := by
  have ha : Below w.heap.size w (w.alloc (.cells #[.int .i64 0, .bool false, .bool false] 23)) := (Below.refl _ w).alloc (Nat.le_refl _) _
  have hz := H3.new w Wh.zero
  change H3 (w.alloc (.cells #[.int .i64 0, .bool false, .bool false] 23)) _ _ at hz
  have hsl := listR s
  rw [← timR_eq]
  by_cases h8 : s.size = 8
  · have cr := fun W => refReadDay_any s W
    have HR : timR s.data.toList = (if (rdDay s.data.toList).2 = 0 then (⟨(rdDay s.data.toList).1 * 86400, false, true⟩, 0) else (Wh.zero, 10)) := by unfold timR; rw [if_pos (by omega)]
    rcases rdDay_case s.data.toList with ⟨n, hn, e⟩ | e
    · have hb := hn.1
      rw [e] at cr
      have HT : Hid (timR s.data.toList = (⟨n * 86400, false, true⟩, 0)) := Lib.hid (by rw [HR, e]; rfl)
      have n1 : -9223372036854775808 ≤ n * 86400 ∧ n * 86400 < 9223372036854775808 := by omega
      clear hn e hb HR hsl
      go_enter Tryz.func46, Tryz.ntmps46
      go_upto_region 1 with fail
      generalize w.alloc (.cells #[.int .i64 0, .bool false, .bool false] 23) = w1 at ha hz ⊢
      obtain ⟨x0, x1, x2⟩ := hz.cells
      have xf := hz.frozen
      have HZ := Lib.hid hz
      have HB := Lib.hid ha
      clear hz ha
      go_wp2_with (first
        | (go_at_call 68; ((with_reducible refine (cr _).mono ?_); rintro e w' ⟨rfl, hw⟩; subst w'; clear cr)))
      refine bodyPost_ret (results_cell2 rfl _ rfl rfl (load_wh (w := ⟨n * 86400, false, true⟩) (heap_put3 HZ.out))) rfl ⟨?_, HB.out.trans (below_put3 (Nat.le_refl _) _ _ _)⟩
      rw [HT.out]; rfl
    · rw [e] at cr
      have HT : Hid (timR s.data.toList = (Wh.zero, 10)) := Lib.hid (by rw [HR, e]; rfl)
      clear e HR hsl
      go_enter Tryz.func46, Tryz.ntmps46
      go_upto_region 1 with fail
      generalize w.alloc (.cells #[.int .i64 0, .bool false, .bool false] 23) = w1 at ha hz ⊢
      obtain ⟨x0, x1, x2⟩ := hz.cells
      have xf := hz.frozen
      have HZ := Lib.hid hz
      have HB := Lib.hid ha
      clear hz ha
      go_wp2_with (first
        | (go_at_call 68; ((with_reducible refine (cr _).mono ?_); rintro e w' ⟨rfl, hw⟩; subst w'; clear cr)))
      refine bodyPost_ret (results_cell2 rfl _ rfl rfl (load_wh (w := Wh.zero) (heap_put3 HZ.out))) rfl ⟨?_, HB.out.trans (below_put3 (Nat.le_refl _) _ _ _)⟩
      rw [HT.out]; rfl
  · have n8 : ¬ ((s.size : Nat) : Int) = 8 := by omega
    obtain ⟨p8, q8⟩ := intNe n8
    by_cases hu : s.size = 16 ∧ s.data.toList[15]? = some 90
    · obtain ⟨h16, hu⟩ := hu
      have h15 : 15 < s.size := by omega
      have c15 : s[15].toNat = 90 := by
        rw [getR h15, Option.some.injEq] at hu
        rw [hu]; rfl
      have HR : timR s.data.toList = (if (rdStamp (s.data.toList.take 15)).2 = 0 then (⟨(rdStamp (s.data.toList.take 15)).1, true, false⟩, 0) else (Wh.zero, 10)) := by unfold timR; rw [if_neg (by omega), if_pos ⟨by omega, hu⟩]
      have cs := fun W => refReadStamp_any (s.extract 0 15) W
      rw [headR] at cs
      rcases rdStamp_case (s.data.toList.take 15) with ⟨t, ht, e⟩ | e
      · rw [e] at cs
        have HT : Hid (timR s.data.toList = (⟨t, true, false⟩, 0)) := Lib.hid (by rw [HR, e]; rfl)
        clear ht e HR hsl hu h8 n8 p8 q8
        go_enter Tryz.func46, Tryz.ntmps46
        go_upto_region 1 with fail
        generalize w.alloc (.cells #[.int .i64 0, .bool false, .bool false] 23) = w1 at ha hz ⊢
        obtain ⟨x0, x1, x2⟩ := hz.cells
        have xf := hz.frozen
        have HZ := Lib.hid hz
        have HB := Lib.hid ha
        clear hz ha
        go_wp2_with (first
          | (go_at_call 69; ((with_reducible refine (cs _).mono ?_); rintro e w' ⟨rfl, hw⟩; subst w'; clear cs)))
        refine bodyPost_ret (results_cell2 rfl _ rfl rfl (load_wh (w := ⟨t, true, false⟩) (heap_put3 HZ.out))) rfl ⟨?_, HB.out.trans (below_put3 (Nat.le_refl _) _ _ _)⟩
        rw [HT.out]; rfl
      · rw [e] at cs
        have HT : Hid (timR s.data.toList = (Wh.zero, 10)) := Lib.hid (by rw [HR, e]; rfl)
        clear e HR hsl hu h8 n8 p8 q8
        go_enter Tryz.func46, Tryz.ntmps46
        go_upto_region 1 with fail
        generalize w.alloc (.cells #[.int .i64 0, .bool false, .bool false] 23) = w1 at ha hz ⊢
        obtain ⟨x0, x1, x2⟩ := hz.cells
        have xf := hz.frozen
        have HZ := Lib.hid hz
        have HB := Lib.hid ha
        clear hz ha
        go_wp2_with (first
          | (go_at_call 69; ((with_reducible refine (cs _).mono ?_); rintro e w' ⟨rfl, hw⟩; subst w'; clear cs)))
        refine bodyPost_ret (results_cell2 rfl _ rfl rfl (load_wh (w := Wh.zero) (heap_put3 HZ.out))) rfl ⟨?_, HB.out.trans (below_put3 (Nat.le_refl _) _ _ _)⟩
        rw [HT.out]; rfl
    · have HR : timR s.data.toList = (if (rdStamp s.data.toList).2 = 0 then (⟨(rdStamp s.data.toList).1, false, false⟩, 0) else (Wh.zero, 10)) := by unfold timR; rw [if_neg (by omega), if_neg (fun k => hu ⟨by omega, k.2⟩)]
      have cs := fun W => refReadStamp_any s W
      by_cases h16 : s.size = 16
      · have h15 : 15 < s.size := by omega
        have c15 : ¬ s[15].toNat = 90 := fun h => hu ⟨h16, by rw [getR h15, byte_of h]; rfl⟩
        have c15i : ¬ (((s[15].toNat : Nat) : Int) = 90) := by omega
        obtain ⟨p15, q15⟩ := intNe c15i
        rcases rdStamp_case s.data.toList with ⟨t, ht, e⟩ | e
        · rw [e] at cs
          have HT : Hid (timR s.data.toList = (⟨t, false, false⟩, 0)) := Lib.hid (by rw [HR, e]; rfl)
          clear ht e HR hsl hu h8 n8 p8 q8
          go_enter Tryz.func46, Tryz.ntmps46
          go_upto_region 1 with fail
          generalize w.alloc (.cells #[.int .i64 0, .bool false, .bool false] 23) = w1 at ha hz ⊢
          obtain ⟨x0, x1, x2⟩ := hz.cells
          have xf := hz.frozen
          have HZ := Lib.hid hz
          have HB := Lib.hid ha
          clear hz ha
          go_wp2_with (first
            | (go_at_call 69; ((with_reducible refine (cs _).mono ?_); rintro e w' ⟨rfl, hw⟩; subst w'; clear cs)))
          refine bodyPost_ret (results_cell2 rfl _ rfl rfl (load_wh (w := ⟨t, false, false⟩) (heap_put3 HZ.out))) rfl ⟨?_, HB.out.trans (below_put3 (Nat.le_refl _) _ _ _)⟩
          rw [HT.out]; rfl
        · rw [e] at cs
          have HT : Hid (timR s.data.toList = (Wh.zero, 10)) := Lib.hid (by rw [HR, e]; rfl)
          clear e HR hsl hu h8 n8 p8 q8
          go_enter Tryz.func46, Tryz.ntmps46
          go_upto_region 1 with fail
          generalize w.alloc (.cells #[.int .i64 0, .bool false, .bool false] 23) = w1 at ha hz ⊢
          obtain ⟨x0, x1, x2⟩ := hz.cells
          have xf := hz.frozen
          have HZ := Lib.hid hz
          have HB := Lib.hid ha
          clear hz ha
          go_wp2_with (first
            | (go_at_call 69; ((with_reducible refine (cs _).mono ?_); rintro e w' ⟨rfl, hw⟩; subst w'; clear cs)))
          refine bodyPost_ret (results_cell2 rfl _ rfl rfl (load_wh (w := Wh.zero) (heap_put3 HZ.out))) rfl ⟨?_, HB.out.trans (below_put3 (Nat.le_refl _) _ _ _)⟩
          rw [HT.out]; rfl
      · have n16 : ¬ ((s.size : Nat) : Int) = 16 := by omega
        obtain ⟨p16, q16⟩ := intNe n16
        rcases rdStamp_case s.data.toList with ⟨t, ht, e⟩ | e
        · rw [e] at cs
          have HT : Hid (timR s.data.toList = (⟨t, false, false⟩, 0)) := Lib.hid (by rw [HR, e]; rfl)
          clear ht e HR hsl hu h8 h16
          go_enter Tryz.func46, Tryz.ntmps46
          go_upto_region 1 with fail
          generalize w.alloc (.cells #[.int .i64 0, .bool false, .bool false] 23) = w1 at ha hz ⊢
          obtain ⟨x0, x1, x2⟩ := hz.cells
          have xf := hz.frozen
          have HZ := Lib.hid hz
          have HB := Lib.hid ha
          clear hz ha
          go_wp2_with (first
            | (go_at_call 69; ((with_reducible refine (cs _).mono ?_); rintro e w' ⟨rfl, hw⟩; subst w'; clear cs)))
          refine bodyPost_ret (results_cell2 rfl _ rfl rfl (load_wh (w := ⟨t, false, false⟩) (heap_put3 HZ.out))) rfl ⟨?_, HB.out.trans (below_put3 (Nat.le_refl _) _ _ _)⟩
          rw [HT.out]; rfl
        · rw [e] at cs
          have HT : Hid (timR s.data.toList = (Wh.zero, 10)) := Lib.hid (by rw [HR, e]; rfl)
          clear e HR hsl hu h8 h16
          go_enter Tryz.func46, Tryz.ntmps46
          go_upto_region 1 with fail
          generalize w.alloc (.cells #[.int .i64 0, .bool false, .bool false] 23) = w1 at ha hz ⊢
          obtain ⟨x0, x1, x2⟩ := hz.cells
          have xf := hz.frozen
          have HZ := Lib.hid hz
          have HB := Lib.hid ha
          clear hz ha
          go_wp2_with (first
            | (go_at_call 69; ((with_reducible refine (cs _).mono ?_); rintro e w' ⟨rfl, hw⟩; subst w'; clear cs)))
          refine bodyPost_ret (results_cell2 rfl _ rfl rfl (load_wh (w := Wh.zero) (heap_put3 HZ.out))) rfl ⟨?_, HB.out.trans (below_put3 (Nat.le_refl _) _ _ _)⟩
          rw [HT.out]; rfl
end Go.Proofs.YtdilnofolnabdaaGreatDoor
