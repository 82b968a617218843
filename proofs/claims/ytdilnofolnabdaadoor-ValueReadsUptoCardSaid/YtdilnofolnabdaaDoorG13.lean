/-
  The program's own functions of layer 13: signs, counts of parts, and which part may follow which.
-/
import Derived.Test.YtdilnofolnabdaaDoorG12
namespace Go.Proofs.YtdilnofolnabdaaDoor
open Go.RowKit

theorem mk_listV (l : List UInt8) : (⟨l.toArray⟩ : ByteArray).data.toList = l := by simp
theorem list_mk (s : ByteArray) : (⟨s.data.toList.toArray⟩ : ByteArray) = s := by apply ByteArray.ext; simp
/-- A sign and what stands behind it. -/
def cutS (l : List UInt8) : Int × List UInt8 :=
  match l with
  | 43 :: r => (1, r)
  | 45 :: r => (-1, r)
  | _ => (0, l)
theorem dropOne (s : ByteArray) {c : UInt8} {r : List UInt8} (h : s.data.toList = c :: r) : s.extract 1 s.size = ⟨r.toArray⟩ ∧ 1 ≤ s.size := by
  have hl := listB s
  rw [h, List.length_cons] at hl
  refine ⟨?_, by omega⟩
  apply ByteArray.ext
  rw [← Array.toList_inj, pieceB, h, List.drop_one, List.tail_cons]
  simp only
  rw [List.take_of_length_le (by omega)]
set_option maxRecDepth 100000 in
set_option maxHeartbeats 2000000 in
theorem cutSign_any (s : ByteArray) (hs : s.size ≤ 1048576) (w : World) :
    Calls Tryd.prog 25 #[.string s] w fun e w' => e = .returned (.tuple #[.int .i64 (cutS s.data.toList).1, .string ⟨(cutS s.data.toList).2.toArray⟩]) ∧ Below w.heap.size w w' := by
  have c1 := fun w => Tryd.strings_HasPrefix s ⟨#[43]⟩ w
  have c2 := fun w => Tryd.strings_HasPrefix s ⟨#[45]⟩ w
  have hmx : Tryd.prog.follows .mixedOrders = true := by kernel_rfl
  rcases hl : s.data.toList with _ | ⟨c, r⟩
  · have E : Hid ((cutS ([] : List UInt8)) = (0, [])) := Lib.hid rfl
    have HS : Hid (s = ⟨#[]⟩) := Lib.hid (by rw [← list_mk s, hl])
    rw [hl] at c1 c2
    change ∀ w, Calls _ _ _ w fun e w' => e = .returned (.bool false) ∧ w' = w at c1
    change ∀ w, Calls _ _ _ w fun e w' => e = .returned (.bool false) ∧ w' = w at c2
    clear hl
    go_enter Tryd.func25, Tryd.ntmps25
    go_wp2_with (first
      | (go_at_call 50; refine (c1 _).mono ?_; rintro e w' ⟨rfl, hw⟩; subst w'; clear c1)
      | (go_at_call 50; refine (c2 _).mono ?_; rintro e w' ⟨rfl, hw⟩; subst w'; clear c2))
    go_ret2
    exact ⟨by rw [E.out, HS.out]; rfl, Below.refl _ _⟩
  · obtain ⟨hex, h1⟩ := dropOne s hl
    rw [hl] at c1 c2
    have e1 : Lib.hasPrefix (c :: r) (⟨#[43]⟩ : ByteArray).data.toList = (43 == c) := by simp [Lib.hasPrefix, List.isPrefixOf]
    have e2 : Lib.hasPrefix (c :: r) (⟨#[45]⟩ : ByteArray).data.toList = (45 == c) := by simp [Lib.hasPrefix, List.isPrefixOf]
    simp only [e1] at c1
    simp only [e2] at c2
    have hi : (1 : Int) ≤ (s.size : Int) := by omega
    by_cases h43 : c = 43
    · subst h43
      have E : Hid (cutS (43 :: r) = (1, r)) := Lib.hid rfl
      have HX := Lib.hid hex
      have c1' : ∀ w, Calls Tryd.prog 50 #[.string s, .string ⟨#[43]⟩] w fun e w' => e = .returned (.bool true) ∧ w' = w := c1
      clear c1 c2 e1 e2 hl hex
      go_enter Tryd.func25, Tryd.ntmps25
      go_wp2_with (go_at_call 50; refine (c1' _).mono ?_; rintro e w' ⟨rfl, hw⟩; subst w')
      go_region
      go_wp2
      go_ret2
      exact ⟨by rw [E.out, ← HX.out]; rfl, (Below.refl _ _).drew⟩
    · by_cases h45 : c = 45
      · subst h45
        have E : Hid (cutS (45 :: r) = (-1, r)) := Lib.hid rfl
        have HX := Lib.hid hex
        have c1' : ∀ w, Calls Tryd.prog 50 #[.string s, .string ⟨#[43]⟩] w fun e w' => e = .returned (.bool false) ∧ w' = w := c1
        have c2' : ∀ w, Calls Tryd.prog 50 #[.string s, .string ⟨#[45]⟩] w fun e w' => e = .returned (.bool true) ∧ w' = w := c2
        clear c1 c2 e1 e2 hl hex h43
        go_enter Tryd.func25, Tryd.ntmps25
        go_wp2_with (first
          | (go_at_call 50; refine (c1' _).mono ?_; rintro e w' ⟨rfl, hw⟩; subst w')
          | (go_at_call 50; refine (c2' _).mono ?_; rintro e w' ⟨rfl, hw⟩; subst w'))
        go_region
        go_wp2
        go_ret2
        exact ⟨by rw [E.out, ← HX.out]; rfl, (Below.refl _ _).drew⟩
      · have E : Hid (cutS (c :: r) = (0, c :: r)) := Lib.hid (by unfold cutS; split <;> simp_all)
        have HS : Hid ((⟨(c :: r).toArray⟩ : ByteArray) = s) := Lib.hid (by rw [← hl, list_mk])
        have f1 : (43 == c) = false := by rw [beq_eq_false_iff_ne]; exact fun h => h43 h.symm
        have f2 : (45 == c) = false := by rw [beq_eq_false_iff_ne]; exact fun h => h45 h.symm
        simp only [f1] at c1
        simp only [f2] at c2
        clear e1 e2 hl hex f1 f2 h43 h45
        go_enter Tryd.func25, Tryd.ntmps25
        go_wp2_with (first
          | (go_at_call 50; refine (c1 _).mono ?_; rintro e w' ⟨rfl, hw⟩; subst w'; clear c1)
          | (go_at_call 50; refine (c2 _).mono ?_; rintro e w' ⟨rfl, hw⟩; subst w'; clear c2))
        go_ret2
        exact ⟨by rw [E.out, HS.out]; rfl, Below.refl _ _⟩
theorem let0_lt (c : UInt8) : (let0 c).toNat < 256 := (let0 c).toNat_lt
theorem beh_index (c d : UInt8) : (0 ≤ Lib.indexByte (behP c) d) ↔ d ∈ behP c := by
  have := Lib.contains_iff_indexByte (behP c) d
  rw [← decide_eq_true_iff (p := 0 ≤ Lib.indexByte (behP c) d), ← this]
  simp
set_option maxRecDepth 100000 in
set_option maxHeartbeats 2000000 in
theorem follow_any (c d : UInt8) (w : World) :
    Calls Tryd.prog 30 #[partV c, partV d] w fun e w' => e = .returned (.bool (decide (let0 d ∈ behP c))) ∧ Below w.heap.size w w' := by
  have cx := fun w => Tryd.strings_IndexByte (behB c) (((let0 d).toNat : Nat) : Int) w
  have he : (((let0 d).toNat : Nat) : Int).toNat.toUInt8 = let0 d := by rw [Int.toNat_natCast]; exact UInt8.ofNat_toNat
  rw [he] at cx
  change ∀ w, Calls _ _ _ w fun e w' => e = .returned (.int .i64 (Lib.indexByte (behB c).data.toList (let0 d))) ∧ w' = w at cx
  rw [show (behB c).data.toList = behP c by unfold behB; simp] at cx
  have E := Lib.hid (beh_index c (let0 d))
  generalize Lib.indexByte (behP c) (let0 d) = X at cx E
  have ha : Below w.heap.size w (w.alloc (.cells #[.int .u8 ((let0 c).toNat : Int), .string (behB c), .int .i64 (unitP c)] 62)) := (Below.refl _ w).alloc (Nat.le_refl _) _
  have hb := Lib.hid (bstep ha ((Below.refl _ (w.alloc (.cells #[.int .u8 ((let0 c).toNat : Int), .string (behB c), .int .i64 (unitP c)] 62))).alloc (Nat.le_refl _) (.cells #[.int .u8 ((let0 d).toNat : Int), .string (behB d), .int .i64 (unitP d)] 62)))
  clear ha he
  unfold partV
  go_enter Tryd.func30, Tryd.ntmps30
  go_wp2_with (go_at_call 53; refine (cx _).mono ?_; rintro e w' ⟨rfl, hw⟩; subst w')
  go_ret
  refine ⟨?_, hb.out⟩
  have : decide (0 ≤ X) = decide (let0 d ∈ behP c) := by simp only [decide_eq_decide]; exact E.out
  rw [← this]; rfl
set_option maxRecDepth 100000 in
set_option maxHeartbeats 2000000 in
theorem count_any (c : UInt8) (ah : ByteArray) (hs : ah.size ≤ 1048576) (w : World) :
    Calls Tryd.prog 29 #[partV c, .string ah] w fun e w' => e = .returned (.tuple #[.int .i64 (cntP c ah.data.toList).1, .bool (cntP c ah.data.toList).2]) ∧ Below w.heap.size w w' := by
  have ha := Lib.hid (show Below w.heap.size w (w.alloc (.cells #[.int .u8 ((let0 c).toNat : Int), .string (behB c), .int .i64 (unitP c)] 62)) from (Below.refl _ w).alloc (Nat.le_refl _) _)
  by_cases h0 : unitP c = 0
  · have E : Hid (cntP c ah.data.toList = (0, decide (ah.data.toList = []))) := Lib.hid (by unfold cntP; rw [if_pos h0])
    have hb : (unitP c == 0) = true := by rw [h0]; rfl
    have HQ : Hid (ah.toList.isEmpty = decide (ah.data.toList = [])) := Lib.hid (by
      rw [ByteArray.toList_eq]
      cases ah.data.toList <;> rfl)
    clear h0
    unfold partV
    generalize unitP c = U at *
    go_enter Tryd.func29, Tryd.ntmps29
    go_wp2
    go_ret2
    refine ⟨?_, ha.out⟩
    rw [E.out, ← HQ.out]
    rfl
  · have E : Hid (cntP c ah.data.toList = ((numV ah.data.toList 9223372036854775807).1, (numV ah.data.toList 9223372036854775807).2 && decide (ah.data.toList.length ≤ 7))) := Lib.hid (by unfold cntP; rw [if_neg h0])
    have hb : (unitP c == 0) = false := by rw [beq_eq_false_iff_ne]; exact h0
    have cn := fun W => number_any ah (by omega) 9223372036854775807 W
    have HL := Lib.hid (listB ah)
    clear h0
    unfold partV
    generalize unitP c = U at *
    generalize (numV ah.data.toList 9223372036854775807).1 = V1 at *
    generalize (numV ah.data.toList 9223372036854775807).2 = V2 at *
    cases V2
    · go_enter Tryd.func29, Tryd.ntmps29
      go_wp2_with (go_at_call 54; refine (cn _).mono ?_; rintro e w' ⟨rfl, hw⟩; subst w')
      go_ret2
      exact ⟨by rw [E.out]; rfl, ha.out⟩
    · go_enter Tryd.func29, Tryd.ntmps29
      go_wp2_with (go_at_call 54; refine (cn _).mono ?_; rintro e w' ⟨rfl, hw⟩; subst w')
      go_ret2
      exact ⟨by rw [E.out, HL.out]; simp; omega, ha.out⟩
end Go.Proofs.YtdilnofolnabdaaDoor
