/-
  An inode's bytes, as the program writes them.
-/
import Derived.Test.YtcfmpmcdfllibaaG09
import Derived.Test.YtcfmpmcdfllibaaG10
namespace Go.Proofs.Ytcfmpmcdfllibaa
open Go.RowKit

def eqV (X : Value) : Value → World → Prop := fun v _ => v = X
/-- A row of numbers just made. -/
def rowV (n : Nat) (l : List Nat) : Value → World → Prop := fun v w => ∃ b, v = .slice (some ⟨b, 0, none⟩) n n ∧ Reads w w.heap.size 1 (some ⟨b, 0, none⟩) n (encN l)
def bytV (n : Nat) (l : List UInt8) : Value → World → Prop := fun v w => ∃ b, v = .slice (some ⟨b, 0, none⟩) n n ∧ Byt w b l
theorem rowV_out {n : Nat} {l : List Nat} {v : Value} {w : World} (h : rowV n l v w) : ∃ b, v = .slice (some ⟨b, 0, none⟩) n n ∧ Reads w w.heap.size 1 (some ⟨b, 0, none⟩) n (encN l) := h
theorem bytV_out {n : Nat} {l : List UInt8} {v : Value} {w : World} (h : bytV n l v w) : ∃ b, v = .slice (some ⟨b, 0, none⟩) n n ∧ Byt w b l := h

/-- What each operation of the region yields. -/
def textV (g : Nat) (r : RecI) : Nat → Value → World → Prop
  | 0 => eqV (.pointer (some ⟨g, 1, none⟩))
  | 1 => eqV (.pointer (some ⟨g, 1, none⟩))
  | 2 => eqV (.int .i64 (r.kind : Int))
  | 3 => eqV (.int .u8 (r.kind : Int))
  | 4 => bytV 1 [UInt8.ofNat r.kind]
  | 5 => eqV (.string (mkB [UInt8.ofNat r.kind]))
  | 6 => eqV (.pointer (some ⟨g, 1, none⟩))
  | 7 => eqV (.pointer (some ⟨g, 2, none⟩))
  | 8 => eqV (.int .i64 (r.size : Int))
  | 9 => eqV (.int .i64 ((r.size / 65536 : Nat) : Int))
  | 10 => eqV (.pointer (some ⟨g, 1, none⟩))
  | 11 => eqV (.pointer (some ⟨g, 2, none⟩))
  | 12 => eqV (.int .i64 (r.size : Int))
  | 13 => rowV 2 [r.size / 65536, r.size]
  | 14 => eqV (.string (listB [r.size / 65536, r.size]))
  | 15 => eqV (.string (mkB [UInt8.ofNat r.kind] ++ listB [r.size / 65536, r.size]))
  | 16 => eqV (.pointer (some ⟨g, 1, none⟩))
  | 17 => eqV (.pointer (some ⟨g, 3, none⟩))
  | 18 => eqV (.slice (some ⟨g, 3, none⟩) 4 4)
  | 19 => eqV (.string (listB r.bl))
  | 20 => eqV (.string (mkB [UInt8.ofNat r.kind] ++ (listB [r.size / 65536, r.size] ++ listB r.bl)))
  | 21 => eqV (.pointer (some ⟨g, 1, none⟩))
  | 22 => eqV (.pointer (some ⟨g, 7, none⟩))
  | 23 => eqV (.int .i64 (r.ind : Int))
  | 24 => rowV 1 [r.ind]
  | 25 => eqV (.string (listB [r.ind]))
  | 26 => eqV (.string (mkB [UInt8.ofNat r.kind] ++ (listB [r.size / 65536, r.size] ++ (listB r.bl ++ listB [r.ind]))))
  | 27 => eqV (.string (mkB [UInt8.ofNat r.kind] ++ (listB [r.size / 65536, r.size] ++ (listB r.bl ++ listB [r.ind]))))
  | _ => fun _ _ => True
theorem textV_stable (g : Nat) (r : RecI) (j : Nat) (v : Value) (w w' : World) (hb : Below w.heap.size w w') (h : textV g r j v w) : textV g r j v w' := by
  match j, h with
  | 4, h => obtain ⟨b, e, h⟩ := h; exact ⟨b, e, h.step hb⟩
  | 13, h => obtain ⟨b, e, h⟩ := h; exact ⟨b, e, h.step hb⟩
  | 24, h => obtain ⟨b, e, h⟩ := h; exact ⟨b, e, h.step hb⟩
  | 0, h => exact h
  | 1, h => exact h
  | 2, h => exact h
  | 3, h => exact h
  | 5, h => exact h
  | 6, h => exact h
  | 7, h => exact h
  | 8, h => exact h
  | 9, h => exact h
  | 10, h => exact h
  | 11, h => exact h
  | 12, h => exact h
  | 14, h => exact h
  | 15, h => exact h
  | 16, h => exact h
  | 17, h => exact h
  | 18, h => exact h
  | 19, h => exact h
  | 20, h => exact h
  | 21, h => exact h
  | 22, h => exact h
  | 23, h => exact h
  | 25, h => exact h
  | 26, h => exact h
  | 27, h => exact h
  | _ + 28, _ => trivial

set_option maxRecDepth 100000 in
set_option maxHeartbeats 4000000 in
theorem text_any (r : RecI) (hr : OkR r) (w : World) : Calls Try.prog 62 #[valR r] w fun e w' => e = .returned (.string (textR r)) ∧ Below w.heap.size w w' := by
  have hmx : Try.prog.follows .mixedOrders = true := by kernel_rfl
  have HR := Lib.hid hr
  have hk : (r.kind : Int) ≤ 255 := by have := hr.kind; omega
  have hs : (r.size : Int) < 4294967296 := by have := hr.size; omega
  have hB := BR.new w r
  have hb0 := (Below.refl w.heap.size w).alloc (Nat.le_refl _) (.cells (cellsR r).toArray 55)
  have HB := Lib.hid (And.intro hB hb0)
  clear hr hB hb0
  unfold valR
  go_enter Try.func62, Try.ntmps62
  go_wp2
  obtain ⟨g, hg⟩ : ∃ g, g = w.heap.size := ⟨_, rfl⟩
  rw [← hg] at HB ⊢
  obtain ⟨w1, hw1⟩ : ∃ w1, w1 = w.alloc (.cells (cellsR r).toArray 55) := ⟨_, rfl⟩
  rw [← hw1] at HB ⊢
  have HG := Lib.hid hg
  clear hg hw1
  refine wp_region_rel (fun w' => Below w1.heap.size w1 w') (fun _ w w' => Below w.heap.size w w') (textV g r) hmx (by kernel_rfl) ((Below.refl _ _).drew) (fun i w w' hC hs => bstep hC hs) (fun i j v w w' _ hs h => textV_stable g r j v w w' hs h) ?_ ?_
  · refine ⟨?_, ?_, ?_, ?_, ?_, ?_, ?_, ?_, ?_, ?_, ?_, ?_, ?_, ?_, ?_, ?_, ?_, ?_, ?_, ?_, ?_, ?_, ?_, ?_, ?_, ?_, ?_, ?_, trivial⟩
    · intro V W hC hd K hK
      clear hd
      simp only [laidL, Act.put, List.setIfInBounds_toArray, List.set_cons_zero, List.set_cons_succ] at hK ⊢
      go_simp
      exact hK _ _ ⟨Below.refl _ _, rfl⟩
    · intro V W hC hd K hK
      have q0 : textV g r 0 (V 0) W := hd.1
      have e0 : V 0 = .pointer (some ⟨g, 1, none⟩) := q0
      clear q0
      clear hd
      simp only [laidL, Act.put, List.setIfInBounds_toArray, List.set_cons_zero, List.set_cons_succ] at hK ⊢
      generalize V 0 = v0 at e0 hK ⊢
      subst e0
      go_simp
      exact hK _ _ ⟨Below.refl _ _, rfl⟩
    · intro V W hC hd K hK
      have q1 : textV g r 1 (V 1) W := hd.1
      have e1 : V 1 = .pointer (some ⟨g, 1, none⟩) := q1
      clear q1
      clear hd
      simp only [laidL, Act.put, List.setIfInBounds_toArray, List.set_cons_zero, List.set_cons_succ] at hK ⊢
      generalize V 1 = v1 at e1 hK ⊢
      subst e1
      have hc := (HB.out.1.step hC).kind
      go_simp
      exact hK _ _ ⟨Below.refl _ _, rfl⟩
    · intro V W hC hd K hK
      have q2 : textV g r 2 (V 2) W := hd.1
      have e2 : V 2 = .int .i64 (r.kind : Int) := q2
      clear q2
      clear hd
      simp only [laidL, Act.put, List.setIfInBounds_toArray, List.set_cons_zero, List.set_cons_succ] at hK ⊢
      generalize V 2 = v2 at e2 hK ⊢
      subst e2
      go_simp
      exact hK _ _ ⟨Below.refl _ _, congrArg (Value.int .u8) (by rw [IntKind.wrap_u8]; omega)⟩
    · intro V W hC hd K hK
      have q3 : textV g r 3 (V 3) W := hd.1
      have e3 : V 3 = .int .u8 (r.kind : Int) := q3
      clear q3
      clear hd
      simp only [laidL, Act.put, List.setIfInBounds_toArray, List.set_cons_zero, List.set_cons_succ] at hK ⊢
      generalize V 3 = v3 at e3 hK ⊢
      subst e3
      go_simp
      exact hK _ _ ⟨(Below.refl _ _).alloc (Nat.le_refl _) _, _, rfl, Byt.of_lit [UInt8.ofNat r.kind] _ (by simp; omega)⟩
    · intro V W hC hd K hK
      have q4 : textV g r 4 (V 4) W := hd.1
      have q4 : bytV 1 [UInt8.ofNat r.kind] (V 4) W := q4
      have p4 := bytV_out q4
      clear q4 hd
      cases p4
      rename_i b4 hh
      have e4 := hh.1
      have h4 := hh.2
      clear hh
      simp only [laidL, Act.put, List.setIfInBounds_toArray, List.set_cons_zero, List.set_cons_succ] at hK ⊢
      generalize V 4 = v4 at e4 hK ⊢
      subst e4
      have hcv := h4.conv (P := Try.prog) Try.underlying63 Try.underlying5 Try.underlying9 1 1 rfl
      go_simp
      exact hK _ _ ⟨Below.refl _ _, rfl⟩
    · intro V W hC hd K hK
      clear hd
      simp only [laidL, Act.put, List.setIfInBounds_toArray, List.set_cons_zero, List.set_cons_succ] at hK ⊢
      go_simp
      exact hK _ _ ⟨Below.refl _ _, rfl⟩
    · intro V W hC hd K hK
      have q6 : textV g r 6 (V 6) W := hd.1
      have e6 : V 6 = .pointer (some ⟨g, 1, none⟩) := q6
      clear q6
      clear hd
      simp only [laidL, Act.put, List.setIfInBounds_toArray, List.set_cons_zero, List.set_cons_succ] at hK ⊢
      generalize V 6 = v6 at e6 hK ⊢
      subst e6
      go_simp
      exact hK _ _ ⟨Below.refl _ _, rfl⟩
    · intro V W hC hd K hK
      have q7 : textV g r 7 (V 7) W := hd.1
      have e7 : V 7 = .pointer (some ⟨g, 2, none⟩) := q7
      clear q7
      clear hd
      simp only [laidL, Act.put, List.setIfInBounds_toArray, List.set_cons_zero, List.set_cons_succ] at hK ⊢
      generalize V 7 = v7 at e7 hK ⊢
      subst e7
      have hc := (HB.out.1.step hC).size
      go_simp
      exact hK _ _ ⟨Below.refl _ _, rfl⟩
    · intro V W hC hd K hK
      have q8 : textV g r 8 (V 8) W := hd.1
      have e8 : V 8 = .int .i64 (r.size : Int) := q8
      clear q8
      clear hd
      simp only [laidL, Act.put, List.setIfInBounds_toArray, List.set_cons_zero, List.set_cons_succ] at hK ⊢
      generalize V 8 = v8 at e8 hK ⊢
      subst e8
      go_simp
      exact hK _ _ ⟨Below.refl _ _, congrArg (Value.int .i64) (by omega)⟩
    · intro V W hC hd K hK
      clear hd
      simp only [laidL, Act.put, List.setIfInBounds_toArray, List.set_cons_zero, List.set_cons_succ] at hK ⊢
      go_simp
      exact hK _ _ ⟨Below.refl _ _, rfl⟩
    · intro V W hC hd K hK
      have q10 : textV g r 10 (V 10) W := hd.1
      have e10 : V 10 = .pointer (some ⟨g, 1, none⟩) := q10
      clear q10
      clear hd
      simp only [laidL, Act.put, List.setIfInBounds_toArray, List.set_cons_zero, List.set_cons_succ] at hK ⊢
      generalize V 10 = v10 at e10 hK ⊢
      subst e10
      go_simp
      exact hK _ _ ⟨Below.refl _ _, rfl⟩
    · intro V W hC hd K hK
      have q11 : textV g r 11 (V 11) W := hd.1
      have e11 : V 11 = .pointer (some ⟨g, 2, none⟩) := q11
      clear q11
      clear hd
      simp only [laidL, Act.put, List.setIfInBounds_toArray, List.set_cons_zero, List.set_cons_succ] at hK ⊢
      generalize V 11 = v11 at e11 hK ⊢
      subst e11
      have hc := (HB.out.1.step hC).size
      go_simp
      exact hK _ _ ⟨Below.refl _ _, rfl⟩
    · intro V W hC hd K hK
      have q9 : textV g r 9 (V 9) W := hd.1
      have e9 : V 9 = .int .i64 ((r.size / 65536 : Nat) : Int) := q9
      clear q9
      have q12 : textV g r 12 (V 12) W := hd.2.1
      have e12 : V 12 = .int .i64 (r.size : Int) := q12
      clear q12
      clear hd
      simp only [laidL, Act.put, List.setIfInBounds_toArray, List.set_cons_zero, List.set_cons_succ] at hK ⊢
      generalize V 9 = v9 at e9 hK ⊢
      subst e9
      generalize V 12 = v12 at e12 hK ⊢
      subst e12
      go_simp
      exact hK _ _ ⟨(Below.refl _ _).alloc (Nat.le_refl _) _, _, rfl, reads_new _ _ _ 2 1 rfl⟩
    · intro V W hC hd K hK
      have q13 : textV g r 13 (V 13) W := hd.1
      have q13 : rowV 2 [r.size / 65536, r.size] (V 13) W := q13
      have p13 := rowV_out q13
      clear q13 hd
      cases p13
      rename_i b13 hh
      have e13 := hh.1
      have h13 := hh.2
      clear hh
      simp only [laidL, Act.put, List.setIfInBounds_toArray, List.set_cons_zero, List.set_cons_succ] at hK ⊢
      generalize V 13 = v13 at e13 hK ⊢
      subst e13
      go_simp
      go_at_call 79
      refine (spelt_any _ _ _ _ _ h13 (show 2 ≤ 512 by omega) (show 0 < 2 by omega)).mono ?_
      rintro e w3 ⟨rfl, hb3⟩
      exact hK _ _ ⟨hb3, rfl⟩
    · intro V W hC hd K hK
      have q5 : textV g r 5 (V 5) W := hd.1
      have e5 : V 5 = .string (mkB [UInt8.ofNat r.kind]) := q5
      clear q5
      have q14 : textV g r 14 (V 14) W := hd.2.1
      have e14 : V 14 = .string (listB [r.size / 65536, r.size]) := q14
      clear q14
      clear hd
      simp only [laidL, Act.put, List.setIfInBounds_toArray, List.set_cons_zero, List.set_cons_succ] at hK ⊢
      generalize V 5 = v5 at e5 hK ⊢
      subst e5
      generalize V 14 = v14 at e14 hK ⊢
      subst e14
      have hno : ¬ 9223372036854775807 < (mkB [UInt8.ofNat r.kind]).size + (listB [r.size / 65536, r.size]).size := by rw [mkB_size, listB_size]; simp
      go_simp
      exact hK _ _ ⟨Below.refl _ _, rfl⟩
    · intro V W hC hd K hK
      clear hd
      simp only [laidL, Act.put, List.setIfInBounds_toArray, List.set_cons_zero, List.set_cons_succ] at hK ⊢
      go_simp
      exact hK _ _ ⟨Below.refl _ _, rfl⟩
    · intro V W hC hd K hK
      have q16 : textV g r 16 (V 16) W := hd.1
      have e16 : V 16 = .pointer (some ⟨g, 1, none⟩) := q16
      clear q16
      clear hd
      simp only [laidL, Act.put, List.setIfInBounds_toArray, List.set_cons_zero, List.set_cons_succ] at hK ⊢
      generalize V 16 = v16 at e16 hK ⊢
      subst e16
      go_simp
      exact hK _ _ ⟨Below.refl _ _, rfl⟩
    · intro V W hC hd K hK
      have q17 : textV g r 17 (V 17) W := hd.1
      have e17 : V 17 = .pointer (some ⟨g, 3, none⟩) := q17
      clear q17
      clear hd
      simp only [laidL, Act.put, List.setIfInBounds_toArray, List.set_cons_zero, List.set_cons_succ] at hK ⊢
      generalize V 17 = v17 at e17 hK ⊢
      subst e17
      go_simp
      exact hK _ _ ⟨Below.refl _ _, rfl⟩
    · intro V W hC hd K hK
      have q18 : textV g r 18 (V 18) W := hd.1
      have e18 : V 18 = .slice (some ⟨g, 3, none⟩) 4 4 := q18
      clear q18
      clear hd
      simp only [laidL, Act.put, List.setIfInBounds_toArray, List.set_cons_zero, List.set_cons_succ] at hK ⊢
      generalize V 18 = v18 at e18 hK ⊢
      subst e18
      go_simp
      go_at_call 79
      refine (spelt_any _ _ _ _ _ ((HB.out.1.step hC).bl HR.out) (show 4 ≤ 512 by omega) (show 0 < 4 by omega)).mono ?_
      rintro e w3 ⟨rfl, hb3⟩
      exact hK _ _ ⟨hb3, rfl⟩
    · intro V W hC hd K hK
      have q15 : textV g r 15 (V 15) W := hd.1
      have e15 : V 15 = .string (mkB [UInt8.ofNat r.kind] ++ listB [r.size / 65536, r.size]) := q15
      clear q15
      have q19 : textV g r 19 (V 19) W := hd.2.1
      have e19 : V 19 = .string (listB r.bl) := q19
      clear q19
      clear hd
      simp only [laidL, Act.put, List.setIfInBounds_toArray, List.set_cons_zero, List.set_cons_succ] at hK ⊢
      generalize V 15 = v15 at e15 hK ⊢
      subst e15
      generalize V 19 = v19 at e19 hK ⊢
      subst e19
      have hno : ¬ 9223372036854775807 < (mkB [UInt8.ofNat r.kind]).size + (listB [r.size / 65536, r.size]).size + (listB r.bl).size := by rw [mkB_size, listB_size, listB_size, HR.out.bl]; simp
      go_simp
      exact hK (.string (mkB [UInt8.ofNat r.kind] ++ listB [r.size / 65536, r.size] ++ listB r.bl)) _ ⟨Below.refl _ _, by show Value.string _ = Value.string _; simp only [ByteArray.append_assoc]⟩
    · intro V W hC hd K hK
      clear hd
      simp only [laidL, Act.put, List.setIfInBounds_toArray, List.set_cons_zero, List.set_cons_succ] at hK ⊢
      go_simp
      exact hK _ _ ⟨Below.refl _ _, rfl⟩
    · intro V W hC hd K hK
      have q21 : textV g r 21 (V 21) W := hd.1
      have e21 : V 21 = .pointer (some ⟨g, 1, none⟩) := q21
      clear q21
      clear hd
      simp only [laidL, Act.put, List.setIfInBounds_toArray, List.set_cons_zero, List.set_cons_succ] at hK ⊢
      generalize V 21 = v21 at e21 hK ⊢
      subst e21
      go_simp
      exact hK _ _ ⟨Below.refl _ _, rfl⟩
    · intro V W hC hd K hK
      have q22 : textV g r 22 (V 22) W := hd.1
      have e22 : V 22 = .pointer (some ⟨g, 7, none⟩) := q22
      clear q22
      clear hd
      simp only [laidL, Act.put, List.setIfInBounds_toArray, List.set_cons_zero, List.set_cons_succ] at hK ⊢
      generalize V 22 = v22 at e22 hK ⊢
      subst e22
      have hc := (HB.out.1.step hC).ind HR.out
      go_simp
      exact hK _ _ ⟨Below.refl _ _, rfl⟩
    · intro V W hC hd K hK
      have q23 : textV g r 23 (V 23) W := hd.1
      have e23 : V 23 = .int .i64 (r.ind : Int) := q23
      clear q23
      clear hd
      simp only [laidL, Act.put, List.setIfInBounds_toArray, List.set_cons_zero, List.set_cons_succ] at hK ⊢
      generalize V 23 = v23 at e23 hK ⊢
      subst e23
      go_simp
      exact hK _ _ ⟨(Below.refl _ _).alloc (Nat.le_refl _) _, _, rfl, reads_new _ _ _ 1 1 rfl⟩
    · intro V W hC hd K hK
      have q24 : textV g r 24 (V 24) W := hd.1
      have q24 : rowV 1 [r.ind] (V 24) W := q24
      have p24 := rowV_out q24
      clear q24 hd
      cases p24
      rename_i b24 hh
      have e24 := hh.1
      have h24 := hh.2
      clear hh
      simp only [laidL, Act.put, List.setIfInBounds_toArray, List.set_cons_zero, List.set_cons_succ] at hK ⊢
      generalize V 24 = v24 at e24 hK ⊢
      subst e24
      go_simp
      go_at_call 79
      refine (spelt_any _ _ _ _ _ h24 (show 1 ≤ 512 by omega) (show 0 < 1 by omega)).mono ?_
      rintro e w3 ⟨rfl, hb3⟩
      exact hK _ _ ⟨hb3, rfl⟩
    · intro V W hC hd K hK
      have q20 : textV g r 20 (V 20) W := hd.1
      have e20 : V 20 = .string (mkB [UInt8.ofNat r.kind] ++ (listB [r.size / 65536, r.size] ++ listB r.bl)) := q20
      clear q20
      have q25 : textV g r 25 (V 25) W := hd.2.1
      have e25 : V 25 = .string (listB [r.ind]) := q25
      clear q25
      clear hd
      simp only [laidL, Act.put, List.setIfInBounds_toArray, List.set_cons_zero, List.set_cons_succ] at hK ⊢
      generalize V 20 = v20 at e20 hK ⊢
      subst e20
      generalize V 25 = v25 at e25 hK ⊢
      subst e25
      have hno : ¬ 9223372036854775807 < (mkB [UInt8.ofNat r.kind]).size + ((listB [r.size / 65536, r.size]).size + (listB r.bl).size) + (listB [r.ind]).size := by rw [mkB_size, listB_size, listB_size, listB_size, HR.out.bl]; simp
      go_simp
      exact hK (.string (mkB [UInt8.ofNat r.kind] ++ (listB [r.size / 65536, r.size] ++ listB r.bl) ++ listB [r.ind])) _ ⟨Below.refl _ _, by show Value.string _ = Value.string _; simp only [ByteArray.append_assoc]⟩
    · intro V W hC hd K hK
      have q26 : textV g r 26 (V 26) W := hd.1
      have e26 : V 26 = .string (mkB [UInt8.ofNat r.kind] ++ (listB [r.size / 65536, r.size] ++ (listB r.bl ++ listB [r.ind]))) := q26
      clear q26
      clear hd
      simp only [laidL, Act.put, List.setIfInBounds_toArray, List.set_cons_zero, List.set_cons_succ] at hK ⊢
      generalize V 26 = v26 at e26 hK ⊢
      subst e26
      go_simp
      exact hK _ _ ⟨Below.refl _ _, rfl⟩
  · intro V W hC hV
    have e27 : V 27 = .string (mkB [UInt8.ofNat r.kind] ++ (listB [r.size / 65536, r.size] ++ (listB r.bl ++ listB [r.ind]))) := hV 27 (show 27 < 28 by decide)
    clear hV
    simp only [laidL, Act.put, List.setIfInBounds_toArray, List.set_cons_zero, List.set_cons_succ]
    generalize V 27 = v27 at e27 ⊢
    subst e27
    have cz : ∀ W : World, Calls Try.prog 58 #[.int .i64 17] W fun e w' => e = .returned (.string (zeroN 17)) ∧ Below W.heap.size W w' := fun W => zerosI_any 17 (by omega) W
    obtain ⟨s, hs⟩ : ∃ s, s = mkB [UInt8.ofNat r.kind] ++ (listB [r.size / 65536, r.size] ++ (listB r.bl ++ listB [r.ind])) := ⟨_, rfl⟩
    have hsz : s.size = 15 := by rw [hs, ByteArray.size_append, ByteArray.size_append, ByteArray.size_append, mkB_size, listB_size, listB_size, listB_size, HR.out.bl]; rfl
    have hT : s ++ zeroN 17 = textR r := by
      rw [hs]
      apply ByteArray.ext
      simp only [ByteArray.data_append, textR, headR, listB, mkB, zeroN, rep_zeroA]
      apply Array.ext'
      simp
    have HT := Lib.hid hT
    rw [← hs]
    have h17 : (32 : Int) - (s.size : Int) = 17 := by omega
    have hno : ¬ 9223372036854775807 < s.size + (zeroN 17).size := by rw [hsz]; decide
    have HC := Lib.hid hC
    clear hs hsz hT hC
    generalize zeroN 17 = z at cz HT hno
    go_wp2_with (go_at_call 58; refine (cz _).mono ?_; rintro e w3 ⟨rfl, hb3⟩)
    go_ret
    rw [HT.out]
    have hfin := HB.out.2.trans ((HC.out.trans (hb3.mono HC.out.size)).mono (Nat.le_of_lt HB.out.1.lt))
    rw [HG.out] at hfin
    exact ⟨rfl, hfin⟩

end Go.Proofs.Ytcfmpmcdfllibaa
