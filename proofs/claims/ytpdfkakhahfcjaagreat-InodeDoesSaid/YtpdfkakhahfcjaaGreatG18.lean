/-
  Whether an inode is in itself as one can be: the program's method.
-/
import Derived.Test.YtpdfkakhahfcjaaGreatG17
import Derived.BigQuiet
import Derived.Laws.StructEq
namespace Go.Proofs.YtpdfkakhahfcjaaGreat
open Go.RowKit

set_option maxRecDepth 100000 in
theorem eqg_no : Tryz.prog.eqGuardType Tryz.prog.depth 62 = false := by kernel_rfl
theorem run_eqg (W : World) (s r : RecI) : (eqGuard .neq 62 (.tmp 37) (.tmp 47) (valR r) (valR s)).run Tryz.prog W = .ok () W := by
 unfold valR
 exact run_eqGuard_agg W .neq _ _ _ _ _ eqg_no
def isFormI (img : List ByteArray) (r : RecI) : Bool :=
 if r.kind = 0 then decide (rawI img r.num = zeroN 32)
 else if r.kind = 1 ∨ r.kind = 2 then
  if 8704 < r.size then false
  else if (((r.ind : Int) != 0) != decide (4 < needN r.size)) = true then false
  else if (!decide (r = nameR r r.size (dataR r) r.ind)) = true then false
  else if textR r ≠ rawI img r.num then false
  else decide (mkB ((flatR img r).drop r.size) = zeroN ((flatR img r).length - r.size))
 else false
theorem no_yield {ops : Array Oper} {tmps : Array Value} {g : Nat} (h : yielded ops tmps g = some true) : ¬ yielded ops tmps g = some false := by rw [h]; simp
theorem bools_ne {b1 b2 : Bool} (h : (b1 != b2) = true) : (b1 == b2) = false := by revert h; cases b1 <;> cases b2 <;> decide
theorem bools_eq {b1 b2 : Bool} (h : ¬ (b1 != b2) = true) : (b1 == b2) = true := by revert h; cases b1 <;> cases b2 <;> decide
theorem beq_bytes (a b : ByteArray) : (a.toList == b.toList) = decide (a = b) := by
 by_cases h : a = b
 ·subst h; simp
 ·rw [decide_eq_false h, bytes_other h]
theorem nameR_big {r : RecI} (br : BigR r) (size ind : Nat) : BigR (nameR r size (dataR r) ind) := by
 have hd : ∀ k ∈ dataR r, k ≤ 9223372036854775807 := fun k hk => by
  have := List.mem_of_mem_take hk
  rcases List.mem_append.1 this with h | h
  ·exact br.bl k h
  ·exact br.ls k h
 have hp : ∀ (m : Nat) (l : List Nat), (∀ k ∈ l, k ≤ 9223372036854775807) → ∀ k ∈ padN m l, k ≤ 9223372036854775807 := fun m l hl k hk => by
  rcases List.mem_append.1 hk with h | h
  ·exact hl k h
  ·rw [(List.mem_replicate.1 h).2]; omega
 exact ⟨hp 4 _ fun k hk => hd k (List.mem_of_mem_take hk), hp 64 _ fun k hk => hd k (List.mem_of_mem_drop (List.mem_of_mem_take hk))⟩
def ifoV_true (X g _n _c : Nat) (_A : Option Addr) (_img : List ByteArray) (r : RecI) (_tx : Bool) : Nat → (Nat → Bool) → Value → World → Prop
 | 0 => fun _ => eqV (valR r)
 | 1 => fun _ => eqV (valR r)
 | 2 => fun _ => eqV (.pointer (some ⟨g, 1, none⟩))
 | 3 => fun _ => eqV (.pointer (some ⟨g, 2, none⟩))
 | 4 => fun _ => eqV (.int .i64 (r.size : Int))
 | 5 => fun _ => eqV (valR r)
 | 6 => fun _ => ownV X (dataR r)
 | 7 => fun _ => eqV (.pointer (some ⟨g, 1, none⟩))
 | 8 => fun _ => eqV (.pointer (some ⟨g, 7, none⟩))
 | 9 => fun _ => eqV (.int .i64 (r.ind : Int))
 | 10 => fun _ => eqV (valR (nameR r r.size (dataR r) r.ind))
 | 11 => fun _ => eqV (.bool true)
 | 12 => fun _ => eqV (.bool true)
 | 13 => fun _ => eqV (undef)
 | 14 => fun _ => eqV (undef)
 | 15 => fun _ => eqV (undef)
 | 16 => fun _ => eqV (undef)
 | 17 => fun _ => eqV (undef)
 | 18 => fun _ => eqV (undef)
 | 19 => fun _ => eqV (undef)
 | 20 => fun _ => eqV (.bool true)
 | _ => fun _ _ _ => True
theorem ifoV_true_stable (X g n c : Nat) (A : Option Addr) (img : List ByteArray) (r : RecI) (tx : Bool) (j : Nat) (L L' : Nat → Bool) (v : Value) (w w' : World) (hs : Below w.heap.size w w') (h : ifoV_true X g n c A img r tx j L v w) : ifoV_true X g n c A img r tx j L' v w' := by
 match j, h with
 | 0, h => exact h
 | 1, h => exact h
 | 2, h => exact h
 | 3, h => exact h
 | 4, h => exact h
 | 5, h => exact h
 | 6, h => exact ownV.step h hs
 | 7, h => exact h
 | 8, h => exact h
 | 9, h => exact h
 | 10, h => exact h
 | 11, h => exact h
 | 12, h => exact h
 | 13, h => exact h
 | 14, h => exact h
 | 15, h => exact h
 | 16, h => exact h
 | 17, h => exact h
 | 18, h => exact h
 | 19, h => exact h
 | 20, h => exact h
 | _ + 21, _ => trivial
def ifoV_false (X g n c : Nat) (A : Option Addr) (img : List ByteArray) (r : RecI) (tx : Bool) : Nat → (Nat → Bool) → Value → World → Prop
 | 0 => fun _ => eqV (valR r)
 | 1 => fun _ => eqV (valR r)
 | 2 => fun _ => eqV (.pointer (some ⟨g, 1, none⟩))
 | 3 => fun _ => eqV (.pointer (some ⟨g, 2, none⟩))
 | 4 => fun _ => eqV (.int .i64 (r.size : Int))
 | 5 => fun _ => eqV (valR r)
 | 6 => fun _ => ownV X (dataR r)
 | 7 => fun _ => eqV (.pointer (some ⟨g, 1, none⟩))
 | 8 => fun _ => eqV (.pointer (some ⟨g, 7, none⟩))
 | 9 => fun _ => eqV (.int .i64 (r.ind : Int))
 | 10 => fun _ => eqV (valR (nameR r r.size (dataR r) r.ind))
 | 11 => fun _ => eqV (.bool false)
 | 12 => fun _ => eqV (.bool false)
 | 13 => fun _ => eqV (valR r)
 | 14 => fun _ => eqV (.string (textR r))
 | 15 => fun _ => eqV (.pointer (some ⟨g, 0, none⟩))
 | 16 => fun _ => eqV (.int .i64 (r.num : Int))
 | 17 => fun _ => eqV (.slice A n c)
 | 18 => fun _ => eqV (.string (rawI img r.num))
 | 19 => fun _ => eqV (.bool tx)
 | 20 => fun _ => eqV (.bool tx)
 | _ => fun _ _ _ => True
theorem ifoV_false_stable (X g n c : Nat) (A : Option Addr) (img : List ByteArray) (r : RecI) (tx : Bool) (j : Nat) (L L' : Nat → Bool) (v : Value) (w w' : World) (hs : Below w.heap.size w w') (h : ifoV_false X g n c A img r tx j L v w) : ifoV_false X g n c A img r tx j L' v w' := by
 match j, h with
 | 0, h => exact h
 | 1, h => exact h
 | 2, h => exact h
 | 3, h => exact h
 | 4, h => exact h
 | 5, h => exact h
 | 6, h => exact ownV.step h hs
 | 7, h => exact h
 | 8, h => exact h
 | 9, h => exact h
 | 10, h => exact h
 | 11, h => exact h
 | 12, h => exact h
 | 13, h => exact h
 | 14, h => exact h
 | 15, h => exact h
 | 16, h => exact h
 | 17, h => exact h
 | 18, h => exact h
 | 19, h => exact h
 | 20, h => exact h
 | _ + 21, _ => trivial

set_option maxRecDepth 100000 in
set_option maxHeartbeats 16000000 in
theorem isForm_any (A : Option Addr) (n c : Nat) (img : List ByteArray) (r : RecI) (w : World) (hr : OkR r) (br : BigR r) (h : Reads w w.heap.size 1 A n (encS img)) :
  Calls Tryz.prog 63 #[valR r, .slice A n c] w fun e w' => e = .returned (.bool (isFormI img r)) ∧ Below w.heap.size w w' := by
 have hmx : Tryz.prog.follows .mixedOrders = true := by kernel_rfl
 have HR := Lib.hid (And.intro hr br)
 have hB1 := BR.new w r
 have hb1 := (Below.refl w.heap.size w).alloc (Nat.le_refl _) (.cells (cellsR r).toArray 62)
 have hg1 : w.heap.size < (w.alloc (.cells (cellsR r).toArray 62)).heap.size := by simp
 have H := Lib.hid (h.step hb1)
 have hr1024 := hr.num
 have cn := fun W => needsI_any r.size (by have := hr.size; omega) W
 have cd : ∀ W, Calls Tryz.prog 74 #[valR r] W (RowP W (dataR r)) := fun W => data_any r hr W
 have ct : ∀ W, Calls Tryz.prog 70 #[valR r] W fun e w' => e = .returned (.string (textR r)) ∧ Below W.heap.size W w' := fun W => text_any r hr W
 have cb := fun W hW => numBytes_any A n c img r.num (by omega) W hW
 have cz := fun W => zerosI_any 32 (by omega) W
 have cp := fun W hW => parts_any r hr A n c img W hW
 have hck := hB1.kind
 have hcn := hB1.num
 have hcs := hB1.size
 have hci := hB1.ind hr
 have HB1 := Lib.hid (And.intro hB1 (And.intro hg1 hb1))
 have hfl := flatI_length img (dataR r)
 have hdl := dataR_length hr
 have HF : Hid ((flatR img r).length ≤ 8704) := Lib.hid (by unfold flatR; rw [hfl, hdl]; omega)
 clear h hr br hB1 hb1 hg1 hfl hdl
 unfold valR
 by_cases hk0 : r.kind = 0
 ·have HE : Hid (isFormI img r = decide (rawI img r.num = zeroN 32)) := Lib.hid (by unfold isFormI; rw [if_pos hk0])
  have hk0i : ((r.kind : Int) == 0) = true := by rw [hk0]; rfl
  clear hk0
  generalize rawI img r.num = s1 at cb HE
  generalize zeroN 32 = z1 at cz HE
  go_enter Tryz.func63, Tryz.ntmps63
  go_wp2_with fail
  refine (cb _ H.out).mono ?_
  rintro e w2 ⟨rfl, hb2⟩
  go_wp2_with fail
  refine (cz _).mono ?_
  rintro e w3 ⟨rfl, hb3⟩
  have HX := Lib.hid (HB1.out.2.2.trans ((bstep hb2 hb3).mono (by simp)))
  clear hb2 hb3
  go_wp2
  go_ret
  rw [HE.out, beq_bytes]
  exact ⟨rfl, HX.out⟩
 have hk0i : ((r.kind : Int) == 0) = false := by rw [beq_eq_false_iff_ne]; omega
 by_cases hk1 : r.kind = 1
 ·have hk1i : ((r.kind : Int) == 1) = true := by rw [hk1]; rfl
  have HE0 : Hid (isFormI img r = if 8704 < r.size then false else if (((r.ind : Int) != 0) != decide (4 < needN r.size)) = true then false else if (!decide (r = nameR r r.size (dataR r) r.ind)) = true then false else if textR r ≠ rawI img r.num then false else decide (mkB ((flatR img r).drop r.size) = zeroN ((flatR img r).length - r.size))) := Lib.hid (by unfold isFormI; rw [if_neg hk0, if_pos (.inl hk1)])
  clear hk0 hk1
  go_enter Tryz.func63, Tryz.ntmps63
  go_upto_region 7 with fail
  generalize w.alloc (.cells (cellsR r).toArray 62) = w1 at HB1 H hck hcn hcs hci ⊢
  obtain ⟨g, hg⟩ : ∃ g, g = w.heap.size := ⟨_, rfl⟩
  rw [← hg] at HB1 hck hcn hcs hci ⊢
  have HG := Lib.hid hg
  clear hg
  by_cases hbig : 8704 < r.size
  ·have HE : Hid (isFormI img r = false) := Lib.hid (by rw [HE0.out, if_pos hbig])
   have hbi : (8704 : Int) < (r.size : Int) := by omega
   have hbd : decide ((8704 : Int) < (r.size : Int)) = true := decide_eq_true hbi
   have hbn : decide (8704 < r.size) = true := decide_eq_true hbig
   clear hbig
   go_quiet ((go_at_call 78; refine Calls.quiet_of_same ((cn _).mono fun e w' h => ⟨h.1, h.2.symm⟩)))
   go_wp2
   go_ret
   rw [HE.out]
   exact ⟨rfl, by rw [← HG.out]; exact below_drewN HB1.out.2.2 nq⟩
  have hbi : ¬ (8704 : Int) < (r.size : Int) := by omega
  have hbd : decide ((8704 : Int) < (r.size : Int)) = false := decide_eq_false hbi
  have hbn : decide (8704 < r.size) = false := decide_eq_false hbig
  obtain ⟨b1, hb1⟩ : ∃ b : Bool, ((r.ind : Int) != 0) = b := ⟨_, rfl⟩
  obtain ⟨b2, hb2⟩ : ∃ b : Bool, decide (4 < needN r.size) = b := ⟨_, rfl⟩
  have hb2i : decide ((4 : Int) < ((needN r.size : Nat) : Int)) = b2 := by rw [← hb2, decide_eq_decide]; omega
  have HE1 : Hid (isFormI img r = if (b1 != b2) = true then false else if (!decide (r = nameR r r.size (dataR r) r.ind)) = true then false else if textR r ≠ rawI img r.num then false else decide (mkB ((flatR img r).drop r.size) = zeroN ((flatR img r).length - r.size))) := Lib.hid (by rw [HE0.out, if_neg hbig, hb1, hb2])
  clear hbig
  by_cases hx : (b1 != b2) = true
  ·have HE : Hid (isFormI img r = false) := Lib.hid (by rw [HE1.out, if_pos hx])
   have hx2 : (b1 == b2) = false := bools_ne hx
   go_quiet ((go_at_call 78; refine Calls.quiet_of_same ((cn _).mono fun e w' h => ⟨h.1, h.2.symm⟩)))
   go_wp2
   go_ret
   rw [HE.out]
   exact ⟨rfl, by rw [← HG.out]; exact below_drewN HB1.out.2.2 nq⟩
  ·have hbx : (b1 != b2) = false := by simpa using hx
   have hx2 : (b1 == b2) = true := bools_eq hx
   have HE9 : Hid (isFormI img r = if (!decide (r = nameR r r.size (dataR r) r.ind)) = true then false else if textR r ≠ rawI img r.num then false else decide (mkB ((flatR img r).drop r.size) = zeroN ((flatR img r).length - r.size))) := Lib.hid (by rw [HE1.out, if_neg hx])
   go_quiet ((go_at_call 78; refine Calls.quiet_of_same ((cn _).mono fun e w' h => ⟨h.1, h.2.symm⟩)))
   have HB2 := Lib.hid (show BR (w1.drewN nq) g r ∧ g < (w1.drewN nq).heap.size ∧ Below w.heap.size w (w1.drewN nq) from ⟨HB1.out.1.drewN nq, HB1.out.2.1, by rw [← HG.out]; exact below_drewN HB1.out.2.2 nq⟩)
   have H2 := Lib.hid (show Reads (w1.drewN nq) (w1.drewN nq).heap.size 1 A n (encS img) from H.out.drewN nq)
   clear HB1 H hck hcn hcs hci hb1 hb2 hb2i hx hbx hx2 hbi hbd hbn HE0 HE1
   go_upto_region 9 with fail
   generalize w1.drewN nq = w1 at HB2 H2 ⊢
   have HB1 := HB2
   have H := H2
   clear HB2 H2
   obtain ⟨tx, htx⟩ : ∃ b : Bool, b = !((textR r).toList == (rawI img r.num).toList) := ⟨_, rfl⟩
   have HTX := Lib.hid htx.symm
   clear htx
   by_cases hB : r = nameR r r.size (dataR r) r.ind
   ·have HDN : Hid ((!decide (r = nameR r r.size (dataR r) r.ind)) = false) := Lib.hid (by rw [decide_eq_true hB]; rfl)
    have HE8 : Hid (isFormI img r = if textR r ≠ rawI img r.num then false else decide (mkB ((flatR img r).drop r.size) = zeroN ((flatR img r).length - r.size))) := Lib.hid (by rw [HE9.out, HDN.out, if_neg (by decide)])
    clear hB
    refine wp_region_rel3 (fun _ w' => Below w1.heap.size w1 w') (fun _ w w' => Below w.heap.size w w') (ifoV_false w1.heap.size g n c A img r tx) hmx (by kernel_rfl) ((Below.refl _ _).drew) (fun i L w w' _ hC hs => bstep hC hs) (fun i j L v w w' _ _ _ hs h => ifoV_false_stable w1.heap.size g n c A img r tx j _ _ v w w' hs h) ?_ ?_
    ·refine ⟨?_, ?_, ?_, ?_, ?_, ?_, ?_, ?_, ?_, ?_, ?_, ?_, ?_, ?_, ?_, ?_, ?_, ?_, ?_, ?_, ?_, trivial⟩
     ·intro V L W hL hC hd K hK
      clear hd
      simp only [laidL, Act.put, List.setIfInBounds_toArray, List.set_cons_zero, List.set_cons_succ] at hK ⊢
      refine wp_load_mid 62 (.tmp 2) rfl _ 0 rfl (cellsR _) _ (HB1.out.1.below hC HB1.out.2.1).range Tryz.underlying62 rfl (by rw [cellsR_length HR.out.1]; exact sizeR) ?_
      exact hK (valR r) _ ⟨Below.refl _ _, rfl⟩
     ·intro V L W hL hC hd K hK
      clear hd
      simp only [laidL, Act.put, List.setIfInBounds_toArray, List.set_cons_zero, List.set_cons_succ] at hK ⊢
      refine wp_load_mid 62 (.tmp 2) rfl _ 0 rfl (cellsR _) _ (HB1.out.1.below hC HB1.out.2.1).range Tryz.underlying62 rfl (by rw [cellsR_length HR.out.1]; exact sizeR) ?_
      exact hK (valR r) _ ⟨Below.refl _ _, rfl⟩
     ·intro V L W hL hC hd K hK
      clear hd
      simp only [laidL, Act.put, List.setIfInBounds_toArray, List.set_cons_zero, List.set_cons_succ] at hK ⊢
      go_simp
      exact hK _ _ ⟨Below.refl _ _, rfl⟩
     ·intro V L W hL hC hd K hK
      have q2 : ifoV_false w1.heap.size g n c A img r tx 2 L (V 2) W := (hd.1).2
      have e2 : V 2 = .pointer (some ⟨g, 1, none⟩) := q2
      clear q2
      clear hd
      simp only [laidL, Act.put, List.setIfInBounds_toArray, List.set_cons_zero, List.set_cons_succ] at hK ⊢
      generalize V 2 = v2 at e2 hK ⊢
      subst e2
      go_simp
      exact hK _ _ ⟨Below.refl _ _, rfl⟩
     ·intro V L W hL hC hd K hK
      have q3 : ifoV_false w1.heap.size g n c A img r tx 3 L (V 3) W := (hd.1).2
      have e3 : V 3 = .pointer (some ⟨g, 2, none⟩) := q3
      clear q3
      clear hd
      simp only [laidL, Act.put, List.setIfInBounds_toArray, List.set_cons_zero, List.set_cons_succ] at hK ⊢
      generalize V 3 = v3 at e3 hK ⊢
      subst e3
      have hc := (HB1.out.1.below hC HB1.out.2.1).size
      go_simp
      exact hK _ _ ⟨Below.refl _ _, rfl⟩
     ·intro V L W hL hC hd K hK
      clear hd
      simp only [laidL, Act.put, List.setIfInBounds_toArray, List.set_cons_zero, List.set_cons_succ] at hK ⊢
      refine wp_load_mid 62 (.tmp 2) rfl _ 0 rfl (cellsR _) _ (HB1.out.1.below hC HB1.out.2.1).range Tryz.underlying62 rfl (by rw [cellsR_length HR.out.1]; exact sizeR) ?_
      exact hK (valR r) _ ⟨Below.refl _ _, rfl⟩
     ·intro V L W hL hC hd K hK
      have q5 : ifoV_false w1.heap.size g n c A img r tx 5 L (V 5) W := (hd.1).2
      have e5 : V 5 = valR r := q5
      clear q5
      clear hd
      simp only [laidL, Act.put, List.setIfInBounds_toArray, List.set_cons_zero, List.set_cons_succ] at hK ⊢
      generalize V 5 = v5 at e5 hK ⊢
      subst e5
      go_simp
      go_at_call 74
      refine (cd _).mono ?_
      rintro e w3 ⟨A3, c3, rfl, ho3, hb3⟩
      exact hK _ _ ⟨hb3, A3, c3, rfl, own_base ho3 hC.size⟩
     ·intro V L W hL hC hd K hK
      clear hd
      simp only [laidL, Act.put, List.setIfInBounds_toArray, List.set_cons_zero, List.set_cons_succ] at hK ⊢
      go_simp
      exact hK _ _ ⟨Below.refl _ _, rfl⟩
     ·intro V L W hL hC hd K hK
      have q7 : ifoV_false w1.heap.size g n c A img r tx 7 L (V 7) W := (hd.1).2
      have e7 : V 7 = .pointer (some ⟨g, 1, none⟩) := q7
      clear q7
      clear hd
      simp only [laidL, Act.put, List.setIfInBounds_toArray, List.set_cons_zero, List.set_cons_succ] at hK ⊢
      generalize V 7 = v7 at e7 hK ⊢
      subst e7
      go_simp
      exact hK _ _ ⟨Below.refl _ _, rfl⟩
     ·intro V L W hL hC hd K hK
      have q8 : ifoV_false w1.heap.size g n c A img r tx 8 L (V 8) W := (hd.1).2
      have e8 : V 8 = .pointer (some ⟨g, 7, none⟩) := q8
      clear q8
      clear hd
      simp only [laidL, Act.put, List.setIfInBounds_toArray, List.set_cons_zero, List.set_cons_succ] at hK ⊢
      generalize V 8 = v8 at e8 hK ⊢
      subst e8
      have hc := (HB1.out.1.below hC HB1.out.2.1).ind HR.out.1
      go_simp
      exact hK _ _ ⟨Below.refl _ _, rfl⟩
     ·intro V L W hL hC hd K hK
      have q1 : ifoV_false w1.heap.size g n c A img r tx 1 L (V 1) W := (hd.1).2
      have e1 : V 1 = valR r := q1
      clear q1
      have q4 : ifoV_false w1.heap.size g n c A img r tx 4 L (V 4) W := (hd.2.1).2
      have e4 : V 4 = .int .i64 (r.size : Int) := q4
      clear q4
      have q9 : ifoV_false w1.heap.size g n c A img r tx 9 L (V 9) W := (hd.2.2.2.1).2
      have e9 : V 9 = .int .i64 (r.ind : Int) := q9
      clear q9
      have o6 : ifoV_false w1.heap.size g n c A img r tx 6 L (V 6) W := (hd.2.2.1).2
      clear hd
      simp only [laidL, Act.put, List.setIfInBounds_toArray, List.set_cons_zero, List.set_cons_succ] at hK ⊢
      generalize V 1 = v1 at e1 hK ⊢
      subst e1
      generalize V 4 = v4 at e4 hK ⊢
      subst e4
      generalize V 9 = v9 at e9 hK ⊢
      subst e9
      obtain ⟨A5, c5, e6, ho5⟩ := o6
      have hll : (dataR r).length ≤ 68 := by rw [dataR_length HR.out.1]; omega
      obtain ⟨ll, hle⟩ : ∃ x, x = (dataR r).length := ⟨_, rfl⟩
      rw [← hle] at hll e6 ho5
      clear hle
      generalize V 6 = v6 at e6 hK ⊢
      subst e6
      have hA5 : (A5 = none ∧ c5 = 0) ∨ ∃ b o, A5 = some ⟨b, o, none⟩ ∧ b < W.heap.size := by
       rcases own_nil_or ho5 with ⟨e1, e2, _⟩ | ⟨b, e1⟩
       ·exact .inl ⟨e1, e2⟩
       ·subst e1
        exact .inr ⟨b, 0, rfl, (own_block ho5).2.1⟩
      have hle5 := own_le ho5
      have cs := naming_any r HR.out.1 r.size HR.out.1.size r.ind HR.out.1.ind A5 ll c5 (dataR r) W (Reads.of_own ho5) hll hle5 hA5
      clear hll hA5 hle5
      go_simp
      go_at_call 82
      refine cs.mono ?_
      rintro e w3 ⟨rfl, hb3⟩
      exact hK _ _ ⟨hb3, rfl⟩
     ·intro V L W hL hC hd K hK
      have q0 : ifoV_false w1.heap.size g n c A img r tx 0 L (V 0) W := (hd.1).2
      have e0 : V 0 = valR r := q0
      clear q0
      have q10 : ifoV_false w1.heap.size g n c A img r tx 10 L (V 10) W := (hd.2.1).2
      have e10 : V 10 = valR (nameR r r.size (dataR r) r.ind) := q10
      clear q10
      clear hd
      simp only [laidL, Act.put, List.setIfInBounds_toArray, List.set_cons_zero, List.set_cons_succ] at hK ⊢
      generalize V 0 = v0 at e0 hK ⊢
      subst e0
      generalize V 10 = v10 at e10 hK ⊢
      subst e10
      have hq := neqR_run HR.out.1 (nameR_ok HR.out.1 (size := r.size) (data := dataR r) (ind := r.ind) HR.out.1.size HR.out.1.ind) HR.out.2 (nameR_big HR.out.2 r.size r.ind) W
      rw [HDN.out] at hq
      have hgu := run_eqg W (nameR r r.size (dataR r) r.ind) r
      go_simp
      exact hK _ _ ⟨Below.refl _ _, rfl⟩
     ·intro V L W hL hC hd K hK
      have q11 : ifoV_false w1.heap.size g n c A img r tx 11 L (V 11) W := (hd.1).2
      have e11 : V 11 = .bool false := q11
      clear q11
      clear hd
      simp only [laidL, Act.put, List.setIfInBounds_toArray, List.set_cons_zero, List.set_cons_succ] at hK ⊢
      generalize V 11 = v11 at e11 hK ⊢
      subst e11
      go_simp
      exact hK _ _ ⟨Below.refl _ _, rfl⟩
     ·intro V L W hL hC hd
      have e12 : V 12 = .bool false := (hd.1).2
      unfold GivesG
      dsimp only
      refine (iff_of_eq (if_pos ?_)).mpr ?_
      ·clear hd hC hL
       simp only [laidL, Act.put, List.setIfInBounds_toArray, List.set_cons_zero, List.set_cons_succ]
       generalize V 12 = v12 at e12 ⊢
       subst e12
       kernel_rfl
      clear e12
      intro K hK
      clear hd
      simp only [laidL, Act.put, List.setIfInBounds_toArray, List.set_cons_zero, List.set_cons_succ] at hK ⊢
      refine wp_load_mid 62 (.tmp 2) rfl _ 0 rfl (cellsR _) _ (HB1.out.1.below hC HB1.out.2.1).range Tryz.underlying62 rfl (by rw [cellsR_length HR.out.1]; exact sizeR) ?_
      exact hK (valR r) _ ⟨Below.refl _ _, rfl⟩
     ·intro V L W hL hC hd
      have e12 : V 12 = .bool false := (hd.2.1).2
      unfold GivesG
      dsimp only
      refine (iff_of_eq (if_pos ?_)).mpr ?_
      ·clear hd hC hL
       simp only [laidL, Act.put, List.setIfInBounds_toArray, List.set_cons_zero, List.set_cons_succ]
       generalize V 12 = v12 at e12 ⊢
       subst e12
       kernel_rfl
      clear e12
      intro K hK
      have q13 : ifoV_false w1.heap.size g n c A img r tx 13 L (V 13) W := (hd.1).2
      have e13 : V 13 = valR r := q13
      clear q13
      clear hd
      simp only [laidL, Act.put, List.setIfInBounds_toArray, List.set_cons_zero, List.set_cons_succ] at hK ⊢
      generalize V 13 = v13 at e13 hK ⊢
      subst e13
      go_simp
      go_at_call 70
      refine (ct _).mono ?_
      rintro e w3 ⟨rfl, hb3⟩
      exact hK _ _ ⟨hb3, rfl⟩
     ·intro V L W hL hC hd
      have e12 : V 12 = .bool false := (hd.1).2
      unfold GivesG
      dsimp only
      refine (iff_of_eq (if_pos ?_)).mpr ?_
      ·clear hd hC hL
       simp only [laidL, Act.put, List.setIfInBounds_toArray, List.set_cons_zero, List.set_cons_succ]
       generalize V 12 = v12 at e12 ⊢
       subst e12
       kernel_rfl
      clear e12
      intro K hK
      clear hd
      simp only [laidL, Act.put, List.setIfInBounds_toArray, List.set_cons_zero, List.set_cons_succ] at hK ⊢
      go_simp
      exact hK _ _ ⟨Below.refl _ _, rfl⟩
     ·intro V L W hL hC hd
      have e12 : V 12 = .bool false := (hd.2.1).2
      unfold GivesG
      dsimp only
      refine (iff_of_eq (if_pos ?_)).mpr ?_
      ·clear hd hC hL
       simp only [laidL, Act.put, List.setIfInBounds_toArray, List.set_cons_zero, List.set_cons_succ]
       generalize V 12 = v12 at e12 ⊢
       subst e12
       kernel_rfl
      clear e12
      intro K hK
      have q15 : ifoV_false w1.heap.size g n c A img r tx 15 L (V 15) W := (hd.1).2
      have e15 : V 15 = .pointer (some ⟨g, 0, none⟩) := q15
      clear q15
      clear hd
      simp only [laidL, Act.put, List.setIfInBounds_toArray, List.set_cons_zero, List.set_cons_succ] at hK ⊢
      generalize V 15 = v15 at e15 hK ⊢
      subst e15
      have hc := (HB1.out.1.below hC HB1.out.2.1).num
      go_simp
      exact hK _ _ ⟨Below.refl _ _, rfl⟩
     ·intro V L W hL hC hd
      have e12 : V 12 = .bool false := (hd.1).2
      unfold GivesG
      dsimp only
      refine (iff_of_eq (if_pos ?_)).mpr ?_
      ·clear hd hC hL
       simp only [laidL, Act.put, List.setIfInBounds_toArray, List.set_cons_zero, List.set_cons_succ]
       generalize V 12 = v12 at e12 ⊢
       subst e12
       kernel_rfl
      clear e12
      intro K hK
      clear hd
      simp only [laidL, Act.put, List.setIfInBounds_toArray, List.set_cons_zero, List.set_cons_succ] at hK ⊢
      go_simp
      exact hK _ _ ⟨Below.refl _ _, rfl⟩
     ·intro V L W hL hC hd
      have e12 : V 12 = .bool false := (hd.2.2.2.1).2
      unfold GivesG
      dsimp only
      refine (iff_of_eq (if_pos ?_)).mpr ?_
      ·clear hd hC hL
       simp only [laidL, Act.put, List.setIfInBounds_toArray, List.set_cons_zero, List.set_cons_succ]
       generalize V 12 = v12 at e12 ⊢
       subst e12
       kernel_rfl
      clear e12
      intro K hK
      have q16 : ifoV_false w1.heap.size g n c A img r tx 16 L (V 16) W := (hd.1).2
      have e16 : V 16 = .int .i64 (r.num : Int) := q16
      clear q16
      have q17 : ifoV_false w1.heap.size g n c A img r tx 17 L (V 17) W := (hd.2.1).2
      have e17 : V 17 = .slice A n c := q17
      clear q17
      clear hd
      simp only [laidL, Act.put, List.setIfInBounds_toArray, List.set_cons_zero, List.set_cons_succ] at hK ⊢
      generalize V 16 = v16 at e16 hK ⊢
      subst e16
      generalize V 17 = v17 at e17 hK ⊢
      subst e17
      go_simp
      go_at_call 65
      refine (cb _ (H.out.step hC)).mono ?_
      rintro e w3 ⟨rfl, hb3⟩
      exact hK _ _ ⟨hb3, rfl⟩
     ·intro V L W hL hC hd
      have e12 : V 12 = .bool false := (hd.2.2.1).2
      unfold GivesG
      dsimp only
      refine (iff_of_eq (if_pos ?_)).mpr ?_
      ·clear hd hC hL
       simp only [laidL, Act.put, List.setIfInBounds_toArray, List.set_cons_zero, List.set_cons_succ]
       generalize V 12 = v12 at e12 ⊢
       subst e12
       kernel_rfl
      clear e12
      intro K hK
      have q14 : ifoV_false w1.heap.size g n c A img r tx 14 L (V 14) W := (hd.1).2
      have e14 : V 14 = .string (textR r) := q14
      clear q14
      have q18 : ifoV_false w1.heap.size g n c A img r tx 18 L (V 18) W := (hd.2.1).2
      have e18 : V 18 = .string (rawI img r.num) := q18
      clear q18
      clear hd
      simp only [laidL, Act.put, List.setIfInBounds_toArray, List.set_cons_zero, List.set_cons_succ] at hK ⊢
      generalize V 14 = v14 at e14 hK ⊢
      subst e14
      generalize V 18 = v18 at e18 hK ⊢
      subst e18
      have htx := HTX.out
      go_simp
      exact hK _ _ ⟨Below.refl _ _, rfl⟩
     ·intro V L W hL hC hd K hK
      have q12 : ifoV_false w1.heap.size g n c A img r tx 12 L (V 12) W := (hd.1).2
      have e12 : V 12 = .bool false := q12
      clear q12
      have q19 : ifoV_false w1.heap.size g n c A img r tx 19 L (V 19) W := (hd.2.1).2
      have e19 : V 19 = .bool tx := q19
      clear q19
      clear hd
      simp only [laidL, Act.put, List.setIfInBounds_toArray, List.set_cons_zero, List.set_cons_succ] at hK ⊢
      generalize V 12 = v12 at e12 hK ⊢
      subst e12
      generalize V 19 = v19 at e19 hK ⊢
      subst e19
      go_simp
      exact hK _ _ ⟨Below.refl _ _, rfl⟩
    ·intro V L W hL hC hV
     have e20 : V 20 = .bool tx := hV 20 (show 20 < 21 by decide)
     clear hV hL
     have HW := Lib.hid (show Below w.heap.size w W from HB1.out.2.2.trans (hC.mono (by have := HB1.out.2.1; rw [← HG.out]; omega)))
     have HR5 := Lib.hid (H.out.step hC)
     have HBW := Lib.hid (HB1.out.1.below hC HB1.out.2.1)
     clear hC
     simp only [laidL, Act.put, List.setIfInBounds_toArray, List.set_cons_zero, List.set_cons_succ]
     generalize V 20 = v20 at e20 ⊢
     subst e20
     cases tx with
     | true =>
      have HE : Hid (isFormI img r = false) := Lib.hid (by
       have h := HTX.out
       rw [beq_bytes] at h
       rw [HE8.out, if_pos (by simpa using h)])
      go_wp2
      go_ret
      rw [HE.out]
      exact ⟨rfl, HW.out⟩
     | false =>
      have HE2 : Hid (isFormI img r = decide (mkB ((flatR img r).drop r.size) = zeroN ((flatR img r).length - r.size))) := Lib.hid (by
       have h := HTX.out
       rw [beq_bytes] at h
       rw [HE8.out, if_neg (by simpa using h)])
      have cpw := cp W HR5.out
      clear cp cn cd ct cb cz
      have hlf : ((flatR img r).drop r.size).length = (flatR img r).length - r.size := List.length_drop
      have hsz : (mkB ((flatR img r).drop r.size)).size = (flatR img r).length - r.size := by rw [mkB_size, hlf]
      have czz := fun W => zerosI_any ((flatR img r).length - r.size) (by have := HF.out; omega) W
      have hHE := HE2.out
      clear hlf
      generalize (flatR img r).length - r.size = m at hsz czz hHE
      have HE := Lib.hid hHE
      clear hHE
      unfold PartsP at cpw
      generalize mkB ((flatR img r).drop r.size) = bh at hsz cpw HE
      generalize mkB ((flatR img r).take r.size) = ah at cpw
      go_wp2_with (refine wpList_load_mid rfl _ _ rfl g 0 rfl (cellsR r) _ HBW.out.range Tryz.underlying62 rfl (by rw [cellsR_length HR.out.1]; exact sizeR) ?_)
      refine cpw.mono ?_
      rintro e w5 ⟨rfl, hb5⟩
      have HW5 := Lib.hid (bstep HW.out hb5)
      clear hb5 cpw
      have hszi : (bh.size : Int) = (m : Int) := by rw [hsz]
      go_wp2_with fail
      refine (czz _).mono ?_
      rintro e w6 ⟨rfl, hb6⟩
      have HW6 := Lib.hid (bstep HW5.out hb6)
      clear hb6 czz
      go_wp2
      go_ret
      rw [HE.out, beq_bytes]
      exact ⟨rfl, HW6.out⟩
   ·have HDN : Hid ((!decide (r = nameR r r.size (dataR r) r.ind)) = true) := Lib.hid (by rw [decide_eq_false hB]; rfl)
    have HE : Hid (isFormI img r = false) := Lib.hid (by rw [HE9.out, HDN.out, if_pos rfl])
    clear hB
    refine wp_region_rel3 (fun _ w' => Below w1.heap.size w1 w') (fun _ w w' => Below w.heap.size w w') (ifoV_true w1.heap.size g n c A img r tx) hmx (by kernel_rfl) ((Below.refl _ _).drew) (fun i L w w' _ hC hs => bstep hC hs) (fun i j L v w w' _ _ _ hs h => ifoV_true_stable w1.heap.size g n c A img r tx j _ _ v w w' hs h) ?_ ?_
    ·refine ⟨?_, ?_, ?_, ?_, ?_, ?_, ?_, ?_, ?_, ?_, ?_, ?_, ?_, ?_, ?_, ?_, ?_, ?_, ?_, ?_, ?_, trivial⟩
     ·intro V L W hL hC hd K hK
      clear hd
      simp only [laidL, Act.put, List.setIfInBounds_toArray, List.set_cons_zero, List.set_cons_succ] at hK ⊢
      refine wp_load_mid 62 (.tmp 2) rfl _ 0 rfl (cellsR _) _ (HB1.out.1.below hC HB1.out.2.1).range Tryz.underlying62 rfl (by rw [cellsR_length HR.out.1]; exact sizeR) ?_
      exact hK (valR r) _ ⟨Below.refl _ _, rfl⟩
     ·intro V L W hL hC hd K hK
      clear hd
      simp only [laidL, Act.put, List.setIfInBounds_toArray, List.set_cons_zero, List.set_cons_succ] at hK ⊢
      refine wp_load_mid 62 (.tmp 2) rfl _ 0 rfl (cellsR _) _ (HB1.out.1.below hC HB1.out.2.1).range Tryz.underlying62 rfl (by rw [cellsR_length HR.out.1]; exact sizeR) ?_
      exact hK (valR r) _ ⟨Below.refl _ _, rfl⟩
     ·intro V L W hL hC hd K hK
      clear hd
      simp only [laidL, Act.put, List.setIfInBounds_toArray, List.set_cons_zero, List.set_cons_succ] at hK ⊢
      go_simp
      exact hK _ _ ⟨Below.refl _ _, rfl⟩
     ·intro V L W hL hC hd K hK
      have q2 : ifoV_true w1.heap.size g n c A img r tx 2 L (V 2) W := (hd.1).2
      have e2 : V 2 = .pointer (some ⟨g, 1, none⟩) := q2
      clear q2
      clear hd
      simp only [laidL, Act.put, List.setIfInBounds_toArray, List.set_cons_zero, List.set_cons_succ] at hK ⊢
      generalize V 2 = v2 at e2 hK ⊢
      subst e2
      go_simp
      exact hK _ _ ⟨Below.refl _ _, rfl⟩
     ·intro V L W hL hC hd K hK
      have q3 : ifoV_true w1.heap.size g n c A img r tx 3 L (V 3) W := (hd.1).2
      have e3 : V 3 = .pointer (some ⟨g, 2, none⟩) := q3
      clear q3
      clear hd
      simp only [laidL, Act.put, List.setIfInBounds_toArray, List.set_cons_zero, List.set_cons_succ] at hK ⊢
      generalize V 3 = v3 at e3 hK ⊢
      subst e3
      have hc := (HB1.out.1.below hC HB1.out.2.1).size
      go_simp
      exact hK _ _ ⟨Below.refl _ _, rfl⟩
     ·intro V L W hL hC hd K hK
      clear hd
      simp only [laidL, Act.put, List.setIfInBounds_toArray, List.set_cons_zero, List.set_cons_succ] at hK ⊢
      refine wp_load_mid 62 (.tmp 2) rfl _ 0 rfl (cellsR _) _ (HB1.out.1.below hC HB1.out.2.1).range Tryz.underlying62 rfl (by rw [cellsR_length HR.out.1]; exact sizeR) ?_
      exact hK (valR r) _ ⟨Below.refl _ _, rfl⟩
     ·intro V L W hL hC hd K hK
      have q5 : ifoV_true w1.heap.size g n c A img r tx 5 L (V 5) W := (hd.1).2
      have e5 : V 5 = valR r := q5
      clear q5
      clear hd
      simp only [laidL, Act.put, List.setIfInBounds_toArray, List.set_cons_zero, List.set_cons_succ] at hK ⊢
      generalize V 5 = v5 at e5 hK ⊢
      subst e5
      go_simp
      go_at_call 74
      refine (cd _).mono ?_
      rintro e w3 ⟨A3, c3, rfl, ho3, hb3⟩
      exact hK _ _ ⟨hb3, A3, c3, rfl, own_base ho3 hC.size⟩
     ·intro V L W hL hC hd K hK
      clear hd
      simp only [laidL, Act.put, List.setIfInBounds_toArray, List.set_cons_zero, List.set_cons_succ] at hK ⊢
      go_simp
      exact hK _ _ ⟨Below.refl _ _, rfl⟩
     ·intro V L W hL hC hd K hK
      have q7 : ifoV_true w1.heap.size g n c A img r tx 7 L (V 7) W := (hd.1).2
      have e7 : V 7 = .pointer (some ⟨g, 1, none⟩) := q7
      clear q7
      clear hd
      simp only [laidL, Act.put, List.setIfInBounds_toArray, List.set_cons_zero, List.set_cons_succ] at hK ⊢
      generalize V 7 = v7 at e7 hK ⊢
      subst e7
      go_simp
      exact hK _ _ ⟨Below.refl _ _, rfl⟩
     ·intro V L W hL hC hd K hK
      have q8 : ifoV_true w1.heap.size g n c A img r tx 8 L (V 8) W := (hd.1).2
      have e8 : V 8 = .pointer (some ⟨g, 7, none⟩) := q8
      clear q8
      clear hd
      simp only [laidL, Act.put, List.setIfInBounds_toArray, List.set_cons_zero, List.set_cons_succ] at hK ⊢
      generalize V 8 = v8 at e8 hK ⊢
      subst e8
      have hc := (HB1.out.1.below hC HB1.out.2.1).ind HR.out.1
      go_simp
      exact hK _ _ ⟨Below.refl _ _, rfl⟩
     ·intro V L W hL hC hd K hK
      have q1 : ifoV_true w1.heap.size g n c A img r tx 1 L (V 1) W := (hd.1).2
      have e1 : V 1 = valR r := q1
      clear q1
      have q4 : ifoV_true w1.heap.size g n c A img r tx 4 L (V 4) W := (hd.2.1).2
      have e4 : V 4 = .int .i64 (r.size : Int) := q4
      clear q4
      have q9 : ifoV_true w1.heap.size g n c A img r tx 9 L (V 9) W := (hd.2.2.2.1).2
      have e9 : V 9 = .int .i64 (r.ind : Int) := q9
      clear q9
      have o6 : ifoV_true w1.heap.size g n c A img r tx 6 L (V 6) W := (hd.2.2.1).2
      clear hd
      simp only [laidL, Act.put, List.setIfInBounds_toArray, List.set_cons_zero, List.set_cons_succ] at hK ⊢
      generalize V 1 = v1 at e1 hK ⊢
      subst e1
      generalize V 4 = v4 at e4 hK ⊢
      subst e4
      generalize V 9 = v9 at e9 hK ⊢
      subst e9
      obtain ⟨A5, c5, e6, ho5⟩ := o6
      have hll : (dataR r).length ≤ 68 := by rw [dataR_length HR.out.1]; omega
      obtain ⟨ll, hle⟩ : ∃ x, x = (dataR r).length := ⟨_, rfl⟩
      rw [← hle] at hll e6 ho5
      clear hle
      generalize V 6 = v6 at e6 hK ⊢
      subst e6
      have hA5 : (A5 = none ∧ c5 = 0) ∨ ∃ b o, A5 = some ⟨b, o, none⟩ ∧ b < W.heap.size := by
       rcases own_nil_or ho5 with ⟨e1, e2, _⟩ | ⟨b, e1⟩
       ·exact .inl ⟨e1, e2⟩
       ·subst e1
        exact .inr ⟨b, 0, rfl, (own_block ho5).2.1⟩
      have hle5 := own_le ho5
      have cs := naming_any r HR.out.1 r.size HR.out.1.size r.ind HR.out.1.ind A5 ll c5 (dataR r) W (Reads.of_own ho5) hll hle5 hA5
      clear hll hA5 hle5
      go_simp
      go_at_call 82
      refine cs.mono ?_
      rintro e w3 ⟨rfl, hb3⟩
      exact hK _ _ ⟨hb3, rfl⟩
     ·intro V L W hL hC hd K hK
      have q0 : ifoV_true w1.heap.size g n c A img r tx 0 L (V 0) W := (hd.1).2
      have e0 : V 0 = valR r := q0
      clear q0
      have q10 : ifoV_true w1.heap.size g n c A img r tx 10 L (V 10) W := (hd.2.1).2
      have e10 : V 10 = valR (nameR r r.size (dataR r) r.ind) := q10
      clear q10
      clear hd
      simp only [laidL, Act.put, List.setIfInBounds_toArray, List.set_cons_zero, List.set_cons_succ] at hK ⊢
      generalize V 0 = v0 at e0 hK ⊢
      subst e0
      generalize V 10 = v10 at e10 hK ⊢
      subst e10
      have hq := neqR_run HR.out.1 (nameR_ok HR.out.1 (size := r.size) (data := dataR r) (ind := r.ind) HR.out.1.size HR.out.1.ind) HR.out.2 (nameR_big HR.out.2 r.size r.ind) W
      rw [HDN.out] at hq
      have hgu := run_eqg W (nameR r r.size (dataR r) r.ind) r
      go_simp
      exact hK _ _ ⟨Below.refl _ _, rfl⟩
     ·intro V L W hL hC hd K hK
      have q11 : ifoV_true w1.heap.size g n c A img r tx 11 L (V 11) W := (hd.1).2
      have e11 : V 11 = .bool true := q11
      clear q11
      clear hd
      simp only [laidL, Act.put, List.setIfInBounds_toArray, List.set_cons_zero, List.set_cons_succ] at hK ⊢
      generalize V 11 = v11 at e11 hK ⊢
      subst e11
      go_simp
      exact hK _ _ ⟨Below.refl _ _, rfl⟩
     ·intro V L W hL hC hd
      have e12 : V 12 = .bool true := (hd.1).2
      clear hd
      unfold GivesG
      dsimp only
      refine (iff_of_eq (if_neg ?_)).mpr ?_
      ·clear hC hL
       simp only [laidL, Act.put, List.setIfInBounds_toArray, List.set_cons_zero, List.set_cons_succ]
       generalize V 12 = v12 at e12 ⊢
       subst e12
       refine no_yield ?_
       kernel_rfl
      ·exact ⟨Below.refl _ _, rfl⟩
     ·intro V L W hL hC hd
      have e12 : V 12 = .bool true := (hd.2.1).2
      clear hd
      unfold GivesG
      dsimp only
      refine (iff_of_eq (if_neg ?_)).mpr ?_
      ·clear hC hL
       simp only [laidL, Act.put, List.setIfInBounds_toArray, List.set_cons_zero, List.set_cons_succ]
       generalize V 12 = v12 at e12 ⊢
       subst e12
       refine no_yield ?_
       kernel_rfl
      ·exact ⟨Below.refl _ _, rfl⟩
     ·intro V L W hL hC hd
      have e12 : V 12 = .bool true := (hd.1).2
      clear hd
      unfold GivesG
      dsimp only
      refine (iff_of_eq (if_neg ?_)).mpr ?_
      ·clear hC hL
       simp only [laidL, Act.put, List.setIfInBounds_toArray, List.set_cons_zero, List.set_cons_succ]
       generalize V 12 = v12 at e12 ⊢
       subst e12
       refine no_yield ?_
       kernel_rfl
      ·exact ⟨Below.refl _ _, rfl⟩
     ·intro V L W hL hC hd
      have e12 : V 12 = .bool true := (hd.2.1).2
      clear hd
      unfold GivesG
      dsimp only
      refine (iff_of_eq (if_neg ?_)).mpr ?_
      ·clear hC hL
       simp only [laidL, Act.put, List.setIfInBounds_toArray, List.set_cons_zero, List.set_cons_succ]
       generalize V 12 = v12 at e12 ⊢
       subst e12
       refine no_yield ?_
       kernel_rfl
      ·exact ⟨Below.refl _ _, rfl⟩
     ·intro V L W hL hC hd
      have e12 : V 12 = .bool true := (hd.1).2
      clear hd
      unfold GivesG
      dsimp only
      refine (iff_of_eq (if_neg ?_)).mpr ?_
      ·clear hC hL
       simp only [laidL, Act.put, List.setIfInBounds_toArray, List.set_cons_zero, List.set_cons_succ]
       generalize V 12 = v12 at e12 ⊢
       subst e12
       refine no_yield ?_
       kernel_rfl
      ·exact ⟨Below.refl _ _, rfl⟩
     ·intro V L W hL hC hd
      have e12 : V 12 = .bool true := (hd.2.2.2.1).2
      clear hd
      unfold GivesG
      dsimp only
      refine (iff_of_eq (if_neg ?_)).mpr ?_
      ·clear hC hL
       simp only [laidL, Act.put, List.setIfInBounds_toArray, List.set_cons_zero, List.set_cons_succ]
       generalize V 12 = v12 at e12 ⊢
       subst e12
       refine no_yield ?_
       kernel_rfl
      ·exact ⟨Below.refl _ _, rfl⟩
     ·intro V L W hL hC hd
      have e12 : V 12 = .bool true := (hd.2.2.1).2
      clear hd
      unfold GivesG
      dsimp only
      refine (iff_of_eq (if_neg ?_)).mpr ?_
      ·clear hC hL
       simp only [laidL, Act.put, List.setIfInBounds_toArray, List.set_cons_zero, List.set_cons_succ]
       generalize V 12 = v12 at e12 ⊢
       subst e12
       refine no_yield ?_
       kernel_rfl
      ·exact ⟨Below.refl _ _, rfl⟩
     ·intro V L W hL hC hd K hK
      have q12 : ifoV_true w1.heap.size g n c A img r tx 12 L (V 12) W := (hd.1).2
      have e12 : V 12 = .bool true := q12
      clear q12
      have q19 : ifoV_true w1.heap.size g n c A img r tx 19 L (V 19) W := (hd.2.1).2
      have e19 : V 19 = undef := q19
      clear q19
      clear hd
      simp only [laidL, Act.put, List.setIfInBounds_toArray, List.set_cons_zero, List.set_cons_succ] at hK ⊢
      generalize V 12 = v12 at e12 hK ⊢
      subst e12
      generalize V 19 = v19 at e19 hK ⊢
      subst e19
      go_simp
      exact hK _ _ ⟨Below.refl _ _, rfl⟩
    ·intro V L W hL hC hV
     have e20 : V 20 = .bool true := hV 20 (show 20 < 21 by decide)
     clear hV hL
     have HW := Lib.hid (show Below w.heap.size w W from HB1.out.2.2.trans (hC.mono (by have := HB1.out.2.1; rw [← HG.out]; omega)))
     have HR5 := Lib.hid (H.out.step hC)
     have HBW := Lib.hid (HB1.out.1.below hC HB1.out.2.1)
     clear hC
     simp only [laidL, Act.put, List.setIfInBounds_toArray, List.set_cons_zero, List.set_cons_succ]
     generalize V 20 = v20 at e20 ⊢
     subst e20
     go_wp2
     go_ret
     rw [HE.out]
     exact ⟨rfl, HW.out⟩
 have hk1i : ((r.kind : Int) == 1) = false := by rw [beq_eq_false_iff_ne]; omega
 by_cases hk2 : r.kind = 2
 ·have hk2i : ((r.kind : Int) == 2) = true := by rw [hk2]; rfl
  have HE0 : Hid (isFormI img r = if 8704 < r.size then false else if (((r.ind : Int) != 0) != decide (4 < needN r.size)) = true then false else if (!decide (r = nameR r r.size (dataR r) r.ind)) = true then false else if textR r ≠ rawI img r.num then false else decide (mkB ((flatR img r).drop r.size) = zeroN ((flatR img r).length - r.size))) := Lib.hid (by unfold isFormI; rw [if_neg hk0, if_pos (.inr hk2)])
  clear hk0 hk1 hk2
  go_enter Tryz.func63, Tryz.ntmps63
  go_upto_region 7 with fail
  generalize w.alloc (.cells (cellsR r).toArray 62) = w1 at HB1 H hck hcn hcs hci ⊢
  obtain ⟨g, hg⟩ : ∃ g, g = w.heap.size := ⟨_, rfl⟩
  rw [← hg] at HB1 hck hcn hcs hci ⊢
  have HG := Lib.hid hg
  clear hg
  by_cases hbig : 8704 < r.size
  ·have HE : Hid (isFormI img r = false) := Lib.hid (by rw [HE0.out, if_pos hbig])
   have hbi : (8704 : Int) < (r.size : Int) := by omega
   have hbd : decide ((8704 : Int) < (r.size : Int)) = true := decide_eq_true hbi
   have hbn : decide (8704 < r.size) = true := decide_eq_true hbig
   clear hbig
   go_quiet ((go_at_call 78; refine Calls.quiet_of_same ((cn _).mono fun e w' h => ⟨h.1, h.2.symm⟩)))
   go_wp2
   go_ret
   rw [HE.out]
   exact ⟨rfl, by rw [← HG.out]; exact below_drewN HB1.out.2.2 nq⟩
  have hbi : ¬ (8704 : Int) < (r.size : Int) := by omega
  have hbd : decide ((8704 : Int) < (r.size : Int)) = false := decide_eq_false hbi
  have hbn : decide (8704 < r.size) = false := decide_eq_false hbig
  obtain ⟨b1, hb1⟩ : ∃ b : Bool, ((r.ind : Int) != 0) = b := ⟨_, rfl⟩
  obtain ⟨b2, hb2⟩ : ∃ b : Bool, decide (4 < needN r.size) = b := ⟨_, rfl⟩
  have hb2i : decide ((4 : Int) < ((needN r.size : Nat) : Int)) = b2 := by rw [← hb2, decide_eq_decide]; omega
  have HE1 : Hid (isFormI img r = if (b1 != b2) = true then false else if (!decide (r = nameR r r.size (dataR r) r.ind)) = true then false else if textR r ≠ rawI img r.num then false else decide (mkB ((flatR img r).drop r.size) = zeroN ((flatR img r).length - r.size))) := Lib.hid (by rw [HE0.out, if_neg hbig, hb1, hb2])
  clear hbig
  by_cases hx : (b1 != b2) = true
  ·have HE : Hid (isFormI img r = false) := Lib.hid (by rw [HE1.out, if_pos hx])
   have hx2 : (b1 == b2) = false := bools_ne hx
   go_quiet ((go_at_call 78; refine Calls.quiet_of_same ((cn _).mono fun e w' h => ⟨h.1, h.2.symm⟩)))
   go_wp2
   go_ret
   rw [HE.out]
   exact ⟨rfl, by rw [← HG.out]; exact below_drewN HB1.out.2.2 nq⟩
  ·have hbx : (b1 != b2) = false := by simpa using hx
   have hx2 : (b1 == b2) = true := bools_eq hx
   have HE9 : Hid (isFormI img r = if (!decide (r = nameR r r.size (dataR r) r.ind)) = true then false else if textR r ≠ rawI img r.num then false else decide (mkB ((flatR img r).drop r.size) = zeroN ((flatR img r).length - r.size))) := Lib.hid (by rw [HE1.out, if_neg hx])
   go_quiet ((go_at_call 78; refine Calls.quiet_of_same ((cn _).mono fun e w' h => ⟨h.1, h.2.symm⟩)))
   have HB2 := Lib.hid (show BR (w1.drewN nq) g r ∧ g < (w1.drewN nq).heap.size ∧ Below w.heap.size w (w1.drewN nq) from ⟨HB1.out.1.drewN nq, HB1.out.2.1, by rw [← HG.out]; exact below_drewN HB1.out.2.2 nq⟩)
   have H2 := Lib.hid (show Reads (w1.drewN nq) (w1.drewN nq).heap.size 1 A n (encS img) from H.out.drewN nq)
   clear HB1 H hck hcn hcs hci hb1 hb2 hb2i hx hbx hx2 hbi hbd hbn HE0 HE1
   go_upto_region 9 with fail
   generalize w1.drewN nq = w1 at HB2 H2 ⊢
   have HB1 := HB2
   have H := H2
   clear HB2 H2
   obtain ⟨tx, htx⟩ : ∃ b : Bool, b = !((textR r).toList == (rawI img r.num).toList) := ⟨_, rfl⟩
   have HTX := Lib.hid htx.symm
   clear htx
   by_cases hB : r = nameR r r.size (dataR r) r.ind
   ·have HDN : Hid ((!decide (r = nameR r r.size (dataR r) r.ind)) = false) := Lib.hid (by rw [decide_eq_true hB]; rfl)
    have HE8 : Hid (isFormI img r = if textR r ≠ rawI img r.num then false else decide (mkB ((flatR img r).drop r.size) = zeroN ((flatR img r).length - r.size))) := Lib.hid (by rw [HE9.out, HDN.out, if_neg (by decide)])
    clear hB
    refine wp_region_rel3 (fun _ w' => Below w1.heap.size w1 w') (fun _ w w' => Below w.heap.size w w') (ifoV_false w1.heap.size g n c A img r tx) hmx (by kernel_rfl) ((Below.refl _ _).drew) (fun i L w w' _ hC hs => bstep hC hs) (fun i j L v w w' _ _ _ hs h => ifoV_false_stable w1.heap.size g n c A img r tx j _ _ v w w' hs h) ?_ ?_
    ·refine ⟨?_, ?_, ?_, ?_, ?_, ?_, ?_, ?_, ?_, ?_, ?_, ?_, ?_, ?_, ?_, ?_, ?_, ?_, ?_, ?_, ?_, trivial⟩
     ·intro V L W hL hC hd K hK
      clear hd
      simp only [laidL, Act.put, List.setIfInBounds_toArray, List.set_cons_zero, List.set_cons_succ] at hK ⊢
      refine wp_load_mid 62 (.tmp 2) rfl _ 0 rfl (cellsR _) _ (HB1.out.1.below hC HB1.out.2.1).range Tryz.underlying62 rfl (by rw [cellsR_length HR.out.1]; exact sizeR) ?_
      exact hK (valR r) _ ⟨Below.refl _ _, rfl⟩
     ·intro V L W hL hC hd K hK
      clear hd
      simp only [laidL, Act.put, List.setIfInBounds_toArray, List.set_cons_zero, List.set_cons_succ] at hK ⊢
      refine wp_load_mid 62 (.tmp 2) rfl _ 0 rfl (cellsR _) _ (HB1.out.1.below hC HB1.out.2.1).range Tryz.underlying62 rfl (by rw [cellsR_length HR.out.1]; exact sizeR) ?_
      exact hK (valR r) _ ⟨Below.refl _ _, rfl⟩
     ·intro V L W hL hC hd K hK
      clear hd
      simp only [laidL, Act.put, List.setIfInBounds_toArray, List.set_cons_zero, List.set_cons_succ] at hK ⊢
      go_simp
      exact hK _ _ ⟨Below.refl _ _, rfl⟩
     ·intro V L W hL hC hd K hK
      have q2 : ifoV_false w1.heap.size g n c A img r tx 2 L (V 2) W := (hd.1).2
      have e2 : V 2 = .pointer (some ⟨g, 1, none⟩) := q2
      clear q2
      clear hd
      simp only [laidL, Act.put, List.setIfInBounds_toArray, List.set_cons_zero, List.set_cons_succ] at hK ⊢
      generalize V 2 = v2 at e2 hK ⊢
      subst e2
      go_simp
      exact hK _ _ ⟨Below.refl _ _, rfl⟩
     ·intro V L W hL hC hd K hK
      have q3 : ifoV_false w1.heap.size g n c A img r tx 3 L (V 3) W := (hd.1).2
      have e3 : V 3 = .pointer (some ⟨g, 2, none⟩) := q3
      clear q3
      clear hd
      simp only [laidL, Act.put, List.setIfInBounds_toArray, List.set_cons_zero, List.set_cons_succ] at hK ⊢
      generalize V 3 = v3 at e3 hK ⊢
      subst e3
      have hc := (HB1.out.1.below hC HB1.out.2.1).size
      go_simp
      exact hK _ _ ⟨Below.refl _ _, rfl⟩
     ·intro V L W hL hC hd K hK
      clear hd
      simp only [laidL, Act.put, List.setIfInBounds_toArray, List.set_cons_zero, List.set_cons_succ] at hK ⊢
      refine wp_load_mid 62 (.tmp 2) rfl _ 0 rfl (cellsR _) _ (HB1.out.1.below hC HB1.out.2.1).range Tryz.underlying62 rfl (by rw [cellsR_length HR.out.1]; exact sizeR) ?_
      exact hK (valR r) _ ⟨Below.refl _ _, rfl⟩
     ·intro V L W hL hC hd K hK
      have q5 : ifoV_false w1.heap.size g n c A img r tx 5 L (V 5) W := (hd.1).2
      have e5 : V 5 = valR r := q5
      clear q5
      clear hd
      simp only [laidL, Act.put, List.setIfInBounds_toArray, List.set_cons_zero, List.set_cons_succ] at hK ⊢
      generalize V 5 = v5 at e5 hK ⊢
      subst e5
      go_simp
      go_at_call 74
      refine (cd _).mono ?_
      rintro e w3 ⟨A3, c3, rfl, ho3, hb3⟩
      exact hK _ _ ⟨hb3, A3, c3, rfl, own_base ho3 hC.size⟩
     ·intro V L W hL hC hd K hK
      clear hd
      simp only [laidL, Act.put, List.setIfInBounds_toArray, List.set_cons_zero, List.set_cons_succ] at hK ⊢
      go_simp
      exact hK _ _ ⟨Below.refl _ _, rfl⟩
     ·intro V L W hL hC hd K hK
      have q7 : ifoV_false w1.heap.size g n c A img r tx 7 L (V 7) W := (hd.1).2
      have e7 : V 7 = .pointer (some ⟨g, 1, none⟩) := q7
      clear q7
      clear hd
      simp only [laidL, Act.put, List.setIfInBounds_toArray, List.set_cons_zero, List.set_cons_succ] at hK ⊢
      generalize V 7 = v7 at e7 hK ⊢
      subst e7
      go_simp
      exact hK _ _ ⟨Below.refl _ _, rfl⟩
     ·intro V L W hL hC hd K hK
      have q8 : ifoV_false w1.heap.size g n c A img r tx 8 L (V 8) W := (hd.1).2
      have e8 : V 8 = .pointer (some ⟨g, 7, none⟩) := q8
      clear q8
      clear hd
      simp only [laidL, Act.put, List.setIfInBounds_toArray, List.set_cons_zero, List.set_cons_succ] at hK ⊢
      generalize V 8 = v8 at e8 hK ⊢
      subst e8
      have hc := (HB1.out.1.below hC HB1.out.2.1).ind HR.out.1
      go_simp
      exact hK _ _ ⟨Below.refl _ _, rfl⟩
     ·intro V L W hL hC hd K hK
      have q1 : ifoV_false w1.heap.size g n c A img r tx 1 L (V 1) W := (hd.1).2
      have e1 : V 1 = valR r := q1
      clear q1
      have q4 : ifoV_false w1.heap.size g n c A img r tx 4 L (V 4) W := (hd.2.1).2
      have e4 : V 4 = .int .i64 (r.size : Int) := q4
      clear q4
      have q9 : ifoV_false w1.heap.size g n c A img r tx 9 L (V 9) W := (hd.2.2.2.1).2
      have e9 : V 9 = .int .i64 (r.ind : Int) := q9
      clear q9
      have o6 : ifoV_false w1.heap.size g n c A img r tx 6 L (V 6) W := (hd.2.2.1).2
      clear hd
      simp only [laidL, Act.put, List.setIfInBounds_toArray, List.set_cons_zero, List.set_cons_succ] at hK ⊢
      generalize V 1 = v1 at e1 hK ⊢
      subst e1
      generalize V 4 = v4 at e4 hK ⊢
      subst e4
      generalize V 9 = v9 at e9 hK ⊢
      subst e9
      obtain ⟨A5, c5, e6, ho5⟩ := o6
      have hll : (dataR r).length ≤ 68 := by rw [dataR_length HR.out.1]; omega
      obtain ⟨ll, hle⟩ : ∃ x, x = (dataR r).length := ⟨_, rfl⟩
      rw [← hle] at hll e6 ho5
      clear hle
      generalize V 6 = v6 at e6 hK ⊢
      subst e6
      have hA5 : (A5 = none ∧ c5 = 0) ∨ ∃ b o, A5 = some ⟨b, o, none⟩ ∧ b < W.heap.size := by
       rcases own_nil_or ho5 with ⟨e1, e2, _⟩ | ⟨b, e1⟩
       ·exact .inl ⟨e1, e2⟩
       ·subst e1
        exact .inr ⟨b, 0, rfl, (own_block ho5).2.1⟩
      have hle5 := own_le ho5
      have cs := naming_any r HR.out.1 r.size HR.out.1.size r.ind HR.out.1.ind A5 ll c5 (dataR r) W (Reads.of_own ho5) hll hle5 hA5
      clear hll hA5 hle5
      go_simp
      go_at_call 82
      refine cs.mono ?_
      rintro e w3 ⟨rfl, hb3⟩
      exact hK _ _ ⟨hb3, rfl⟩
     ·intro V L W hL hC hd K hK
      have q0 : ifoV_false w1.heap.size g n c A img r tx 0 L (V 0) W := (hd.1).2
      have e0 : V 0 = valR r := q0
      clear q0
      have q10 : ifoV_false w1.heap.size g n c A img r tx 10 L (V 10) W := (hd.2.1).2
      have e10 : V 10 = valR (nameR r r.size (dataR r) r.ind) := q10
      clear q10
      clear hd
      simp only [laidL, Act.put, List.setIfInBounds_toArray, List.set_cons_zero, List.set_cons_succ] at hK ⊢
      generalize V 0 = v0 at e0 hK ⊢
      subst e0
      generalize V 10 = v10 at e10 hK ⊢
      subst e10
      have hq := neqR_run HR.out.1 (nameR_ok HR.out.1 (size := r.size) (data := dataR r) (ind := r.ind) HR.out.1.size HR.out.1.ind) HR.out.2 (nameR_big HR.out.2 r.size r.ind) W
      rw [HDN.out] at hq
      have hgu := run_eqg W (nameR r r.size (dataR r) r.ind) r
      go_simp
      exact hK _ _ ⟨Below.refl _ _, rfl⟩
     ·intro V L W hL hC hd K hK
      have q11 : ifoV_false w1.heap.size g n c A img r tx 11 L (V 11) W := (hd.1).2
      have e11 : V 11 = .bool false := q11
      clear q11
      clear hd
      simp only [laidL, Act.put, List.setIfInBounds_toArray, List.set_cons_zero, List.set_cons_succ] at hK ⊢
      generalize V 11 = v11 at e11 hK ⊢
      subst e11
      go_simp
      exact hK _ _ ⟨Below.refl _ _, rfl⟩
     ·intro V L W hL hC hd
      have e12 : V 12 = .bool false := (hd.1).2
      unfold GivesG
      dsimp only
      refine (iff_of_eq (if_pos ?_)).mpr ?_
      ·clear hd hC hL
       simp only [laidL, Act.put, List.setIfInBounds_toArray, List.set_cons_zero, List.set_cons_succ]
       generalize V 12 = v12 at e12 ⊢
       subst e12
       kernel_rfl
      clear e12
      intro K hK
      clear hd
      simp only [laidL, Act.put, List.setIfInBounds_toArray, List.set_cons_zero, List.set_cons_succ] at hK ⊢
      refine wp_load_mid 62 (.tmp 2) rfl _ 0 rfl (cellsR _) _ (HB1.out.1.below hC HB1.out.2.1).range Tryz.underlying62 rfl (by rw [cellsR_length HR.out.1]; exact sizeR) ?_
      exact hK (valR r) _ ⟨Below.refl _ _, rfl⟩
     ·intro V L W hL hC hd
      have e12 : V 12 = .bool false := (hd.2.1).2
      unfold GivesG
      dsimp only
      refine (iff_of_eq (if_pos ?_)).mpr ?_
      ·clear hd hC hL
       simp only [laidL, Act.put, List.setIfInBounds_toArray, List.set_cons_zero, List.set_cons_succ]
       generalize V 12 = v12 at e12 ⊢
       subst e12
       kernel_rfl
      clear e12
      intro K hK
      have q13 : ifoV_false w1.heap.size g n c A img r tx 13 L (V 13) W := (hd.1).2
      have e13 : V 13 = valR r := q13
      clear q13
      clear hd
      simp only [laidL, Act.put, List.setIfInBounds_toArray, List.set_cons_zero, List.set_cons_succ] at hK ⊢
      generalize V 13 = v13 at e13 hK ⊢
      subst e13
      go_simp
      go_at_call 70
      refine (ct _).mono ?_
      rintro e w3 ⟨rfl, hb3⟩
      exact hK _ _ ⟨hb3, rfl⟩
     ·intro V L W hL hC hd
      have e12 : V 12 = .bool false := (hd.1).2
      unfold GivesG
      dsimp only
      refine (iff_of_eq (if_pos ?_)).mpr ?_
      ·clear hd hC hL
       simp only [laidL, Act.put, List.setIfInBounds_toArray, List.set_cons_zero, List.set_cons_succ]
       generalize V 12 = v12 at e12 ⊢
       subst e12
       kernel_rfl
      clear e12
      intro K hK
      clear hd
      simp only [laidL, Act.put, List.setIfInBounds_toArray, List.set_cons_zero, List.set_cons_succ] at hK ⊢
      go_simp
      exact hK _ _ ⟨Below.refl _ _, rfl⟩
     ·intro V L W hL hC hd
      have e12 : V 12 = .bool false := (hd.2.1).2
      unfold GivesG
      dsimp only
      refine (iff_of_eq (if_pos ?_)).mpr ?_
      ·clear hd hC hL
       simp only [laidL, Act.put, List.setIfInBounds_toArray, List.set_cons_zero, List.set_cons_succ]
       generalize V 12 = v12 at e12 ⊢
       subst e12
       kernel_rfl
      clear e12
      intro K hK
      have q15 : ifoV_false w1.heap.size g n c A img r tx 15 L (V 15) W := (hd.1).2
      have e15 : V 15 = .pointer (some ⟨g, 0, none⟩) := q15
      clear q15
      clear hd
      simp only [laidL, Act.put, List.setIfInBounds_toArray, List.set_cons_zero, List.set_cons_succ] at hK ⊢
      generalize V 15 = v15 at e15 hK ⊢
      subst e15
      have hc := (HB1.out.1.below hC HB1.out.2.1).num
      go_simp
      exact hK _ _ ⟨Below.refl _ _, rfl⟩
     ·intro V L W hL hC hd
      have e12 : V 12 = .bool false := (hd.1).2
      unfold GivesG
      dsimp only
      refine (iff_of_eq (if_pos ?_)).mpr ?_
      ·clear hd hC hL
       simp only [laidL, Act.put, List.setIfInBounds_toArray, List.set_cons_zero, List.set_cons_succ]
       generalize V 12 = v12 at e12 ⊢
       subst e12
       kernel_rfl
      clear e12
      intro K hK
      clear hd
      simp only [laidL, Act.put, List.setIfInBounds_toArray, List.set_cons_zero, List.set_cons_succ] at hK ⊢
      go_simp
      exact hK _ _ ⟨Below.refl _ _, rfl⟩
     ·intro V L W hL hC hd
      have e12 : V 12 = .bool false := (hd.2.2.2.1).2
      unfold GivesG
      dsimp only
      refine (iff_of_eq (if_pos ?_)).mpr ?_
      ·clear hd hC hL
       simp only [laidL, Act.put, List.setIfInBounds_toArray, List.set_cons_zero, List.set_cons_succ]
       generalize V 12 = v12 at e12 ⊢
       subst e12
       kernel_rfl
      clear e12
      intro K hK
      have q16 : ifoV_false w1.heap.size g n c A img r tx 16 L (V 16) W := (hd.1).2
      have e16 : V 16 = .int .i64 (r.num : Int) := q16
      clear q16
      have q17 : ifoV_false w1.heap.size g n c A img r tx 17 L (V 17) W := (hd.2.1).2
      have e17 : V 17 = .slice A n c := q17
      clear q17
      clear hd
      simp only [laidL, Act.put, List.setIfInBounds_toArray, List.set_cons_zero, List.set_cons_succ] at hK ⊢
      generalize V 16 = v16 at e16 hK ⊢
      subst e16
      generalize V 17 = v17 at e17 hK ⊢
      subst e17
      go_simp
      go_at_call 65
      refine (cb _ (H.out.step hC)).mono ?_
      rintro e w3 ⟨rfl, hb3⟩
      exact hK _ _ ⟨hb3, rfl⟩
     ·intro V L W hL hC hd
      have e12 : V 12 = .bool false := (hd.2.2.1).2
      unfold GivesG
      dsimp only
      refine (iff_of_eq (if_pos ?_)).mpr ?_
      ·clear hd hC hL
       simp only [laidL, Act.put, List.setIfInBounds_toArray, List.set_cons_zero, List.set_cons_succ]
       generalize V 12 = v12 at e12 ⊢
       subst e12
       kernel_rfl
      clear e12
      intro K hK
      have q14 : ifoV_false w1.heap.size g n c A img r tx 14 L (V 14) W := (hd.1).2
      have e14 : V 14 = .string (textR r) := q14
      clear q14
      have q18 : ifoV_false w1.heap.size g n c A img r tx 18 L (V 18) W := (hd.2.1).2
      have e18 : V 18 = .string (rawI img r.num) := q18
      clear q18
      clear hd
      simp only [laidL, Act.put, List.setIfInBounds_toArray, List.set_cons_zero, List.set_cons_succ] at hK ⊢
      generalize V 14 = v14 at e14 hK ⊢
      subst e14
      generalize V 18 = v18 at e18 hK ⊢
      subst e18
      have htx := HTX.out
      go_simp
      exact hK _ _ ⟨Below.refl _ _, rfl⟩
     ·intro V L W hL hC hd K hK
      have q12 : ifoV_false w1.heap.size g n c A img r tx 12 L (V 12) W := (hd.1).2
      have e12 : V 12 = .bool false := q12
      clear q12
      have q19 : ifoV_false w1.heap.size g n c A img r tx 19 L (V 19) W := (hd.2.1).2
      have e19 : V 19 = .bool tx := q19
      clear q19
      clear hd
      simp only [laidL, Act.put, List.setIfInBounds_toArray, List.set_cons_zero, List.set_cons_succ] at hK ⊢
      generalize V 12 = v12 at e12 hK ⊢
      subst e12
      generalize V 19 = v19 at e19 hK ⊢
      subst e19
      go_simp
      exact hK _ _ ⟨Below.refl _ _, rfl⟩
    ·intro V L W hL hC hV
     have e20 : V 20 = .bool tx := hV 20 (show 20 < 21 by decide)
     clear hV hL
     have HW := Lib.hid (show Below w.heap.size w W from HB1.out.2.2.trans (hC.mono (by have := HB1.out.2.1; rw [← HG.out]; omega)))
     have HR5 := Lib.hid (H.out.step hC)
     have HBW := Lib.hid (HB1.out.1.below hC HB1.out.2.1)
     clear hC
     simp only [laidL, Act.put, List.setIfInBounds_toArray, List.set_cons_zero, List.set_cons_succ]
     generalize V 20 = v20 at e20 ⊢
     subst e20
     cases tx with
     | true =>
      have HE : Hid (isFormI img r = false) := Lib.hid (by
       have h := HTX.out
       rw [beq_bytes] at h
       rw [HE8.out, if_pos (by simpa using h)])
      go_wp2
      go_ret
      rw [HE.out]
      exact ⟨rfl, HW.out⟩
     | false =>
      have HE2 : Hid (isFormI img r = decide (mkB ((flatR img r).drop r.size) = zeroN ((flatR img r).length - r.size))) := Lib.hid (by
       have h := HTX.out
       rw [beq_bytes] at h
       rw [HE8.out, if_neg (by simpa using h)])
      have cpw := cp W HR5.out
      clear cp cn cd ct cb cz
      have hlf : ((flatR img r).drop r.size).length = (flatR img r).length - r.size := List.length_drop
      have hsz : (mkB ((flatR img r).drop r.size)).size = (flatR img r).length - r.size := by rw [mkB_size, hlf]
      have czz := fun W => zerosI_any ((flatR img r).length - r.size) (by have := HF.out; omega) W
      have hHE := HE2.out
      clear hlf
      generalize (flatR img r).length - r.size = m at hsz czz hHE
      have HE := Lib.hid hHE
      clear hHE
      unfold PartsP at cpw
      generalize mkB ((flatR img r).drop r.size) = bh at hsz cpw HE
      generalize mkB ((flatR img r).take r.size) = ah at cpw
      go_wp2_with (refine wpList_load_mid rfl _ _ rfl g 0 rfl (cellsR r) _ HBW.out.range Tryz.underlying62 rfl (by rw [cellsR_length HR.out.1]; exact sizeR) ?_)
      refine cpw.mono ?_
      rintro e w5 ⟨rfl, hb5⟩
      have HW5 := Lib.hid (bstep HW.out hb5)
      clear hb5 cpw
      have hszi : (bh.size : Int) = (m : Int) := by rw [hsz]
      go_wp2_with fail
      refine (czz _).mono ?_
      rintro e w6 ⟨rfl, hb6⟩
      have HW6 := Lib.hid (bstep HW5.out hb6)
      clear hb6 czz
      go_wp2
      go_ret
      rw [HE.out, beq_bytes]
      exact ⟨rfl, HW6.out⟩
   ·have HDN : Hid ((!decide (r = nameR r r.size (dataR r) r.ind)) = true) := Lib.hid (by rw [decide_eq_false hB]; rfl)
    have HE : Hid (isFormI img r = false) := Lib.hid (by rw [HE9.out, HDN.out, if_pos rfl])
    clear hB
    refine wp_region_rel3 (fun _ w' => Below w1.heap.size w1 w') (fun _ w w' => Below w.heap.size w w') (ifoV_true w1.heap.size g n c A img r tx) hmx (by kernel_rfl) ((Below.refl _ _).drew) (fun i L w w' _ hC hs => bstep hC hs) (fun i j L v w w' _ _ _ hs h => ifoV_true_stable w1.heap.size g n c A img r tx j _ _ v w w' hs h) ?_ ?_
    ·refine ⟨?_, ?_, ?_, ?_, ?_, ?_, ?_, ?_, ?_, ?_, ?_, ?_, ?_, ?_, ?_, ?_, ?_, ?_, ?_, ?_, ?_, trivial⟩
     ·intro V L W hL hC hd K hK
      clear hd
      simp only [laidL, Act.put, List.setIfInBounds_toArray, List.set_cons_zero, List.set_cons_succ] at hK ⊢
      refine wp_load_mid 62 (.tmp 2) rfl _ 0 rfl (cellsR _) _ (HB1.out.1.below hC HB1.out.2.1).range Tryz.underlying62 rfl (by rw [cellsR_length HR.out.1]; exact sizeR) ?_
      exact hK (valR r) _ ⟨Below.refl _ _, rfl⟩
     ·intro V L W hL hC hd K hK
      clear hd
      simp only [laidL, Act.put, List.setIfInBounds_toArray, List.set_cons_zero, List.set_cons_succ] at hK ⊢
      refine wp_load_mid 62 (.tmp 2) rfl _ 0 rfl (cellsR _) _ (HB1.out.1.below hC HB1.out.2.1).range Tryz.underlying62 rfl (by rw [cellsR_length HR.out.1]; exact sizeR) ?_
      exact hK (valR r) _ ⟨Below.refl _ _, rfl⟩
     ·intro V L W hL hC hd K hK
      clear hd
      simp only [laidL, Act.put, List.setIfInBounds_toArray, List.set_cons_zero, List.set_cons_succ] at hK ⊢
      go_simp
      exact hK _ _ ⟨Below.refl _ _, rfl⟩
     ·intro V L W hL hC hd K hK
      have q2 : ifoV_true w1.heap.size g n c A img r tx 2 L (V 2) W := (hd.1).2
      have e2 : V 2 = .pointer (some ⟨g, 1, none⟩) := q2
      clear q2
      clear hd
      simp only [laidL, Act.put, List.setIfInBounds_toArray, List.set_cons_zero, List.set_cons_succ] at hK ⊢
      generalize V 2 = v2 at e2 hK ⊢
      subst e2
      go_simp
      exact hK _ _ ⟨Below.refl _ _, rfl⟩
     ·intro V L W hL hC hd K hK
      have q3 : ifoV_true w1.heap.size g n c A img r tx 3 L (V 3) W := (hd.1).2
      have e3 : V 3 = .pointer (some ⟨g, 2, none⟩) := q3
      clear q3
      clear hd
      simp only [laidL, Act.put, List.setIfInBounds_toArray, List.set_cons_zero, List.set_cons_succ] at hK ⊢
      generalize V 3 = v3 at e3 hK ⊢
      subst e3
      have hc := (HB1.out.1.below hC HB1.out.2.1).size
      go_simp
      exact hK _ _ ⟨Below.refl _ _, rfl⟩
     ·intro V L W hL hC hd K hK
      clear hd
      simp only [laidL, Act.put, List.setIfInBounds_toArray, List.set_cons_zero, List.set_cons_succ] at hK ⊢
      refine wp_load_mid 62 (.tmp 2) rfl _ 0 rfl (cellsR _) _ (HB1.out.1.below hC HB1.out.2.1).range Tryz.underlying62 rfl (by rw [cellsR_length HR.out.1]; exact sizeR) ?_
      exact hK (valR r) _ ⟨Below.refl _ _, rfl⟩
     ·intro V L W hL hC hd K hK
      have q5 : ifoV_true w1.heap.size g n c A img r tx 5 L (V 5) W := (hd.1).2
      have e5 : V 5 = valR r := q5
      clear q5
      clear hd
      simp only [laidL, Act.put, List.setIfInBounds_toArray, List.set_cons_zero, List.set_cons_succ] at hK ⊢
      generalize V 5 = v5 at e5 hK ⊢
      subst e5
      go_simp
      go_at_call 74
      refine (cd _).mono ?_
      rintro e w3 ⟨A3, c3, rfl, ho3, hb3⟩
      exact hK _ _ ⟨hb3, A3, c3, rfl, own_base ho3 hC.size⟩
     ·intro V L W hL hC hd K hK
      clear hd
      simp only [laidL, Act.put, List.setIfInBounds_toArray, List.set_cons_zero, List.set_cons_succ] at hK ⊢
      go_simp
      exact hK _ _ ⟨Below.refl _ _, rfl⟩
     ·intro V L W hL hC hd K hK
      have q7 : ifoV_true w1.heap.size g n c A img r tx 7 L (V 7) W := (hd.1).2
      have e7 : V 7 = .pointer (some ⟨g, 1, none⟩) := q7
      clear q7
      clear hd
      simp only [laidL, Act.put, List.setIfInBounds_toArray, List.set_cons_zero, List.set_cons_succ] at hK ⊢
      generalize V 7 = v7 at e7 hK ⊢
      subst e7
      go_simp
      exact hK _ _ ⟨Below.refl _ _, rfl⟩
     ·intro V L W hL hC hd K hK
      have q8 : ifoV_true w1.heap.size g n c A img r tx 8 L (V 8) W := (hd.1).2
      have e8 : V 8 = .pointer (some ⟨g, 7, none⟩) := q8
      clear q8
      clear hd
      simp only [laidL, Act.put, List.setIfInBounds_toArray, List.set_cons_zero, List.set_cons_succ] at hK ⊢
      generalize V 8 = v8 at e8 hK ⊢
      subst e8
      have hc := (HB1.out.1.below hC HB1.out.2.1).ind HR.out.1
      go_simp
      exact hK _ _ ⟨Below.refl _ _, rfl⟩
     ·intro V L W hL hC hd K hK
      have q1 : ifoV_true w1.heap.size g n c A img r tx 1 L (V 1) W := (hd.1).2
      have e1 : V 1 = valR r := q1
      clear q1
      have q4 : ifoV_true w1.heap.size g n c A img r tx 4 L (V 4) W := (hd.2.1).2
      have e4 : V 4 = .int .i64 (r.size : Int) := q4
      clear q4
      have q9 : ifoV_true w1.heap.size g n c A img r tx 9 L (V 9) W := (hd.2.2.2.1).2
      have e9 : V 9 = .int .i64 (r.ind : Int) := q9
      clear q9
      have o6 : ifoV_true w1.heap.size g n c A img r tx 6 L (V 6) W := (hd.2.2.1).2
      clear hd
      simp only [laidL, Act.put, List.setIfInBounds_toArray, List.set_cons_zero, List.set_cons_succ] at hK ⊢
      generalize V 1 = v1 at e1 hK ⊢
      subst e1
      generalize V 4 = v4 at e4 hK ⊢
      subst e4
      generalize V 9 = v9 at e9 hK ⊢
      subst e9
      obtain ⟨A5, c5, e6, ho5⟩ := o6
      have hll : (dataR r).length ≤ 68 := by rw [dataR_length HR.out.1]; omega
      obtain ⟨ll, hle⟩ : ∃ x, x = (dataR r).length := ⟨_, rfl⟩
      rw [← hle] at hll e6 ho5
      clear hle
      generalize V 6 = v6 at e6 hK ⊢
      subst e6
      have hA5 : (A5 = none ∧ c5 = 0) ∨ ∃ b o, A5 = some ⟨b, o, none⟩ ∧ b < W.heap.size := by
       rcases own_nil_or ho5 with ⟨e1, e2, _⟩ | ⟨b, e1⟩
       ·exact .inl ⟨e1, e2⟩
       ·subst e1
        exact .inr ⟨b, 0, rfl, (own_block ho5).2.1⟩
      have hle5 := own_le ho5
      have cs := naming_any r HR.out.1 r.size HR.out.1.size r.ind HR.out.1.ind A5 ll c5 (dataR r) W (Reads.of_own ho5) hll hle5 hA5
      clear hll hA5 hle5
      go_simp
      go_at_call 82
      refine cs.mono ?_
      rintro e w3 ⟨rfl, hb3⟩
      exact hK _ _ ⟨hb3, rfl⟩
     ·intro V L W hL hC hd K hK
      have q0 : ifoV_true w1.heap.size g n c A img r tx 0 L (V 0) W := (hd.1).2
      have e0 : V 0 = valR r := q0
      clear q0
      have q10 : ifoV_true w1.heap.size g n c A img r tx 10 L (V 10) W := (hd.2.1).2
      have e10 : V 10 = valR (nameR r r.size (dataR r) r.ind) := q10
      clear q10
      clear hd
      simp only [laidL, Act.put, List.setIfInBounds_toArray, List.set_cons_zero, List.set_cons_succ] at hK ⊢
      generalize V 0 = v0 at e0 hK ⊢
      subst e0
      generalize V 10 = v10 at e10 hK ⊢
      subst e10
      have hq := neqR_run HR.out.1 (nameR_ok HR.out.1 (size := r.size) (data := dataR r) (ind := r.ind) HR.out.1.size HR.out.1.ind) HR.out.2 (nameR_big HR.out.2 r.size r.ind) W
      rw [HDN.out] at hq
      have hgu := run_eqg W (nameR r r.size (dataR r) r.ind) r
      go_simp
      exact hK _ _ ⟨Below.refl _ _, rfl⟩
     ·intro V L W hL hC hd K hK
      have q11 : ifoV_true w1.heap.size g n c A img r tx 11 L (V 11) W := (hd.1).2
      have e11 : V 11 = .bool true := q11
      clear q11
      clear hd
      simp only [laidL, Act.put, List.setIfInBounds_toArray, List.set_cons_zero, List.set_cons_succ] at hK ⊢
      generalize V 11 = v11 at e11 hK ⊢
      subst e11
      go_simp
      exact hK _ _ ⟨Below.refl _ _, rfl⟩
     ·intro V L W hL hC hd
      have e12 : V 12 = .bool true := (hd.1).2
      clear hd
      unfold GivesG
      dsimp only
      refine (iff_of_eq (if_neg ?_)).mpr ?_
      ·clear hC hL
       simp only [laidL, Act.put, List.setIfInBounds_toArray, List.set_cons_zero, List.set_cons_succ]
       generalize V 12 = v12 at e12 ⊢
       subst e12
       refine no_yield ?_
       kernel_rfl
      ·exact ⟨Below.refl _ _, rfl⟩
     ·intro V L W hL hC hd
      have e12 : V 12 = .bool true := (hd.2.1).2
      clear hd
      unfold GivesG
      dsimp only
      refine (iff_of_eq (if_neg ?_)).mpr ?_
      ·clear hC hL
       simp only [laidL, Act.put, List.setIfInBounds_toArray, List.set_cons_zero, List.set_cons_succ]
       generalize V 12 = v12 at e12 ⊢
       subst e12
       refine no_yield ?_
       kernel_rfl
      ·exact ⟨Below.refl _ _, rfl⟩
     ·intro V L W hL hC hd
      have e12 : V 12 = .bool true := (hd.1).2
      clear hd
      unfold GivesG
      dsimp only
      refine (iff_of_eq (if_neg ?_)).mpr ?_
      ·clear hC hL
       simp only [laidL, Act.put, List.setIfInBounds_toArray, List.set_cons_zero, List.set_cons_succ]
       generalize V 12 = v12 at e12 ⊢
       subst e12
       refine no_yield ?_
       kernel_rfl
      ·exact ⟨Below.refl _ _, rfl⟩
     ·intro V L W hL hC hd
      have e12 : V 12 = .bool true := (hd.2.1).2
      clear hd
      unfold GivesG
      dsimp only
      refine (iff_of_eq (if_neg ?_)).mpr ?_
      ·clear hC hL
       simp only [laidL, Act.put, List.setIfInBounds_toArray, List.set_cons_zero, List.set_cons_succ]
       generalize V 12 = v12 at e12 ⊢
       subst e12
       refine no_yield ?_
       kernel_rfl
      ·exact ⟨Below.refl _ _, rfl⟩
     ·intro V L W hL hC hd
      have e12 : V 12 = .bool true := (hd.1).2
      clear hd
      unfold GivesG
      dsimp only
      refine (iff_of_eq (if_neg ?_)).mpr ?_
      ·clear hC hL
       simp only [laidL, Act.put, List.setIfInBounds_toArray, List.set_cons_zero, List.set_cons_succ]
       generalize V 12 = v12 at e12 ⊢
       subst e12
       refine no_yield ?_
       kernel_rfl
      ·exact ⟨Below.refl _ _, rfl⟩
     ·intro V L W hL hC hd
      have e12 : V 12 = .bool true := (hd.2.2.2.1).2
      clear hd
      unfold GivesG
      dsimp only
      refine (iff_of_eq (if_neg ?_)).mpr ?_
      ·clear hC hL
       simp only [laidL, Act.put, List.setIfInBounds_toArray, List.set_cons_zero, List.set_cons_succ]
       generalize V 12 = v12 at e12 ⊢
       subst e12
       refine no_yield ?_
       kernel_rfl
      ·exact ⟨Below.refl _ _, rfl⟩
     ·intro V L W hL hC hd
      have e12 : V 12 = .bool true := (hd.2.2.1).2
      clear hd
      unfold GivesG
      dsimp only
      refine (iff_of_eq (if_neg ?_)).mpr ?_
      ·clear hC hL
       simp only [laidL, Act.put, List.setIfInBounds_toArray, List.set_cons_zero, List.set_cons_succ]
       generalize V 12 = v12 at e12 ⊢
       subst e12
       refine no_yield ?_
       kernel_rfl
      ·exact ⟨Below.refl _ _, rfl⟩
     ·intro V L W hL hC hd K hK
      have q12 : ifoV_true w1.heap.size g n c A img r tx 12 L (V 12) W := (hd.1).2
      have e12 : V 12 = .bool true := q12
      clear q12
      have q19 : ifoV_true w1.heap.size g n c A img r tx 19 L (V 19) W := (hd.2.1).2
      have e19 : V 19 = undef := q19
      clear q19
      clear hd
      simp only [laidL, Act.put, List.setIfInBounds_toArray, List.set_cons_zero, List.set_cons_succ] at hK ⊢
      generalize V 12 = v12 at e12 hK ⊢
      subst e12
      generalize V 19 = v19 at e19 hK ⊢
      subst e19
      go_simp
      exact hK _ _ ⟨Below.refl _ _, rfl⟩
    ·intro V L W hL hC hV
     have e20 : V 20 = .bool true := hV 20 (show 20 < 21 by decide)
     clear hV hL
     have HW := Lib.hid (show Below w.heap.size w W from HB1.out.2.2.trans (hC.mono (by have := HB1.out.2.1; rw [← HG.out]; omega)))
     have HR5 := Lib.hid (H.out.step hC)
     have HBW := Lib.hid (HB1.out.1.below hC HB1.out.2.1)
     clear hC
     simp only [laidL, Act.put, List.setIfInBounds_toArray, List.set_cons_zero, List.set_cons_succ]
     generalize V 20 = v20 at e20 ⊢
     subst e20
     go_wp2
     go_ret
     rw [HE.out]
     exact ⟨rfl, HW.out⟩
 ·have HE : Hid (isFormI img r = false) := Lib.hid (by unfold isFormI; rw [if_neg hk0, if_neg (by omega)])
  have hk2i : ((r.kind : Int) == 2) = false := by rw [beq_eq_false_iff_ne]; omega
  clear hk0 hk1 hk2
  go_enter Tryz.func63, Tryz.ntmps63
  go_wp2
  go_ret
  rw [HE.out]
  exact ⟨rfl, HB1.out.2.2⟩

end Go.Proofs.YtpdfkakhahfcjaaGreat
