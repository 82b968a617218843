/-
  An inode written into an image that is the call's own.
-/
import Derived.Test.YtpdfkakhahfcjaaGreatG09
import Derived.Deep.WholeRow
namespace Go.Proofs.YtpdfkakhahfcjaaGreat
open Go.RowKit

theorem But.mono_below {g : Nat} {w w' : World} (h : But g w w') {B : Nat} (hB : B ≤ g) (hg : g < w.heap.size) : Below B w w' := h.to_below hB (by omega)
theorem num_lt (i : Nat) : 32 * (i % 4) + 32 ≤ 128 ∧ 32 * (i % 4) < 128 := by have := Nat.mod_lt i (show 0 < 4 by omega); omega
def putNone (v : Value) (_ : World) : Prop := v = .tuple #[]
def saveV1 (g gr n c : Nat) (r : RecI) : Nat → Value → World → Prop
  | 0 => eqV (.slice (some ⟨g, 0, none⟩) n c)
  | 1 => eqV (.pointer (some ⟨gr, 0, none⟩))
  | 2 => eqV (.int .i64 (r.num : Int))
  | 3 => eqV (.int .i64 (2 + r.num / 4 : Nat))
  | 4 => eqV (.pointer (some ⟨gr, 0, none⟩))
  | 5 => eqV (.int .i64 (r.num : Int))
  | 6 => eqV (.int .i64 (32 * (r.num % 4) : Nat))
  | 7 => eqV (valR r)
  | 8 => eqV (.string (textR r))
  | 9 => eqV (.tuple #[])
  | _ => fun _ _ => True
theorem saveV1_stable (g gr n c : Nat) (r : RecI) (j : Nat) (v : Value) (w w' : World) (h : saveV1 g gr n c r j v w) : saveV1 g gr n c r j v w' := by
  match j, h with
  | 0, h => exact h
  | 1, h => exact h
  | 2, h => exact h
  | 3, h => exact h
  | 4, h => exact h
  | 5, h => exact h
  | 6, h => exact h
  | 7, h => exact h
  | 8, h => exact h
  | 9, h => exact h
  | _ + 10, _ => trivial
def saveV2 (g gr n c : Nat) (r : RecI) : Nat → Value → World → Prop
  | 0 => eqV (.slice (some ⟨g, 0, none⟩) n c)
  | 1 => eqV (.pointer (some ⟨gr, 1, none⟩))
  | 2 => eqV (.pointer (some ⟨gr, 7, none⟩))
  | 3 => eqV (.int .i64 (r.ind : Int))
  | 4 => eqV (.pointer (some ⟨gr, 8, none⟩))
  | 5 => eqV (.slice (some ⟨gr, 8, none⟩) 64 64)
  | 6 => eqV (.string (listB r.ls))
  | 7 => eqV (.tuple #[])
  | _ => fun _ _ => True
theorem saveV2_stable (g gr n c : Nat) (r : RecI) (j : Nat) (v : Value) (w w' : World) (h : saveV2 g gr n c r j v w) : saveV2 g gr n c r j v w' := by
  match j, h with
  | 0, h => exact h
  | 1, h => exact h
  | 2, h => exact h
  | 3, h => exact h
  | 4, h => exact h
  | 5, h => exact h
  | 6, h => exact h
  | 7, h => exact h
  | _ + 8, _ => trivial

set_option maxRecDepth 100000 in
set_option maxHeartbeats 4000000 in
theorem saveR_any (r : RecI) (hr : OkR r) (base g n c : Nat) (img : List ByteArray) (w : World) (h : OwI w base g n c img) :
    Calls Tryz.prog 34 #[valR r, .slice (some ⟨g, 0, none⟩) n c] w fun e w' => e = .returned (.tuple #[]) ∧ OwI w' base g n c (saveR img r) ∧ But g w w' := by
  have hmx : Tryz.prog.follows .mixedOrders = true := by kernel_rfl
  have HR := Lib.hid hr
  have hB := BR.new w r
  have hb0 := (Below.refl w.heap.size w).alloc (Nat.le_refl _) (.cells (cellsR r).toArray 62)
  have hne : w.heap.size ≠ g := by have := h.lt; omega
  have HB := Lib.hid hB
  have HO := Lib.hid (And.intro (h.step hb0) (But.of_below hb0 g))
  clear hr hB hb0 h
  obtain ⟨img1, hi1⟩ : ∃ x, x = putI img (2 + r.num / 4) (32 * (r.num % 4)) (textR r) := ⟨_, rfl⟩
  have HI : Hid (saveR img r = if r.ind = 0 then img1 else putI img1 r.ind 0 (listB r.ls)) := Lib.hid (by rw [hi1]; rfl)
  unfold valR
  go_enter Tryz.func34, Tryz.ntmps34
  go_wp2
  obtain ⟨gr, hgr⟩ : ∃ gr, gr = w.heap.size := ⟨_, rfl⟩
  rw [← hgr] at HB hne ⊢
  obtain ⟨w1, hw1⟩ : ∃ w1, w1 = w.alloc (.cells (cellsR r).toArray 62) := ⟨_, rfl⟩
  rw [← hw1] at HB HO ⊢
  have HNE := Lib.hid hne
  clear hgr hw1 hne
  have HI1 := Lib.hid hi1
  clear hi1
  refine wp_region_rel2 (fun L w' => But g w1 w' ∧ OwI w' base g n c (if L 9 = true then putI img (2 + r.num / 4) (32 * (r.num % 4)) (textR r) else img)) (fun i w w' => (i ≠ 9 → Below w.heap.size w w') ∧ (i = 9 → But g w w' ∧ OwI w' base g n c (putI img (2 + r.num / 4) (32 * (r.num % 4)) (textR r)))) (saveV1 g gr n c r) hmx (by kernel_rfl) ⟨But.of_below (Below.refl _ _).drew _, by rw [if_neg (by decide)]; exact HO.out.1.step (Below.refl _ _).drew⟩ (fun i L w w' hi hC hs => by
    by_cases h9 : i = 9
    · obtain ⟨h1, h2⟩ := hs.2 h9
      subst h9
      exact ⟨hC.1.trans h1, by rw [if_pos (by simp)]; exact h2⟩
    · have h1 := hs.1 h9
      refine ⟨hC.1.trans (But.of_below h1 _), ?_⟩
      have e : (if (9 : Nat) = i then true else L 9) = L 9 := if_neg (Ne.symm h9)
      show OwI w' base g n c (if (if (9 : Nat) = i then true else L 9) = true then _ else _)
      rw [e]
      exact hC.2.step h1) (fun i j v w w' _ _ h => saveV1_stable g gr n c r j v w w' h) ?_ ?_
  · refine ⟨?_, ?_, ?_, ?_, ?_, ?_, ?_, ?_, ?_, ?_, trivial⟩
    · intro V L W hL hC hd K hK
      clear hd
      simp only [laidL, Act.put, List.setIfInBounds_toArray, List.set_cons_zero, List.set_cons_succ] at hK ⊢
      go_simp
      exact hK _ _ ⟨⟨fun _ => Below.refl _ _, fun h => absurd h (by decide)⟩, rfl⟩
    · intro V L W hL hC hd K hK
      clear hd
      simp only [laidL, Act.put, List.setIfInBounds_toArray, List.set_cons_zero, List.set_cons_succ] at hK ⊢
      go_simp
      exact hK _ _ ⟨⟨fun _ => Below.refl _ _, fun h => absurd h (by decide)⟩, rfl⟩
    · intro V L W hL hC hd K hK
      have q1 : saveV1 g gr n c r 1 (V 1) W := hd.1
      have e1 : V 1 = .pointer (some ⟨gr, 0, none⟩) := q1
      clear q1
      clear hd
      simp only [laidL, Act.put, List.setIfInBounds_toArray, List.set_cons_zero, List.set_cons_succ] at hK ⊢
      generalize V 1 = v1 at e1 hK ⊢
      subst e1
      have hc := (HB.out.but hC.1 HNE.out).num
      go_simp
      exact hK _ _ ⟨⟨fun _ => Below.refl _ _, fun h => absurd h (by decide)⟩, rfl⟩
    · intro V L W hL hC hd K hK
      have q2 : saveV1 g gr n c r 2 (V 2) W := hd.1
      have e2 : V 2 = .int .i64 (r.num : Int) := q2
      clear q2
      clear hd
      simp only [laidL, Act.put, List.setIfInBounds_toArray, List.set_cons_zero, List.set_cons_succ] at hK ⊢
      generalize V 2 = v2 at e2 hK ⊢
      subst e2
      go_simp
      go_at_call 68
      refine (numBlock_any r.num (by have := HR.out.num; omega) _).mono ?_
      rintro e w3 ⟨rfl, rfl⟩
      exact hK _ _ ⟨⟨fun _ => Below.refl _ _, fun h => absurd h (by decide)⟩, rfl⟩
    · intro V L W hL hC hd K hK
      clear hd
      simp only [laidL, Act.put, List.setIfInBounds_toArray, List.set_cons_zero, List.set_cons_succ] at hK ⊢
      go_simp
      exact hK _ _ ⟨⟨fun _ => Below.refl _ _, fun h => absurd h (by decide)⟩, rfl⟩
    · intro V L W hL hC hd K hK
      have q4 : saveV1 g gr n c r 4 (V 4) W := hd.1
      have e4 : V 4 = .pointer (some ⟨gr, 0, none⟩) := q4
      clear q4
      clear hd
      simp only [laidL, Act.put, List.setIfInBounds_toArray, List.set_cons_zero, List.set_cons_succ] at hK ⊢
      generalize V 4 = v4 at e4 hK ⊢
      subst e4
      have hc := (HB.out.but hC.1 HNE.out).num
      go_simp
      exact hK _ _ ⟨⟨fun _ => Below.refl _ _, fun h => absurd h (by decide)⟩, rfl⟩
    · intro V L W hL hC hd K hK
      have q5 : saveV1 g gr n c r 5 (V 5) W := hd.1
      have e5 : V 5 = .int .i64 (r.num : Int) := q5
      clear q5
      clear hd
      simp only [laidL, Act.put, List.setIfInBounds_toArray, List.set_cons_zero, List.set_cons_succ] at hK ⊢
      generalize V 5 = v5 at e5 hK ⊢
      subst e5
      go_simp
      go_at_call 69
      refine (numStart_any r.num (by have := HR.out.num; omega) _).mono ?_
      rintro e w3 ⟨rfl, rfl⟩
      exact hK _ _ ⟨⟨fun _ => Below.refl _ _, fun h => absurd h (by decide)⟩, rfl⟩
    · intro V L W hL hC hd K hK
      clear hd
      simp only [laidL, Act.put, List.setIfInBounds_toArray, List.set_cons_zero, List.set_cons_succ] at hK ⊢
      refine wp_load_mid 62 (.tmp 2) rfl _ 0 rfl (cellsR _) _ (HB.out.but hC.1 HNE.out).range Tryz.underlying62 rfl (by rw [cellsR_length HR.out]; exact sizeR) ?_
      exact hK (valR r) _ ⟨⟨fun _ => Below.refl _ _, fun h => absurd h (by decide)⟩, rfl⟩
    · intro V L W hL hC hd K hK
      have q7 : saveV1 g gr n c r 7 (V 7) W := hd.1
      have e7 : V 7 = valR r := q7
      clear q7
      clear hd
      simp only [laidL, Act.put, List.setIfInBounds_toArray, List.set_cons_zero, List.set_cons_succ] at hK ⊢
      generalize V 7 = v7 at e7 hK ⊢
      subst e7
      go_simp
      go_at_call 70
      refine (text_any r HR.out _).mono ?_
      rintro e w3 ⟨rfl, hb3⟩
      exact hK _ _ ⟨⟨fun _ => hb3, fun h => absurd h (by decide)⟩, rfl⟩
    · intro V L W hL hC hd K hK
      have q0 : saveV1 g gr n c r 0 (V 0) W := hd.1
      have e0 : V 0 = .slice (some ⟨g, 0, none⟩) n c := q0
      clear q0
      have q3 : saveV1 g gr n c r 3 (V 3) W := hd.2.1
      have e3 : V 3 = .int .i64 (2 + r.num / 4 : Nat) := q3
      clear q3
      have q6 : saveV1 g gr n c r 6 (V 6) W := hd.2.2.1
      have e6 : V 6 = .int .i64 (32 * (r.num % 4) : Nat) := q6
      clear q6
      have q8 : saveV1 g gr n c r 8 (V 8) W := hd.2.2.2.1
      have e8 : V 8 = .string (textR r) := q8
      clear q8
      clear hd
      simp only [laidL, Act.put, List.setIfInBounds_toArray, List.set_cons_zero, List.set_cons_succ] at hK ⊢
      generalize V 0 = v0 at e0 hK ⊢
      subst e0
      generalize V 3 = v3 at e3 hK ⊢
      subst e3
      generalize V 6 = v6 at e6 hK ⊢
      subst e6
      generalize V 8 = v8 at e8 hK ⊢
      subst e8
      go_simp
      have hO : OwI W base g n c img := by have h := hC.2; rwa [if_neg (by rw [hL]; decide)] at h
      go_at_call 45
      refine (putI_any base g n c img (2 + r.num / 4) (32 * (r.num % 4)) (textR r) W hO (by rw [textR_size HR.out]; exact (num_lt r.num).1) (num_lt r.num).2).mono ?_
      rintro e w3 ⟨rfl, hO3, hb3⟩
      exact hK _ _ ⟨⟨fun h => absurd rfl h, fun _ => ⟨hb3, hO3⟩⟩, rfl⟩
  · intro V L W hL hC hV
    have hO2 : OwI W base g n c img1 := by have h := hC.2; rw [if_pos (hL 9 (by decide))] at h; rw [HI1.out]; exact h
    have H2 := Lib.hid (And.intro hO2 (HO.out.2.trans hC.1))
    have HB2 := Lib.hid (HB.out.but hC.1 HNE.out)
    have hc7 := HB2.out.ind HR.out
    clear hV hL hC hO2 HB HO
    simp only [laidL, Act.put, List.setIfInBounds_toArray, List.set_cons_zero, List.set_cons_succ]
    by_cases hz : r.ind = 0
    · have hzi : ((r.ind : Int) != 0) = false := by rw [hz]; rfl
      have HZ : Hid (saveR img r = img1) := Lib.hid (by rw [HI.out, if_pos hz])
      clear hz
      go_wp2
      go_end0
      rw [HZ.out]
      exact ⟨rfl, H2.out⟩
    · have hzi : ((r.ind : Int) != 0) = true := by rw [bne_iff_ne]; omega
      have HZ : Hid (saveR img r = putI img1 r.ind 0 (listB r.ls)) := Lib.hid (by rw [HI.out, if_neg hz])
      clear hz
      go_wp2
      refine wp_region_rel2 (fun L w' => But g W w' ∧ OwI w' base g n c (if L 7 = true then putI img1 r.ind 0 (listB r.ls) else img1)) (fun i w w' => (i ≠ 7 → Below w.heap.size w w') ∧ (i = 7 → But g w w' ∧ OwI w' base g n c (putI img1 r.ind 0 (listB r.ls)))) (saveV2 g gr n c r) hmx (by kernel_rfl) ⟨But.of_below (Below.refl _ _).drew _, by rw [if_neg (by decide)]; exact H2.out.1.step (Below.refl _ _).drew⟩ (fun i L w w' hi hC hs => by
        by_cases h9 : i = 7
        · obtain ⟨h1, h2⟩ := hs.2 h9
          subst h9
          exact ⟨hC.1.trans h1, by rw [if_pos (by simp)]; exact h2⟩
        · have h1 := hs.1 h9
          refine ⟨hC.1.trans (But.of_below h1 _), ?_⟩
          have e : (if (7 : Nat) = i then true else L 7) = L 7 := if_neg (Ne.symm h9)
          show OwI w' base g n c (if (if (7 : Nat) = i then true else L 7) = true then _ else _)
          rw [e]
          exact hC.2.step h1) (fun i j v w w' _ _ h => saveV2_stable g gr n c r j v w w' h) ?_ ?_
      · refine ⟨?_, ?_, ?_, ?_, ?_, ?_, ?_, ?_, trivial⟩
        · intro V L W hL hC hd K hK
          clear hd
          simp only [laidL, Act.put, List.setIfInBounds_toArray, List.set_cons_zero, List.set_cons_succ] at hK ⊢
          go_simp
          exact hK _ _ ⟨⟨fun _ => Below.refl _ _, fun h => absurd h (by decide)⟩, rfl⟩
        · intro V L W hL hC hd K hK
          clear hd
          simp only [laidL, Act.put, List.setIfInBounds_toArray, List.set_cons_zero, List.set_cons_succ] at hK ⊢
          go_simp
          exact hK _ _ ⟨⟨fun _ => Below.refl _ _, fun h => absurd h (by decide)⟩, rfl⟩
        · intro V L W hL hC hd K hK
          have q1 : saveV2 g gr n c r 1 (V 1) W := hd.1
          have e1 : V 1 = .pointer (some ⟨gr, 1, none⟩) := q1
          clear q1
          clear hd
          simp only [laidL, Act.put, List.setIfInBounds_toArray, List.set_cons_zero, List.set_cons_succ] at hK ⊢
          generalize V 1 = v1 at e1 hK ⊢
          subst e1
          go_simp
          exact hK _ _ ⟨⟨fun _ => Below.refl _ _, fun h => absurd h (by decide)⟩, rfl⟩
        · intro V L W hL hC hd K hK
          have q2 : saveV2 g gr n c r 2 (V 2) W := hd.1
          have e2 : V 2 = .pointer (some ⟨gr, 7, none⟩) := q2
          clear q2
          clear hd
          simp only [laidL, Act.put, List.setIfInBounds_toArray, List.set_cons_zero, List.set_cons_succ] at hK ⊢
          generalize V 2 = v2 at e2 hK ⊢
          subst e2
          have hc := (HB2.out.but hC.1 HNE.out).ind HR.out
          go_simp
          exact hK _ _ ⟨⟨fun _ => Below.refl _ _, fun h => absurd h (by decide)⟩, rfl⟩
        · intro V L W hL hC hd K hK
          clear hd
          simp only [laidL, Act.put, List.setIfInBounds_toArray, List.set_cons_zero, List.set_cons_succ] at hK ⊢
          go_simp
          exact hK _ _ ⟨⟨fun _ => Below.refl _ _, fun h => absurd h (by decide)⟩, rfl⟩
        · intro V L W hL hC hd K hK
          have q4 : saveV2 g gr n c r 4 (V 4) W := hd.1
          have e4 : V 4 = .pointer (some ⟨gr, 8, none⟩) := q4
          clear q4
          clear hd
          simp only [laidL, Act.put, List.setIfInBounds_toArray, List.set_cons_zero, List.set_cons_succ] at hK ⊢
          generalize V 4 = v4 at e4 hK ⊢
          subst e4
          go_simp
          exact hK _ _ ⟨⟨fun _ => Below.refl _ _, fun h => absurd h (by decide)⟩, rfl⟩
        · intro V L W hL hC hd K hK
          have q5 : saveV2 g gr n c r 5 (V 5) W := hd.1
          have e5 : V 5 = .slice (some ⟨gr, 8, none⟩) 64 64 := q5
          clear q5
          clear hd
          simp only [laidL, Act.put, List.setIfInBounds_toArray, List.set_cons_zero, List.set_cons_succ] at hK ⊢
          generalize V 5 = v5 at e5 hK ⊢
          subst e5
          go_simp
          go_at_call 71
          refine (spelt_any _ _ _ _ _ ((HB2.out.but hC.1 HNE.out).ls HR.out) (by omega) (by omega)).mono ?_
          rintro e w3 ⟨rfl, hb3⟩
          exact hK _ _ ⟨⟨fun _ => hb3, fun h => absurd h (by decide)⟩, rfl⟩
        · intro V L W hL hC hd K hK
          have q0 : saveV2 g gr n c r 0 (V 0) W := hd.1
          have e0 : V 0 = .slice (some ⟨g, 0, none⟩) n c := q0
          clear q0
          have q3 : saveV2 g gr n c r 3 (V 3) W := hd.2.1
          have e3 : V 3 = .int .i64 (r.ind : Int) := q3
          clear q3
          have q6 : saveV2 g gr n c r 6 (V 6) W := hd.2.2.1
          have e6 : V 6 = .string (listB r.ls) := q6
          clear q6
          clear hd
          simp only [laidL, Act.put, List.setIfInBounds_toArray, List.set_cons_zero, List.set_cons_succ] at hK ⊢
          generalize V 0 = v0 at e0 hK ⊢
          subst e0
          generalize V 3 = v3 at e3 hK ⊢
          subst e3
          generalize V 6 = v6 at e6 hK ⊢
          subst e6
          go_simp
          have hO : OwI W base g n c img1 := by have h := hC.2; rwa [if_neg (by rw [hL]; decide)] at h
          go_at_call 45
          refine (putI_any base g n c img1 r.ind 0 (listB r.ls) W hO (by rw [listB_size, HR.out.ls]; omega) (by omega)).mono ?_
          rintro e w3 ⟨rfl, hO3, hb3⟩
          exact hK _ _ ⟨⟨fun h => absurd rfl h, fun _ => ⟨hb3, hO3⟩⟩, rfl⟩
      · intro V L W2 hL hC hV
        have hO3 : OwI W2 base g n c (putI img1 r.ind 0 (listB r.ls)) := by have h := hC.2; rw [if_pos (hL 7 (by decide))] at h; exact h
        have H3 := Lib.hid (And.intro hO3 (H2.out.2.trans hC.1))
        clear hV hL hC hO3
        simp only [laidL, Act.put, List.setIfInBounds_toArray, List.set_cons_zero, List.set_cons_succ]
        go_wp2
        go_end0
        rw [HZ.out]
        exact ⟨rfl, H3.out⟩

end Go.Proofs.YtpdfkakhahfcjaaGreat

/-
  An inode read.
-/
namespace Go.Proofs.YtpdfkakhahfcjaaGreat
open Go.RowKit

theorem zero_run (W : World) : (zeroValue 62).run Tryz.prog W = .ok (.agg (cellsR (zeroR 0)).toArray) W := by
  have h := (zero_of_info infoR).1 W
  rw [← zeroR_cells] at h
  exact h
theorem wpList_built {P : Program} {ops : Array Oper} {rest : List Oper} {o : Oper} {a : Act} {w : World} {Q : Exit → Act → World → Prop} (hg : o.guard = none) (t : TypeId) (parts : Array (Nat × Operand)) (ho : o.op = .build t parts) (cells : Array Value)
    (hf : P.built t (parts.map fun (i, x) => (i, a.eval x)).toList = some cells) (h : wpList P ops Q rest (a.put o.dst (.agg cells)) w) : wpList P ops Q (o :: rest) a w :=
  wpList_build hg t parts ho (by rw [hf]; rfl) (by rw [hf]; exact h)
theorem But.setRow (w : World) (g : Nat) (cs : Array Value) : But g w (w.setRow g cs) := ⟨rfl, rfl, rfl, by simp, fun k _ hne => setRow_other w g k cs hne⟩
/-- A row of numbers that lies somewhere. -/
def rowC (n : Nat) (l : List Nat) : Value → World → Prop := fun v w => ∃ b o c, v = .slice (some ⟨b, o, none⟩) n c ∧ Reads w w.heap.size 1 (some ⟨b, o, none⟩) n (encN l)
theorem rowC_out {n : Nat} {l : List Nat} {v : Value} {w : World} (h : rowC n l v w) : ∃ x : Nat × Nat × Nat, v = .slice (some ⟨x.1, x.2.1, none⟩) n x.2.2 ∧ Reads w w.heap.size 1 (some ⟨x.1, x.2.1, none⟩) n (encN l) := by
  obtain ⟨b, o, c, e, hr⟩ := h
  exact ⟨(b, o, c), e, hr⟩
theorem rowC_of {w' : World} {A : Option Addr} {n c : Nat} {l : List Nat} {base : Nat} (ho : w'.ownsRow base 3 1 (.slice A n c) n (encN l)) (hn : 0 < n) : rowC n l (.slice A n c) w' := by
  have hr := Reads.of_own ho
  obtain ⟨b, o, rfl, hb, hc⟩ := hr.2 hn
  exact ⟨b, o, c, rfl, hr⟩
theorem rowC.step {n : Nat} {l : List Nat} {v : Value} {w w' : World} (h : rowC n l v w) (hb : Below w.heap.size w w') : rowC n l v w' := by
  obtain ⟨b, o, c, e, hr⟩ := h
  exact ⟨b, o, c, e, hr.step hb⟩
theorem Reads.but {w w' : World} {g n : Nat} {A : Option Addr} {xs : List Value} (h : Reads w w.heap.size 1 A n xs) (hb : But g w w') (hne : ∀ a, A = some a → a.block ≠ g) : Reads w' w'.heap.size 1 A n xs :=
  ⟨h.1, fun hn => by
    obtain ⟨b, o, rfl, hlt, hc⟩ := h.2 hn
    have hbg : b ≠ g := hne _ rfl
    exact ⟨b, o, rfl, Nat.lt_of_lt_of_le hlt hb.size, fun j u hj => by
      have := hc j u hj
      unfold World.cell? at this ⊢
      simp only at this ⊢
      rw [hb.block b hlt hbg]; exact this⟩⟩
/-- The same, in another block than g. -/
def rowD (g n : Nat) (l : List Nat) : Value → World → Prop := fun v w => ∃ b o c, v = .slice (some ⟨b, o, none⟩) n c ∧ b ≠ g ∧ Reads w w.heap.size 1 (some ⟨b, o, none⟩) n (encN l)
theorem rowD_out {g n : Nat} {l : List Nat} {v : Value} {w : World} (h : rowD g n l v w) : ∃ x : Nat × Nat × Nat, v = .slice (some ⟨x.1, x.2.1, none⟩) n x.2.2 ∧ Reads w w.heap.size 1 (some ⟨x.1, x.2.1, none⟩) n (encN l) := by
  obtain ⟨b, o, c, e, _, hr⟩ := h
  exact ⟨(b, o, c), e, hr⟩
theorem rowD.but {g n : Nat} {l : List Nat} {v : Value} {w w' : World} (h : rowD g n l v w) (hb : But g w w') : rowD g n l v w' := by
  obtain ⟨b, o, c, e, hne, hr⟩ := h
  exact ⟨b, o, c, e, hne, hr.but hb (fun a e => by injection e with e; subst e; exact hne)⟩
theorem rowD_of {w' : World} {A : Option Addr} {g n c : Nat} {l : List Nat} {base : Nat} (ho : w'.ownsRow base 3 1 (.slice A n c) n (encN l)) (hn : 0 < n) (hg : g < base) : rowD g n l (.slice A n c) w' := by
  have hr := Reads.of_own ho
  have hge := own_row_ge ho
  obtain ⟨b, o, rfl, hb, hc⟩ := hr.2 hn
  have := hge b rfl
  exact ⟨b, o, c, rfl, by omega, hr⟩
theorem copyBl_run {W : World} {g : Nat} {r : RecI} (h : BR W g r) (hr : OkR r) {a : Addr} {l : List Nat} (hl : l.length = 4) (c : Nat) (hs : Reads W W.heap.size 1 (some a) 4 (encN l)) :
    ∃ W', (Builtin.copy_ #[49, 49] 3 #[.slice (some ⟨g, 3, none⟩) 4 4, .slice (some a) 4 c]).run Tryz.prog W = .ok (goInt 4) W' ∧ BR W' g { r with bl := l } ∧ But g W W' := by
  obtain ⟨b, o, e, _, hc⟩ := hs.2 (by omega)
  injection e with e
  subst e
  have hlen : (encN l).length = 4 := by rw [encN_length, hl]
  have := run_copy_row (P := Tryz.prog) W 49 49 3 3 g 3 4 4 ⟨b, o, none⟩ 4 c (cellsR r).toArray _ (encN l) Tryz.underlying49 sizeInt h (by rw [hlen]; rfl) (fun j v hv => by rw [Addr.add_mid]; exact hc j v hv) (by rw [hlen, List.size_toArray, cellsR_length hr]; omega) (encN_one l)
  rw [hlen] at this
  refine ⟨_, this, ?_, But.setRow _ _ _⟩
  have h2 := h.copyBl (l := l) (by rw [hl, hr.bl]; omega)
  rw [hlen] at h2
  rw [show r.bl.drop l.length = [] from List.drop_of_length_le (by rw [hl, hr.bl]; omega), List.append_nil] at h2
  exact h2
theorem copyLs_run {W : World} {g : Nat} {r : RecI} (h : BR W g r) (hr : OkR r) {a : Addr} {l : List Nat} (hl : l.length = 64) (c : Nat) (hs : Reads W W.heap.size 1 (some a) 64 (encN l)) :
    ∃ W', (Builtin.copy_ #[49, 49] 3 #[.slice (some ⟨g, 8, none⟩) 64 64, .slice (some a) 64 c]).run Tryz.prog W = .ok (goInt 64) W' ∧ BR W' g { r with ls := l } ∧ But g W W' := by
  obtain ⟨b, o, e, _, hc⟩ := hs.2 (by omega)
  injection e with e
  subst e
  have hlen : (encN l).length = 64 := by rw [encN_length, hl]
  have := run_copy_row (P := Tryz.prog) W 49 49 3 3 g 8 64 64 ⟨b, o, none⟩ 64 c (cellsR r).toArray _ (encN l) Tryz.underlying49 sizeInt h (by rw [hlen]; rfl) (fun j v hv => by rw [Addr.add_mid]; exact hc j v hv) (by rw [hlen, List.size_toArray, cellsR_length hr]; omega) (encN_one l)
  rw [hlen] at this
  refine ⟨_, this, ?_, But.setRow _ _ _⟩
  have h2 := h.copyLs hr (l := l) (by rw [hl, hr.ls]; omega)
  rw [hlen] at h2
  rw [show r.ls.drop l.length = [] from List.drop_of_length_le (by rw [hl, hr.ls]; omega), List.append_nil] at h2
  exact h2
theorem byA_extract (s : ByteArray) (a b k : Nat) (hb : b ≤ s.size) (hk : a + k < b) : byA (s.extract a b) k = byA s (a + k) := by
  rw [byA_get _ _ (by rw [ByteArray.size_extract]; omega), byA_get _ _ (by omega), ByteArray.getElem_extract]
theorem wordN_extract (s : ByteArray) (a b i : Nat) (hb : b ≤ s.size) (hk : a + 2 * i + 1 < b) : wordN (s.extract a b) i = w2 s (a + 2 * i) := by
  unfold wordN w2
  rw [byA_extract s a b _ hb (by omega), byA_extract s a b _ hb (by omega), show a + (2 * i + 1) = a + 2 * i + 1 by omega]
theorem raw_words (s : ByteArray) (hs : s.size = 32) : (List.range 2).map (wordN (s.extract 1 5)) = [w2 s 1, w2 s 3] ∧ (List.range 4).map (wordN (s.extract 5 13)) = [w2 s 5, w2 s 7, w2 s 9, w2 s 11] ∧ (List.range 1).map (wordN (s.extract 13 15)) = [w2 s 13] := by
  refine ⟨?_, ?_, ?_⟩
  · simp [List.range_succ, wordN_extract s 1 5 _ (by omega)]
  · simp [List.range_succ, wordN_extract s 5 13 _ (by omega)]
  · simp [List.range_succ, wordN_extract s 13 15 _ (by omega)]

theorem results_rec {P : Program} {fn : Func} {t : Tmp} {T : TypeId} (h : fn.results = #[.cell t T]) (tmps : Array Value) {w : World} {a : Addr} {v : Value} (ht : tmps.getD t undef = .pointer (some a)) (hv : (Go.loadVar T a).run P w = .ok v w) :
    (results fn tmps).run P w = .ok v w := by
  have ht2 : tmps[t]?.getD undef = .pointer (some a) := by rw [← Array.getD_eq_getD_getElem?]; exact ht
  simp [results, h, ht2, asAddr, hv]
theorem results_rec2 {P : Program} {fn : Func} {t u : Tmp} {T : TypeId} (h : fn.results = #[.cell t T, .tmp u]) (tmps : Array Value) {w : World} {a : Addr} {v v2 : Value} (ht : tmps.getD t undef = .pointer (some a)) (hu : tmps.getD u undef = v2) (hv : (Go.loadVar T a).run P w = .ok v w) :
    (results fn tmps).run P w = .ok (.tuple #[v, v2]) w := by
  subst hu
  have ht2 : tmps[t]?.getD undef = .pointer (some a) := by rw [← Array.getD_eq_getD_getElem?]; exact ht
  simp [results, h, ht2, asAddr, hv]

end Go.Proofs.YtpdfkakhahfcjaaGreat
