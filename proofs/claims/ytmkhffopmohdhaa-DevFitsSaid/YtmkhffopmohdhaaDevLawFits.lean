/-
  DevFits returns true for every two devices, and what it was handed reads afterwards as it read before.
-/
import Derived.Test.YtmkhffopmohdhaaDevAwake
import Derived.Deep.RegionHeld3
import Derived.Deep.QuietTactic
import Derived.BigQuiet
namespace Go.Proofs.Ytmkhffopmohdhaa
open Go.RowKit

theorem keep9 {W0 w' : World} {g h : Nat} {a b c d a2 b2 c2 d2 : Value} (k : B4 W0 g a b c d) (k1 : B4 W0 h a2 b2 c2 d2) (hb : Below W0.heap.size W0 w') :
    w'.cell? ⟨g, 0, none⟩ = some a ∧ w'.cell? ⟨g, 1, none⟩ = some b ∧ w'.cell? ⟨g, 2, none⟩ = some c ∧ w'.cell? ⟨g, 3, none⟩ = some d ∧ w'.cell? ⟨h, 0, none⟩ = some a2 ∧ w'.cell? ⟨h, 1, none⟩ = some b2 ∧ w'.cell? ⟨h, 2, none⟩ = some c2 ∧ w'.cell? ⟨h, 3, none⟩ = some d2 ∧ Below W0.heap.size W0 w' := by
  obtain ⟨x0, x1, x2, x3, _⟩ := (k.step hb).cells
  obtain ⟨y0, y1, y2, y3, _⟩ := (k1.step hb).cells
  exact ⟨x0, x1, x2, x3, y0, y1, y2, y3, hb⟩
theorem last9 {a b c d e f g h p : Prop} (x : a ∧ b ∧ c ∧ d ∧ e ∧ f ∧ g ∧ h ∧ p) : p := x.2.2.2.2.2.2.2.2
/-- A region that draws its order, whose operations read and whose calls leave what lay before: one walk, in the order of the text. -/
theorem region_below {P : Program} {id : Nat} {Q : Exit → Act → World → Prop} {a : Act} {w0 w : World} {l : List Oper} (hC : Below w0.heap.size w0 w) (hm : P.follows .mixedOrders = true) (hB : Region.lexB .any l.toArray = true)
    (h : wpQuiet P l.toArray (fun w' => Below w0.heap.size w0 w') (fun a' => ∀ w', Below w0.heap.size w0 w' → Q .normal a' w') l a) : (Code.region id l.toArray true).wp P Q a w :=
  wp_region_quiet (C := fun w' => Below w0.heap.size w0 w') hm hB hC.drew (by simpa using h)

set_option maxRecDepth 100000 in
set_option maxHeartbeats 4000000 in
theorem fits_any (A A' : Option Addr) (n c m c' : Nat) (d : D) (E E' : Option Addr) (n2 f m2 f' : Nat) (d2 : D) (w : World) (h : Dv w w.heap.size A n A' m d) (h2 : Dv w w.heap.size E n2 E' m2 d2) :
    Calls Try.prog 4 #[.agg #[.slice A n c, .slice A' m c', .int .i64 d.left, .bool d.dead], .agg #[.slice E n2 f, .slice E' m2 f', .int .i64 d2.left, .bool d2.dead]] w fun e w' => e = .returned (.bool true) ∧ Below w.heap.size w w' := by
  have hmx : Try.prog.follows .mixedOrders = true := by kernel_rfl
  obtain ⟨W0, hW0⟩ : ∃ W0, W0 = (w.alloc (.cells #[.slice A n c, .slice A' m c', .int .i64 d.left, .bool d.dead] 26)).alloc (.cells #[.slice E n2 f, .slice E' m2 f', .int .i64 d2.left, .bool d2.dead] 26) := ⟨_, rfl⟩
  have k0 : B4 W0 w.heap.size (.slice A n c) (.slice A' m c') (.int .i64 d.left) (.bool d.dead) := by rw [hW0]; exact (B4.new w _ _ _ _).alloc _
  have k1 : B4 W0 (w.heap.size + 1) (.slice E n2 f) (.slice E' m2 f') (.int .i64 d2.left) (.bool d2.dead) := by rw [hW0]; simpa using B4.new (w.alloc (.cells #[.slice A n c, .slice A' m c', .int .i64 d.left, .bool d.dead] 26)) (.slice E n2 f) (.slice E' m2 f') (.int .i64 d2.left) (.bool d2.dead)
  have HD := Lib.hid (And.intro (show Dv W0 W0.heap.size A n A' m d by rw [hW0]; exact (h.alloc _).alloc _) (show Dv W0 W0.heap.size E n2 E' m2 d2 by rw [hW0]; exact (h2.alloc _).alloc _))
  have hb0 : Below w.heap.size w W0 := by rw [hW0]; exact alloc2_below w _ _
  have KK := Lib.hid (And.intro k0 (And.intro k1 hb0))
  have HW := Lib.hid hW0
  clear hW0 k0 k1 hb0 h h2
  go_enter Try.func4, Try.ntmps4
  go_wp2_with fail
  rw [← HW.out]
  go_region_held3 (fun w' => w'.cell? ⟨w.heap.size, 0, none⟩ = some (.slice A n c) ∧ w'.cell? ⟨w.heap.size, 1, none⟩ = some (.slice A' m c') ∧ w'.cell? ⟨w.heap.size, 2, none⟩ = some (.int .i64 d.left) ∧ w'.cell? ⟨w.heap.size, 3, none⟩ = some (.bool d.dead) ∧
      w'.cell? ⟨w.heap.size + 1, 0, none⟩ = some (.slice E n2 f) ∧ w'.cell? ⟨w.heap.size + 1, 1, none⟩ = some (.slice E' m2 f') ∧ w'.cell? ⟨w.heap.size + 1, 2, none⟩ = some (.int .i64 d2.left) ∧ w'.cell? ⟨w.heap.size + 1, 3, none⟩ = some (.bool d2.dead) ∧ Below W0.heap.size W0 w')
    (first | exact keep9 KK.out.1 KK.out.2.1 (Below.refl _ _) | exact keep9 KK.out.1 KK.out.2.1 ((Below.refl _ _).drew) | exact keep9 KK.out.1 KK.out.2.1 (bstep (last9 (by assumption)) hbx))
    (first
      | (go_at_call 24; refine (fit_any A A' n c m c' d _ (HD.out.1.step (last9 (by assumption)))).mono ?_; rintro e w4 ⟨rfl, hbx⟩)
      | (go_at_call 11; refine (refFit_any A A' n c m c' d _ (HD.out.1.step (last9 (by assumption)))).mono ?_; rintro e w4 ⟨rfl, hbx⟩)
      | (go_at_call 9; (with_reducible refine (same_any A A' n c m c' d E E' n2 f m2 f' d2 _ (HD.out.1.step (last9 (by assumption))) (HD.out.2.step (last9 (by assumption)))).mono ?_); rintro e w4 ⟨rfl, hbx⟩)
      | (go_at_call 10; refine (refSame_any A A' n c m c' d E E' n2 f m2 f' d2 _ (HD.out.1.step (last9 (by assumption))) (HD.out.2.step (last9 (by assumption)))).mono ?_; rintro e w4 ⟨rfl, hbx⟩)
      | (go_at_call 25; refine (refCopy_any A A' n c m c' d d.left d.dead _ (HD.out.1.step (last9 (by assumption)))).mono ?_; rintro e w5 ⟨A5, c5, A5', c5', rfl, ho5, hbx⟩)
      | (go_at_call 9; refine (same_any A A' n c m c' d A5 A5' n c5 m c5' d _ (HD.out.1.step (last9 (by assumption))) (Own.dv ho5 HD.out.1.hn HD.out.1.hm)).mono ?_; rintro e w4 ⟨rfl, hbx⟩)
      | (go_at_call 12; refine (awake_any _).mono ?_; rintro e w4 ⟨rfl, hbx⟩))
  go_wp2
  go_ret
  exact ⟨rfl, bstep KK.out.2.2 (last9 (by assumption))⟩

end Go.Proofs.Ytmkhffopmohdhaa
