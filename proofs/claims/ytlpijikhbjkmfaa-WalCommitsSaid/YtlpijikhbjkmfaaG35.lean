/-
  The reference's Recover, where it ends early.
-/
import Derived.Test.YtlpijikhbjkmfaaG34
import Derived.Test.YtlpijikhbjkmfaaG03
import Derived.BigQuiet
namespace Go.Proofs.Ytlpijikhbjkmfaa
open Go.RowKit

/-- The device's box, the result's, and what lay before. -/
structure RB (w W : World) (A A' : Option Addr) (n c m c' : Nat) (d : D) : Prop where
  b0 : B4 W w.heap.size (.slice A n c) (.slice A' m c') (.int .i64 d.left) (.bool d.dead)
  b1 : B4 W (w.heap.size + 1) (.slice none 0 0) (.slice none 0 0) (.int .i64 0) (.bool false)
  dv : Dv W W.heap.size A n A' m d
  below : Below w.heap.size w W
section
variable {w W W' : World} {A A' E E' : Option Addr} {n c m c' k e k' e' : Nat} {d d2 : D}
theorem RB.step (h : RB w W A A' n c m c' d) (hb : Below W.heap.size W W') : RB w W' A A' n c m c' d := ⟨h.b0.step hb, h.b1.step hb, h.dv.step hb, bstep h.below hb⟩
theorem RB.drewN (h : RB w W A A' n c m c' d) (q : Nat) : RB w (W.drewN q) A A' n c m c' d := ⟨h.b0, h.b1, ⟨h.dv.bs, h.dv.cs, h.dv.hn, h.dv.hm⟩, below_drewN h.below q⟩
theorem RB.lt (h : RB w W A A' n c m c' d) : w.heap.size + 1 < W.heap.size := h.b1.lt
theorem RB.new (h : Dv w w.heap.size A n A' m d) (c c' : Nat) : RB w ((w.alloc (.cells #[.slice A n c, .slice A' m c', .int .i64 d.left, .bool d.dead] 25)).alloc (.cells #[.slice none 0 0, .slice none 0 0, .int .i64 0, .bool false] 25)) A A' n c m c' d :=
  ⟨(B4.new w _ _ _ _).alloc _, by simpa using B4.new (w.alloc (.cells #[.slice A n c, .slice A' m c', .int .i64 d.left, .bool d.dead] 25)) (.slice none 0 0) (.slice none 0 0) (.int .i64 0) (.bool false), (h.alloc _).alloc _, alloc2_below w _ _⟩
/-- A device is stored in the result's box. -/
theorem RB.told (R : RB w W A A' n c m c' d) (hv : Dv W W.heap.size E k E' k' d2) (code : Int) : Tells2 w (putD W (w.heap.size + 1) (.slice E k e) (.slice E' k' e') (.int .i64 d2.left) (.bool d2.dead)) d2 code (.returned (.tuple #[.agg #[.slice E k e, .slice E' k' e', .int .i64 d2.left, .bool d2.dead], .int .i64 code])) :=
  ⟨E, k, e, E', k', e', rfl, putD_dv R.b1 hv, putD_below R.below (by omega)⟩
end

/-- A region that draws its order, whose operations read and whose calls leave what lay before: one walk, in the order of the text. -/
theorem region_belowR {P : Program} {id : Nat} {Q : Exit → Act → World → Prop} {a : Act} {w0 w : World} {l : List Oper} (hC : Below w0.heap.size w0 w) (hm : P.follows .mixedOrders = true) (hB : Region.lexB .any l.toArray = true)
    (h : wpQuiet P l.toArray (fun w' => Below w0.heap.size w0 w') (fun a' => ∀ w', Below w0.heap.size w0 w' → Q .normal a' w') l a) : (Code.region id l.toArray true).wp P Q a w :=
  wp_region_quiet (C := fun w' => Below w0.heap.size w0 w') hm hB hC.drew (by simpa using h)

end Go.Proofs.Ytlpijikhbjkmfaa
