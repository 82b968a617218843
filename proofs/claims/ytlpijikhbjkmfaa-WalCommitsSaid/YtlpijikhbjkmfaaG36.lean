/-
  The reference's Recover, where the head may be a commit block.
-/
import Derived.Test.YtlpijikhbjkmfaaG35
import Derived.Test.YtlpijikhbjkmfaaG27
namespace Go.Proofs.Ytlpijikhbjkmfaa
open Go.RowKit

theorem stepsL_succ (f : Nat → Int) (b : Nat → ByteArray) (i : Nat) (x : D × Int) : runD x (stepsL f b (i + 1)) = stepD (runD x (stepsL f b i)) (.put (f i) (b i)) := by
  unfold stepsL
  rw [List.range_succ, List.map_append, runD_app]
  rfl
theorem keepRB {w W W' : World} {A A' : Option Addr} {n c m c' : Nat} {bs : List ByteArray} {cs : List (Int × ByteArray)} {l : Int} (R : RB w W A A' n c m c' ⟨bs, cs, l, false⟩) (hb : Below W.heap.size W W') :
    W'.cell? ⟨w.heap.size, 0, none⟩ = some (.slice A n c) ∧ W'.cell? ⟨w.heap.size, 1, none⟩ = some (.slice A' m c') ∧ W'.cell? ⟨w.heap.size, 2, none⟩ = some (.int .i64 l) ∧ W'.cell? ⟨w.heap.size, 3, none⟩ = some (.bool false) ∧ Below W.heap.size W W' := by
  obtain ⟨x0, x1, x2, x3, _⟩ := (R.step hb).b0.cells
  exact ⟨x0, x1, x2, x3, hb⟩
theorem lastRB {a b c d p : Prop} (x : a ∧ b ∧ c ∧ d ∧ p) : p := x.2.2.2.2
theorem flatL_snoc (L : List ByteArray) (s : ByteArray) : mkB (flatL (L ++ [s])) = mkB (flatL L) ++ s := by
  unfold flatL
  rw [List.flatMap_append, ← mkB_app]
  congr 1
  simp [mkB]
theorem Rw.drewR {w : World} {g : Nat} {v : RV} {x : D × Int} (h : Rw w g v x) : Rw w.drew g v x := ⟨h.blk, ⟨h.dv.bs, h.dv.cs, h.dv.hn, h.dv.hm⟩⟩
theorem Dv.drewR {w : World} {A A' : Option Addr} {n m : Nat} {d : D} (h : Dv w w.heap.size A n A' m d) : Dv w.drew w.drew.heap.size A n A' m d := ⟨h.bs, h.cs, h.hn, h.hm⟩
theorem putD_keep {w : World} {g q : Nat} {v : RV} {x : D × Int} {a b c d : Value} (h : Rw w g v x) (hq : g ≠ q) : (putD w q a b c d).cell? ⟨g, 0, none⟩ = some (.slice v.A v.n v.c) ∧ (putD w q a b c d).cell? ⟨g, 1, none⟩ = some (.slice v.A' v.m v.c') ∧ (putD w q a b c d).cell? ⟨g, 2, none⟩ = some (.int .i64 x.1.left) ∧ (putD w q a b c d).cell? ⟨g, 3, none⟩ = some (.bool x.1.dead) ∧ (putD w q a b c d).cell? ⟨g, 4, none⟩ = some (.int .i64 x.2) := by
  have hb : (putD w q a b c d).heap[g]? = w.heap[g]? := by
    unfold putD
    rw [Below.heap_setCell _ ⟨q, 3, none⟩ d g hq, Below.heap_setCell _ ⟨q, 2, none⟩ c g hq, Below.heap_setCell _ ⟨q, 1, none⟩ b g hq, Below.heap_setCell _ ⟨q, 0, none⟩ a g hq]
  have e : ∀ o, (putD w q a b c d).cell? ⟨g, o, none⟩ = w.cell? ⟨g, o, none⟩ := fun o => World.cell?_of_block (a := ⟨g, o, none⟩) hb
  rw [e, e, e, e, e]
  exact h.c
/-- While the reference's work writes: the rows that it reads, the result's box, what lay before. -/
structure Lp (w wr : World) (B gw ga gb N c2 c3 : Nat) (pl : List Nat) (bl : List ByteArray) (x : D × Int) (vv : RV) : Prop where
  own1 : wr.ownsRow B 3 1 (.slice (some ⟨ga, 0, none⟩) N c2) N (encN pl)
  own2 : wr.ownsRow B 9 1 (.slice (some ⟨gb, 0, none⟩) N c3) N (encS bl)
  rw : Rw wr gw vv x
  b1 : B4 wr (w.heap.size + 1) (.slice none 0 0) (.slice none 0 0) (.int .i64 0) (.bool false)
  below : Below w.heap.size w wr
theorem Lp.grown {w wr w' : World} {B gw ga gb N c2 c3 : Nat} {pl : List Nat} {bl : List ByteArray} {x x2 : D × Int} {vv v2 : RV} (h : Lp w wr B gw ga gb N c2 c3 pl bl x vv) (hr : Rw w' gw v2 x2) (hg : wr.grownBy w' (some gw)) (h1 : ga ≠ gw) (h2 : gb ≠ gw) (h3 : w.heap.size + 1 < gw) : Lp w w' B gw ga gb N c2 c3 pl bl x2 v2 :=
  ⟨own_grown h.own1 hg (fun g e e2 => by cases e; cases e2; exact h1 rfl), own_grown h.own2 hg (fun g e e2 => by cases e; cases e2; exact h2 rfl), hr, h.b1.grown hg (fun e => by cases e; omega), h.below.grown hg h.below.size (fun q e => by cases e; omega)⟩
theorem Lp.step {w wr w' : World} {B gw ga gb N c2 c3 : Nat} {pl : List Nat} {bl : List ByteArray} {x : D × Int} {vv : RV} (h : Lp w wr B gw ga gb N c2 c3 pl bl x vv) (hb : Below wr.heap.size wr w') : Lp w w' B gw ga gb N c2 c3 pl bl x vv :=
  ⟨own_below h.own1 hb, own_below h.own2 hb, h.rw.step hb, h.b1.step hb, bstep h.below hb⟩
theorem oper_abs {P : Program} {o : Oper} {K : Act → World → Prop} {Q : Exit → Act → World → Prop} {w : World} (a : Act) (h : ∀ a0 : Act, a0 = a → Oper.wp P o a0 w K Q) : Oper.wp P o a w K Q := h a rfl
theorem grownBy_drew {w w' : World} {g : Nat} (h : w.drew.grownBy w' (some g)) : w.grownBy w' (some g) := grown_trans (grown_of_below ((Below.refl w.heap.size w).drew) (some g)) h

/-- What a recovery of the reference comes to behind the head. -/
def lateR (d : D) (h g : Nat) : D × Int :=
  if ∃ x ∈ plR d h, h ≤ x then (d, 10) else if crc (placesL (plR d h) ++ flatL (blR d h)) ≠ neL ((headB d).extract 14 18).data.toList then (d, 10)
  else runD (d, 0) (endSteps (1 + listsN h + g) (plR d h) (blR d h))

end Go.Proofs.Ytlpijikhbjkmfaa
