/-
  The program's own functions of layer 14: the reader's memory.
-/
import Derived.Test.YtnidkcedomhofaaGreatDoorG17
import Derived.Test.YtnidkcedomhofaaGreatDoorG18
import Derived.Maps.AppendAt
namespace Go.Proofs.YtnidkcedomhofaaGreatDoor
open Go.RowKit

def intC (l : List Int) : List Value := l.map fun n => .int .i64 n
theorem intC_app (a b : List Int) : intC (a ++ b) = intC a ++ intC b := by simp [intC]
theorem intC_len (a : List Int) : (intC a).length = a.length := by simp [intC]
def wdC (l : List (Int × Int)) : List Value := l.flatMap fun d => [.int .i64 d.1, .int .i64 d.2]
theorem wdC_app (a b : List (Int × Int)) : wdC (a ++ b) = wdC a ++ wdC b := by simp [wdC]
theorem wdC_len : ∀ a, (wdC a).length = a.length * 2
  | [] => rfl
  | d :: a => by
    rw [show wdC (d :: a) = [.int .i64 d.1, .int .i64 d.2] ++ wdC a by simp [wdC], List.length_append, wdC_len a]
    simp; omega
theorem pcC_app (a b : List (List UInt8)) : pcC (a ++ b) = pcC a ++ pcC b := by simp [pcC]
/-- A reader's cells. -/
def rdA (r : RuV) (v1 v2 v3 v4 v5 : Value) : Array Value := #[.int .i64 r.freq, .int .i64 r.intv, .int .i64 r.cnt, .bool r.has, .int .i64 r.unt.secs, .bool r.unt.utc, .bool r.unt.date, v1, v2, v3, v4, .int .i64 r.wk, v5]
/-- The block K is the reader. -/
def RB (W : World) (K : Nat) (C : Array Value) : Prop := W.heap[K]? = some (.cells C 43 (0, 0))
section
variable {W W' : World} {K : Nat} {C : Array Value}
theorem RB.lt (h : RB W K C) : K < W.heap.size := by
  rcases Nat.lt_or_ge K W.heap.size with hlt | hge
  · exact hlt
  · unfold RB at h; rw [Array.getElem?_eq_none hge] at h; cases h
theorem RB.cell (h : RB W K C) {j : Nat} {v : Value} (hj : C[j]? = some v) : W.cell? ⟨K, j, none⟩ = some v := by
  unfold RB at h
  simp [World.cell?, h, hj]
theorem RB.frozen (h : RB W K C) (j : Nat) : W.frozen? ⟨K, j, none⟩ = false := by
  unfold RB at h
  simp [World.frozen?, h]
theorem RB.step (h : RB W K C) (hb : Below W.heap.size W W') : RB W' K C := (hb.block K h.lt).trans h
theorem RB.set (h : RB W K C) {j : Nat} (hj : j < C.size) (v : Value) : RB (W.setCell ⟨K, j, none⟩ v) K (C.setIfInBounds j v) := heap_put h hj
end
/-- Two rows of the call's own lie apart. -/
def Apart (v u : Value) : Prop := v.ownBlock = none ∨ v.ownBlock ≠ u.ownBlock
theorem Apart.symm {v u : Value} (h : Apart v u) : Apart u v := by
  unfold Apart at h ⊢
  rcases h with h | h
  · cases hu : u.ownBlock with
    | none => exact .inl rfl
    | some g => exact .inr (by rw [h]; simp)
  · exact .inr (Ne.symm h)
/-- The reader's rows. -/
structure Rw (W : World) (n : Nat) (r : RuV) (sn : List (List UInt8)) (v1 v2 v3 v4 v5 : Value) : Prop where
  o1 : W.ownsRow n 3 1 v1 r.mon.length (intC r.mon)
  o2 : W.ownsRow n 3 1 v2 r.md.length (intC r.md)
  o3 : W.ownsRow n 57 2 v3 r.dys.length (wdC r.dys)
  o4 : W.ownsRow n 3 1 v4 r.pos.length (intC r.pos)
  o5 : W.ownsRow n 9 1 v5 sn.length (pcC sn)
  a12 : Apart v1 v2
  a14 : Apart v1 v4
  a24 : Apart v2 v4
theorem own_nil_or {W : World} {n size k : Nat} {e : TypeId} {v : Value} {xs : List Value} (h : W.ownsRow n e size v k xs) : v = .slice none 0 0 ∨ ∃ g cap, v = .slice (some ⟨g, 0, none⟩) k cap ∧ v.ownBlock = some g ∧ n ≤ g ∧ g < W.heap.size := by
  rcases h.2 with ⟨rfl, _⟩ | ⟨g, cap, cur, rfl, hb, hg, _⟩
  · exact .inl rfl
  · exact .inr ⟨g, cap, rfl, by simp [Value.ownBlock], hb, (Array.getElem?_eq_some_iff.1 hg).1⟩
/-- A row is kept where another row grew. -/
theorem own_apart {W w1 : World} {tmp : Obj} {n n' size size' k k' : Nat} {e e' : TypeId} {v u : Value} {xs ys : List Value} (h : W.ownsRow n e size v k xs) (hu : W.ownsRow n' e' size' u k' ys) (ha : e ≠ e' ∨ Apart v u) (hg : (W.alloc tmp).grownBy w1 u.ownBlock) : w1.ownsRow n e size v k xs := by
  refine (h.alloc tmp).kept hg ?_
  rcases ha with hne | ha
  · rcases h.2 with ⟨rfl, _⟩ | ⟨g, cap, cur, rfl, _, hb, _⟩
    · exact .inl rfl
    · right
      intro ee
      rcases hu.2 with ⟨rfl, _⟩ | ⟨g2, cap2, cur2, rfl, _, hb2, _⟩
      · simp [Value.ownBlock] at ee
      · simp [Value.ownBlock] at ee
        subst ee
        rw [hb] at hb2
        simp only [Option.some.injEq, Obj.cells.injEq] at hb2
        exact hne hb2.2.1
  · rcases h.2 with ⟨rfl, _⟩ | ⟨g, cap, cur, rfl, _, hb, _⟩
    · exact .inl rfl
    · right
      rcases ha with ha | ha
      · simp [Value.ownBlock] at ha
      · exact ha
/-- Where the grown row lies, other rows do not. -/
theorem apart_new {W : World} {n size k : Nat} {e : TypeId} {v u u' : Value} {xs : List Value} {B : Nat} (h : W.ownsRow n e size v k xs) (ha : Apart v u) (hB : W.heap.size ≤ B) (hu : u'.ownBlock = u.ownBlock ∨ u'.ownBlock = some B) : Apart v u' := by
  rcases hu with hu | hu
  · unfold Apart at ha ⊢; rw [hu]; exact ha
  · rcases own_nil_or h with rfl | ⟨g, cap, rfl, hg, _, hlt⟩
    · exact .inl (by simp [Value.ownBlock])
    · right; rw [hg, hu]; intro e; injection e with e; omega
/-- What a round of the reader may change: the reader, and rows from n on. -/
structure Ch (K n : Nat) (W W' : World) : Prop where
  below : Below K W W'
  keeps : ∀ B, KeepsFrom B W W'
  rest : ∀ k, k < n → k ≠ K → W'.heap[k]? = W.heap[k]?
theorem Ch.refl (K n : Nat) (W : World) : Ch K n W W := ⟨Below.refl K W, fun _B => keepV (Below.refl _ W), fun _ _ _ => rfl⟩
theorem Ch.trans {K n : Nat} {A B C : World} (h : Ch K n A B) (k : Ch K n B C) : Ch K n A C := ⟨h.below.trans k.below, fun X => (h.keeps X).trans (k.keeps X), fun j h1 h2 => (k.rest j h1 h2).trans (h.rest j h1 h2)⟩
theorem Ch.of_below {K n : Nat} {W W' : World} (hK : K ≤ W.heap.size) (hn : n ≤ W.heap.size) (hb : Below W.heap.size W W') : Ch K n W W' := ⟨hb.mono hK, fun _ => keepV hb, fun k h1 _ => hb.block k (by omega)⟩
theorem Ch.set {K n : Nat} (W : World) (j : Nat) (v : Value) : Ch K n W (W.setCell ⟨K, j, none⟩ v) :=
  ⟨(Below.refl K W).setCell (p := ⟨K, j, none⟩) (Nat.le_refl _) v, fun B => (KeepsOthers.setCell W _ _).from B, fun k _ h2 => Below.heap_setCell W ⟨K, j, none⟩ v k h2⟩
theorem Ch.append {K n : Nat} {W w1 : World} {size k : Nat} {e : TypeId} {v : Value} {xs : List Value} {tmp : Obj} (hK : K ≤ n) (hn : n ≤ W.heap.size) (h : W.ownsRow n e size v k xs) (hg : (W.alloc tmp).grownBy w1 v.ownBlock) : Ch K n W w1 := by
  have hob : ∀ j, some j = v.ownBlock → n ≤ j := fun j ej => by
    rcases own_nil_or h with rfl | ⟨g, cap, rfl, hgb, hng, _⟩
    · simp [Value.ownBlock] at ej
    · rw [hgb] at ej; injection ej with ej; omega
  refine ⟨((Below.refl K W).alloc (by omega) tmp).grown hg (by simp; omega) fun j ej => by have := hob j ej.symm; omega, fun B => ?_, fun j h1 h2 => ?_⟩
  · refine ((KeepsOthers.alloc W tmp).trans (KeepsOthers.of_grownBy hg fun j o ej hj => ?_)).from B
    rcases (h.alloc tmp).2 with ⟨rfl, _⟩ | ⟨g, cap, cur, rfl, _, hgb, _⟩
    · simp [Value.ownBlock] at ej
    · obtain rfl : g = j := by simpa [Value.ownBlock] using ej
      rw [hgb] at hj; cases hj; rfl
  · exact (hg.block j (by simp; omega) (fun ej => by have := hob j ej; omega)).trans (Below.heap_alloc W tmp j (by omega))
/-- All blocks but readers and rows of numbers and days are kept. -/
def KS (W W' : World) : Prop := ∀ (g : Nat) (C : Array Value) (T : TypeId) (f : Nat × Nat), T ≠ 3 → T ≠ 57 → T ≠ 43 → W.heap[g]? = some (.cells C T f) → W'.heap[g]? = some (.cells C T f)
theorem KS.refl (W : World) : KS W W := fun _ _ _ _ _ _ _ h => h
theorem KS.trans {A B C : World} (h : KS A B) (k : KS B C) : KS A C := fun g D T f e1 e2 e3 e => k g D T f e1 e2 e3 (h g D T f e1 e2 e3 e)
theorem KS.of_below {W W' : World} (hb : Below W.heap.size W W') : KS W W' := fun g _ _ _ _ _ _ h => (hb.block g (Array.getElem?_eq_some_iff.1 h).1).trans h
theorem KS.set {W : World} {K : Nat} {C : Array Value} (h : RB W K C) (j : Nat) (v : Value) : KS W (W.setCell ⟨K, j, none⟩ v) := fun g D T f _ _ h3 e => by
  refine (Below.heap_setCell W ⟨K, j, none⟩ v g (fun ee => ?_)).trans e
  have : g = K := ee
  subst this
  unfold RB at h
  rw [h] at e
  simp only [Option.some.injEq, Obj.cells.injEq] at e
  exact h3 e.2.1.symm
theorem KS.append {W w1 : World} {n size k : Nat} {e : TypeId} {v : Value} {xs : List Value} {tmp : Obj} (he : e = 3 ∨ e = 57) (h : W.ownsRow n e size v k xs) (hg : (W.alloc tmp).grownBy w1 v.ownBlock) : KS W w1 := fun g D T f h1 h2 _ ee => by
  have hl := (Array.getElem?_eq_some_iff.1 ee).1
  refine ((hg.block g (by simp; omega) (fun ej => ?_)).trans (Below.heap_alloc W tmp g hl)).trans ee
  rcases h.2 with ⟨rfl, _⟩ | ⟨g2, cap, cur, rfl, _, hb, _⟩
  · simp [Value.ownBlock] at ej
  · simp [Value.ownBlock] at ej
    subst ej
    rw [hb] at ee
    simp only [Option.some.injEq, Obj.cells.injEq] at ee
    rcases he with he | he
    · exact h1 (ee.2.1.symm.trans he)
    · exact h2 (ee.2.1.symm.trans he)
/-- A row is kept where the reader is stored. -/
theorem own_set {W : World} {K n size k j : Nat} {e : TypeId} {v : Value} {xs : List Value} (hK : K < n) (h : W.ownsRow n e size v k xs) (u : Value) : (W.setCell ⟨K, j, none⟩ u).ownsRow n e size v k xs := by
  refine ⟨h.1, ?_⟩
  rcases h.2 with h' | ⟨g, cap, cur, hv, hb, hg, hr⟩
  · exact .inl h'
  · exact .inr ⟨g, cap, cur, hv, hb, (Below.heap_setCell W ⟨K, j, none⟩ u g (by show g ≠ K; omega)).trans hg, hr⟩
theorem Rw.below {W W' : World} {n : Nat} {r : RuV} {sn : List (List UInt8)} {v1 v2 v3 v4 v5 : Value} (h : Rw W n r sn v1 v2 v3 v4 v5) (hb : Below W.heap.size W W') : Rw W' n r sn v1 v2 v3 v4 v5 :=
  ⟨own_below h.o1 hb, own_below h.o2 hb, own_below h.o3 hb, own_below h.o4 hb, own_below h.o5 hb, h.a12, h.a14, h.a24⟩
theorem Rw.set {W : World} {K n j : Nat} {r : RuV} {sn : List (List UInt8)} {v1 v2 v3 v4 v5 : Value} (hK : K < n) (h : Rw W n r sn v1 v2 v3 v4 v5) (u : Value) : Rw (W.setCell ⟨K, j, none⟩ u) n r sn v1 v2 v3 v4 v5 :=
  ⟨own_set hK h.o1 u, own_set hK h.o2 u, own_set hK h.o3 u, own_set hK h.o4 u, own_set hK h.o5 u, h.a12, h.a14, h.a24⟩
/-- The reader: its cells and its rows. -/
def Rd (K n : Nat) (r : RuV) (sn : List (List UInt8)) (W : World) : Prop := ∃ v1 v2 v3 v4 v5, RB W K (rdA r v1 v2 v3 v4 v5) ∧ Rw W n r sn v1 v2 v3 v4 v5
theorem Rd.below {K n : Nat} {r : RuV} {sn : List (List UInt8)} {W W' : World} (h : Rd K n r sn W) (hb : Below W.heap.size W W') : Rd K n r sn W' := by
  obtain ⟨v1, v2, v3, v4, v5, h1, h2⟩ := h
  exact ⟨v1, v2, v3, v4, v5, h1.step hb, h2.below hb⟩
/-- How much has been read. -/
def lenR (r : RuV) : Nat := r.mon.length + r.md.length + r.dys.length + r.pos.length
theorem readK_len {k : Nat} {r q : RuV} {v : List UInt8} (h : readK k r v = some q) : lenR q ≤ lenR r + 1 := by
  unfold readK at h
  split at h
  · split at h
    · cases h
    · injection h with h; subst h; unfold lenR; simp only; omega
  · split at h
    · cases h
    · injection h with h; subst h; unfold lenR; simp only; omega
  · split at h
    · cases h
    · injection h with h; subst h; unfold lenR; simp only; omega
  · split at h
    · injection h with h; subst h; unfold lenR; simp only; omega
    · cases h
  · split at h
    · cases h
    · injection h with h; subst h; unfold lenR; simp only [List.length_append, List.length_singleton]; omega
  · split at h
    · cases h
    · injection h with h; subst h; unfold lenR; simp only [List.length_append, List.length_singleton]; omega
  · split at h
    · cases h
    · injection h with h; subst h; unfold lenR; simp only [List.length_append, List.length_singleton]; omega
  · split at h
    · cases h
    · injection h with h; subst h; unfold lenR; simp only [List.length_append, List.length_singleton]; omega
  · split at h
    · cases h
    · injection h with h; subst h; unfold lenR; simp only; omega
end Go.Proofs.YtnidkcedomhofaaGreatDoor
