/-
  The components that have begun and not ended, as they lie in memory: each in blocks of its own.
-/
import Derived.Test.YtlfhhnjdfpgadaaDoorG09
import Derived.Test.YtlfhhnjdfpgadaaDoorG11
import Derived.Test.YtlfhhnjdfpgadaaDoorG06
import Derived.Test.YtlfhhnjdfpgadaaDoorG01
namespace Go.Proofs.YtlfhhnjdfpgadaaDoor
open Go.RowKit

theorem own_blk {w w' : World} {base size n : Nat} {e : TypeId} {v : Value} {xs : List Value} (h : w.ownsRow base e size v n xs) (hk : ∀ g, v.ownBlock = some g → w'.heap[g]? = w.heap[g]?) : w'.ownsRow base e size v n xs := by
  refine ⟨h.1, ?_⟩
  rcases h.2 with h2 | ⟨g, cap, cur, rfl, hb, hh, r⟩
  · exact .inl h2
  · exact .inr ⟨g, cap, cur, rfl, hb, (hk g rfl).trans hh, r⟩
theorem held_ownF {F : Nat → Prop} {w : World} {base size n c : Nat} {e : TypeId} {A : Option Addr} {xs : List Value} (h : w.ownsRow base e size (.slice A n c) n xs) (hF : ∀ g, (Value.slice A n c).ownBlock = some g → F g) : Held F w (fun W => Reads W W.heap.size size A n xs) := fun W hs hk =>
  ⟨h.1, fun hn => by
    obtain ⟨g, rfl, hb, hlt, ⟨cur, hcur⟩, hc⟩ := own_cells h hn
    refine ⟨g, 0, rfl, by omega, fun j u hu => ?_⟩
    rw [Nat.zero_add]
    exact (World.cell?_of_block (a := ⟨g, j, none⟩) (hk g (hF g rfl) hlt)).trans (hc j u hu)⟩
/-- One of them: its rows and all that it holds lie in the blocks of F. -/
structure FrOk (F : Nat → Prop) (w : World) (B : Nat) (A : Option Addr) (n c : Nat) (qs : List QR) (K : Option Addr) (k kc : Nat) (cs : List CR) : Prop where
  ra : w.ownsRow B 41 3 (.slice A n c) n (enc3 fQ qs)
  fa : ∀ b, (Value.slice A n c).ownBlock = some b → F b
  rk : w.ownsRow B 25 3 (.slice K k kc) k (enc3 fC cs)
  fk : ∀ b, (Value.slice K k kc).ownBlock = some b → F b
  hq : ∀ q ∈ qs, Held (fun b => F b ∧ (Value.slice A n c).ownBlock ≠ some b ∧ (Value.slice K k kc).ownBlock ≠ some b) w (fun W => QOk W W.heap.size q)
  hc : ∀ x ∈ cs, Held (fun b => F b ∧ (Value.slice A n c).ownBlock ≠ some b ∧ (Value.slice K k kc).ownBlock ≠ some b) w (fun W => COk W W.heap.size x)
def FrR (F : Nat → Prop) (w : World) (B : Nat) : CR → Prop
  | .mk _ A n c qs K k kc cs => FrOk F w B A n c qs K k kc cs
section
variable {F F' : Nat → Prop} {w w' w5 : World} {B : Nat} {A : Option Addr} {n c : Nat} {qs : List QR} {K : Option Addr} {k kc : Nat} {cs : List CR}
theorem FrOk.keep (h : FrOk F w B A n c qs K k kc cs) (hs : w.heap.size ≤ w'.heap.size) (hk : ∀ b, F b → w'.heap[b]? = w.heap[b]?) : FrOk F w' B A n c qs K k kc cs :=
  ⟨own_blk h.ra (fun g hg => hk g (h.fa g hg)), h.fa, own_blk h.rk (fun g hg => hk g (h.fk g hg)), h.fk, fun q hq => (h.hq q hq).next hs (fun b hb _ => hk b hb.1), fun x hx => (h.hc x hx).next hs (fun b hb _ => hk b hb.1)⟩
theorem FrR.keep {r : CR} (h : FrR F w B r) (hs : w.heap.size ≤ w'.heap.size) (hk : ∀ b, F b → w'.heap[b]? = w.heap[b]?) : FrR F w' B r := by
  cases r; exact FrOk.keep h hs hk
/-- As a component that is read. -/
theorem FrOk.comp (h : FrOk F w B A n c qs K k kc cs) (nm : ByteArray) : Held F w (fun W => COk W W.heap.size (.mk nm A n c qs K k kc cs)) := by
  obtain ⟨A6, c6, e6, h1, h2⟩ := own_slice h.ra
  injection e6 with _ _ e6
  subst e6
  obtain ⟨A7, c7, e7, h3, h4⟩ := own_slice h.rk
  injection e7 with _ _ e7
  subst e7
  have g1 := held_ownF h.ra h.fa
  have g2 := held_ownF h.rk h.fk
  have g3 : Held F w (fun W => ∀ q ∈ qs, QOk W W.heap.size q) := Held.all fun q hq => (h.hq q hq).weak (fun b hb _ => hb.1)
  have g4 : Held F w (fun W => ∀ x ∈ cs, COk W W.heap.size x) := Held.all fun x hx => (h.hc x hx).weak (fun b hb _ => hb.1)
  exact ((g1.and g2).and (g3.and g4)).imp (fun W hW => .mk hW.1.1 hW.2.1 h1 h2 hW.1.2 hW.2.2 h3 h4)
theorem own_types {n' k' : Nat} (h : w.ownsRow B 41 3 (.slice A n c) n' (enc3 fQ qs)) (h' : w.ownsRow B 25 3 (.slice K k kc) k' (enc3 fC cs)) : ∀ g, (Value.slice A n c).ownBlock = some g → (Value.slice K k kc).ownBlock ≠ some g := own_apart h h' (by decide)
/-- One more property. -/
theorem FrOk.addQ {A' : Option Addr} {c' : Nat} {q : QR} (h : FrOk F w B A n c qs K k kc cs) (hlt : ∀ b, F b → b < w.heap.size) (hs : w.heap.size ≤ w5.heap.size) (hs5 : w5.heap.size ≤ w'.heap.size)
    (hk : ∀ b, F b → (Value.slice A n c).ownBlock ≠ some b → w'.heap[b]? = w.heap[b]?) (hk5 : ∀ b, w.heap.size ≤ b → b < w5.heap.size → w'.heap[b]? = w5.heap[b]?)
    (hrow : w'.ownsRow B 41 3 (.slice A' (n + 1) c') (n + 1) (enc3 fQ (qs ++ [q]))) (hor : (Value.slice A' (n + 1) c').ownBlock = (Value.slice A n c).ownBlock ∨ ∃ g, (Value.slice A' (n + 1) c').ownBlock = some g ∧ w5.heap.size ≤ g ∧ g < w'.heap.size)
    (hy : Held (fun b => w.heap.size ≤ b) w5 (fun W => QOk W W.heap.size q)) : FrOk (fun b => F b ∨ (w.heap.size ≤ b ∧ b < w'.heap.size)) w' B A' (n + 1) c' (qs ++ [q]) K k kc cs := by
  have hne : ∀ b, F b → (Value.slice A n c).ownBlock ≠ some b → (Value.slice A' (n + 1) c').ownBlock ≠ some b := fun b hb h1 e => by
    rcases hor with e2 | ⟨g, e2, h2, h3⟩
    · exact h1 (e2 ▸ e)
    · rw [e2] at e; injection e with e; have := hlt b hb; omega
  have up : ∀ {G : World → Prop}, Held (fun b => F b ∧ (Value.slice A n c).ownBlock ≠ some b ∧ (Value.slice K k kc).ownBlock ≠ some b) w G → Held (fun b => (F b ∨ (w.heap.size ≤ b ∧ b < w'.heap.size)) ∧ (Value.slice A' (n + 1) c').ownBlock ≠ some b ∧ (Value.slice K k kc).ownBlock ≠ some b) w' G := fun hG =>
    (hG.next (by omega) (fun b hb _ => hk b hb.1 hb.2.1)).weak (fun b hb _ => ⟨.inl hb.1, hne b hb.1 hb.2.1, hb.2.2⟩)
  refine ⟨hrow, fun b hb => ?_, own_blk h.rk (fun g hg => hk g (h.fk g hg) (fun e => own_types h.ra h.rk g e hg)), fun b hb => .inl (h.fk b hb), fun q' hq' => ?_, fun x hx => up (h.hc x hx)⟩
  · rcases hor with e2 | ⟨g, e2, h2, h3⟩
    · exact .inl (h.fa b (e2 ▸ hb))
    · rw [e2] at hb; injection hb with hb; exact .inr ⟨by omega, by omega⟩
  · rcases List.mem_append.1 hq' with h1 | h1
    · exact up (h.hq q' h1)
    · rw [List.mem_singleton.1 h1]
      refine (hy.weak (S' := fun b => (w.heap.size ≤ b ∧ b < w5.heap.size)) (fun b hb hl => ⟨hb, hl⟩)).next hs5 (fun b hb _ => hk5 b hb.1 hb.2) |>.weak (fun b hb _ => ⟨.inr ⟨hb.1, by omega⟩, fun e => ?_, fun e => ?_⟩)
      · rcases hor with e2 | ⟨g, e2, h2, h3⟩
        · have := hlt b (h.fa b (e2 ▸ e)); omega
        · rw [e2] at e; injection e with e; omega
      · have := hlt b (h.fk b e); omega
/-- One more component, which lies in the blocks of F'. -/
theorem FrOk.addC {K' : Option Addr} {kc' : Nat} {x : CR} (h : FrOk F w B A n c qs K k kc cs) (hlt : ∀ b, F b → b < w.heap.size) (hlt' : ∀ b, F' b → b < w.heap.size) (hd : ∀ b, F b → ¬ F' b) (hs : w.heap.size ≤ w'.heap.size)
    (hk : ∀ b, F b ∨ F' b → (Value.slice K k kc).ownBlock ≠ some b → w'.heap[b]? = w.heap[b]?)
    (hrow : w'.ownsRow B 25 3 (.slice K' (k + 1) kc') (k + 1) (enc3 fC (cs ++ [x]))) (hor : (Value.slice K' (k + 1) kc').ownBlock = (Value.slice K k kc).ownBlock ∨ ∃ g, (Value.slice K' (k + 1) kc').ownBlock = some g ∧ w.heap.size ≤ g ∧ g < w'.heap.size)
    (hy : Held F' w (fun W => COk W W.heap.size x)) : FrOk (fun b => (F b ∨ F' b) ∨ (w.heap.size ≤ b ∧ b < w'.heap.size)) w' B A n c qs K' (k + 1) kc' (cs ++ [x]) := by
  have hne : ∀ b, F b ∨ F' b → (Value.slice K k kc).ownBlock ≠ some b → (Value.slice K' (k + 1) kc').ownBlock ≠ some b := fun b hb h1 e => by
    rcases hor with e2 | ⟨g, e2, h2, h3⟩
    · exact h1 (e2 ▸ e)
    · rw [e2] at e; injection e with e
      have : b < w.heap.size := hb.elim (hlt b) (hlt' b)
      omega
  have up : ∀ {G : World → Prop}, Held (fun b => F b ∧ (Value.slice A n c).ownBlock ≠ some b ∧ (Value.slice K k kc).ownBlock ≠ some b) w G → Held (fun b => ((F b ∨ F' b) ∨ (w.heap.size ≤ b ∧ b < w'.heap.size)) ∧ (Value.slice A n c).ownBlock ≠ some b ∧ (Value.slice K' (k + 1) kc').ownBlock ≠ some b) w' G := fun hG =>
    (hG.next hs (fun b hb _ => hk b (.inl hb.1) hb.2.2)).weak (fun b hb _ => ⟨.inl (.inl hb.1), hb.2.1, hne b (.inl hb.1) hb.2.2⟩)
  refine ⟨own_blk h.ra (fun g hg => hk g (.inl (h.fa g hg)) (own_types h.ra h.rk g hg)), fun b hb => .inl (.inl (h.fa b hb)), hrow, fun b hb => ?_, fun q hq => up (h.hq q hq), fun x' hx' => ?_⟩
  · rcases hor with e2 | ⟨g, e2, h2, h3⟩
    · exact .inl (.inl (h.fk b (e2 ▸ hb)))
    · rw [e2] at hb; injection hb with hb; exact .inr ⟨by omega, by omega⟩
  · rcases List.mem_append.1 hx' with h1 | h1
    · exact up (h.hc x' h1)
    · rw [List.mem_singleton.1 h1]
      refine (hy.next hs (fun b hb _ => hk b (.inr hb) (fun e => hd b (h.fk b e) hb))).weak (fun b hb _ => ⟨.inl (.inr hb), fun e => hd b (h.fa b e) hb, hne b (.inr hb) (fun e => hd b (h.fk b e) hb)⟩)
end
/-- All of them, the innermost first, each in blocks of its own. -/
def StOk (w : World) (B : Nat) : (Nat → Prop) → List CR → Prop
  | _, [] => True
  | F, r :: st => ∃ F1 F2 : Nat → Prop, (∀ b, F1 b → F b) ∧ (∀ b, F2 b → F b) ∧ (∀ b, F1 b → ¬ F2 b) ∧ FrR F1 w B r ∧ StOk w B F2 st
theorem StOk.keep {w w' : World} {B : Nat} (hs : w.heap.size ≤ w'.heap.size) : ∀ {F : Nat → Prop} {st : List CR}, StOk w B F st → (∀ b, F b → w'.heap[b]? = w.heap[b]?) → StOk w' B F st
  | _, [], _, _ => trivial
  | _F, _r :: _st, ⟨F1, F2, h1, h2, h3, h4, h5⟩, hk => ⟨F1, F2, h1, h2, h3, h4.keep hs (fun b hb => hk b (h1 b hb)), StOk.keep hs h5 (fun b hb => hk b (h2 b hb))⟩
theorem StOk.mono {w : World} {B : Nat} {F F' : Nat → Prop} {st : List CR} (h : StOk w B F st) (hF : ∀ b, F b → F' b) : StOk w B F' st := by
  cases st with
  | nil => trivial
  | cons r st =>
    obtain ⟨F1, F2, h1, h2, h3, h4, h5⟩ := h
    exact ⟨F1, F2, fun b hb => hF b (h1 b hb), fun b hb => hF b (h2 b hb), h3, h4, h5⟩
theorem StOk.last {w : World} {B : Nat} : ∀ {F : Nat → Prop} {st : List CR} {r : CR}, StOk w B F st → st.getLast? = some r → ∃ F1, (∀ b, F1 b → F b) ∧ FrR F1 w B r
  | _, [], r, _, h => by cases h
  | F, [x], r, ⟨F1, F2, h1, h2, h3, h4, h5⟩, h => by
    injection h with h
    subst h
    exact ⟨F1, h1, h4⟩
  | F, x :: y :: st, r, ⟨F1, F2, h1, h2, h3, h4, h5⟩, h => by
    obtain ⟨F3, a, b⟩ := StOk.last h5 (by rw [List.getLast?_cons_cons] at h; exact h)
    exact ⟨F3, fun b hb => h2 b (a b hb), b⟩
def frmOf : CR → Frm
  | .mk nm _ _ _ qs _ _ _ cs => ⟨nm.data.toList, qs.map proQ, cs.map compOf⟩
def cntR (i : Nat) : CR → Prop
  | .mk _ _ n _ _ _ k _ _ => n ≤ i ∧ k ≤ i
/-- What holds between two lines. -/
structure PInv (w : World) (B : Nat) (wr : World) (i : Nat) (fs : List Frm) (R : Option Addr) (N C : Nat) (crs : List CR) (F : Nat → Prop) : Prop where
  row : wr.ownsRow B 25 3 (.slice R N C) N (enc3 fC crs.reverse)
  rF : ∀ b, (Value.slice R N C).ownBlock = some b → ¬ F b
  st : StOk wr B F crs
  fB : ∀ b, F b → B ≤ b ∧ b < wr.heap.size
  ln : crs.length = N
  fr : crs.map frmOf = fs
  ct : ∀ r ∈ crs, cntR i r
  hw : w.heap.size ≤ B
  bel : Below w.heap.size w wr
section
variable {w wr w5 w' : World} {B i : Nat} {fs : List Frm} {R : Option Addr} {N C : Nat} {crs : List CR} {F : Nat → Prop}
theorem PInv.step (h : PInv w B wr i fs R N C crs F) (hb : Below wr.heap.size wr w5) : PInv w B w5 i fs R N C crs F :=
  ⟨own_below h.row hb, h.rF, h.st.keep hb.size (fun b hb2 => hb.block b (h.fB b hb2).2), fun b hb2 => ⟨(h.fB b hb2).1, Nat.lt_of_lt_of_le (h.fB b hb2).2 hb.size⟩, h.ln, h.fr, h.ct, h.hw, bstep h.bel hb⟩
end
end Go.Proofs.YtlfhhnjdfpgadaaDoor

/-
  What a line makes of the components that have begun: one more property, one more component begun, one ended.
-/
namespace Go.Proofs.YtlfhhnjdfpgadaaDoor
open Go.RowKit

theorem enc3_last {α : Type} (f : α → Value × Value × Value) (l : List α) (x : α) (j : Nat) (v : Value) : (enc3 f (l ++ [x])).set (l.length * 3 + j) v = enc3 f l ++ [(f x).1, (f x).2.1, (f x).2.2].set j v := by
  rw [enc3_snoc, List.set_append_right _ _ (by rw [enc3_length]; omega), enc3_length, Nat.add_sub_cancel_left]
theorem own_rowlt {w : World} {base size n : Nat} {e : TypeId} {v : Value} {xs : List Value} (h : w.ownsRow base e size v n xs) : ∀ k, v.ownBlock = some k → k < w.heap.size := fun k e => (h.lt k e).2
theorem cntR_mono {i j : Nat} (hij : i ≤ j) : ∀ {r : CR}, cntR i r → cntR j r
  | .mk .., h => ⟨Nat.le_trans h.1 hij, Nat.le_trans h.2 hij⟩
section
variable {w wr w6 w7 : World} {B i : Nat} {fs : List Frm} {N C : Nat} {F : Nat → Prop} {nm : ByteArray} {A K : Option Addr} {n c k kc : Nat} {qs : List QR} {cs : List CR} {st : List CR}
/-- One more property for the innermost. -/
theorem PInv.addQ {g : Nat} {A' : Option Addr} {c' : Nat} {q : QR} {f : Frm} {fs' : List Frm} (h : PInv w B wr i (f :: fs') (some ⟨g, 0, none⟩) N C (.mk nm A n c qs K k kc cs :: st) F) (hb6 : Below wr.heap.size wr w6) (hg7 : w6.grownBy w7 (Value.slice A n c).ownBlock)
    (hrow : w7.ownsRow B 41 3 (.slice A' (n + 1) c') (n + 1) (enc3 fQ qs ++ [(fQ q).1, (fQ q).2.1, (fQ q).2.2])) (hor : (Value.slice A' (n + 1) c').ownBlock = (Value.slice A n c).ownBlock ∨ (Value.slice A' (n + 1) c').ownBlock = some w6.heap.size)
    (hy : Held (fun b => wr.heap.size ≤ b) w6 (fun W => QOk W W.heap.size q)) :
    ∃ F', PInv w B (w7.setCell ⟨g, st.length * 3 + 1, none⟩ (.slice A' (n + 1) c')) (i + 1) ({ f with ps := f.ps ++ [proQ q] } :: fs') (some ⟨g, 0, none⟩) N C (.mk nm A' (n + 1) c' (qs ++ [q]) K k kc cs :: st) F' := by
  obtain ⟨F1, F2, h1, h2, h3, h4, h5⟩ := h.st
  have h4 : FrOk F1 wr B A n c qs K k kc cs := h4
  have hgl : g < wr.heap.size := own_rowlt h.row g rfl
  have hgB : B ≤ g := own_row_ge h.row g rfl
  have hgF : ¬ F g := h.rF g rfl
  have hAg : ∀ b, (Value.slice A n c).ownBlock = some b → F1 b := h4.fa
  have hs6 := hb6.size
  have hs7 := hg7.size
  have hk7 : ∀ b, b ≠ g → b < w6.heap.size → (Value.slice A n c).ownBlock ≠ some b → (w7.setCell ⟨g, st.length * 3 + 1, none⟩ (.slice A' (n + 1) c')).heap[b]? = w6.heap[b]? := fun b hb hl hA =>
    (heap_setCell_other _ _ _ _ hb).trans (hg7.block b hl (fun e => hA e.symm))
  have hkr : ∀ b, F b → (Value.slice A n c).ownBlock ≠ some b → (w7.setCell ⟨g, st.length * 3 + 1, none⟩ (.slice A' (n + 1) c')).heap[b]? = wr.heap[b]? := fun b hb hA =>
    (hk7 b (fun e => hgF (e ▸ hb)) (Nat.lt_of_lt_of_le (h.fB b hb).2 hs6) hA).trans (hb6.block b (h.fB b hb).2)
  have hsz : (w7.setCell ⟨g, st.length * 3 + 1, none⟩ (.slice A' (n + 1) c')).heap.size = w7.heap.size := by simp
  have hor' : (Value.slice A' (n + 1) c').ownBlock = (Value.slice A n c).ownBlock ∨ ∃ z, (Value.slice A' (n + 1) c').ownBlock = some z ∧ w6.heap.size ≤ z ∧ z < (w7.setCell ⟨g, st.length * 3 + 1, none⟩ (.slice A' (n + 1) c')).heap.size := by
    rcases hor with e | e
    · exact .inl e
    · exact .inr ⟨_, e, Nat.le_refl _, by rw [hsz]; exact own_rowlt hrow _ e⟩
  have hAne : (Value.slice A' (n + 1) c').ownBlock ≠ some g := fun e => by
    rcases hor with e2 | e2
    · exact hgF (h1 g (hAg g (e2 ▸ e)))
    · rw [e2] at e; injection e with e; omega
  have hrow' : (w7.setCell ⟨g, st.length * 3 + 1, none⟩ (.slice A' (n + 1) c')).ownsRow B 41 3 (.slice A' (n + 1) c') (n + 1) (enc3 fQ (qs ++ [q])) := by
    rw [enc3_snoc]
    exact ownsRow_setCell_other hrow (fun e => hAne e) _
  have hR7 : w7.ownsRow B 25 3 (.slice (some ⟨g, 0, none⟩) N C) N (enc3 fC (CR.mk nm A n c qs K k kc cs :: st).reverse) :=
    own_grown (own_below h.row hb6) hg7 (fun z hz e => by
      injection hz with hz
      subst hz
      exact hgF (h1 _ (hAg _ e)))
  have hRs := (World.ownsRow.stored hR7 (st.length * 3 + 1) (.slice A' (n + 1) c')).1
  refine ⟨fun b => F b ∨ (wr.heap.size ≤ b ∧ b < (w7.setCell ⟨g, st.length * 3 + 1, none⟩ (.slice A' (n + 1) c')).heap.size), ?_, fun b hb hF => ?_, ⟨fun b => F1 b ∨ (wr.heap.size ≤ b ∧ b < (w7.setCell ⟨g, st.length * 3 + 1, none⟩ (.slice A' (n + 1) c')).heap.size), F2, ?_, fun b hb => .inl (h2 b hb), ?_, ?_, ?_⟩, fun b hb => ?_, h.ln, ?_, ?_, h.hw, ?_⟩
  · have e := enc3_last fC st.reverse (.mk nm A n c qs K k kc cs) 1 (.slice A' (n + 1) c')
    rw [List.length_reverse] at e
    rw [List.reverse_cons, e] at hRs
    rw [List.reverse_cons, enc3_snoc]
    exact hRs
  · injection hb with hb
    subst hb
    rcases hF with hF | hF
    · exact hgF hF
    · exact Nat.not_lt.2 hF.1 hgl
  · exact fun b hb => hb.elim (fun x => .inl (h1 b x)) .inr
  · intro b hb hF
    rcases hb with hb | hb
    · exact h3 b hb hF
    · have := (h.fB b (h2 b hF)).2; omega
  · exact FrOk.addQ h4 (fun b hb => (h.fB b (h1 b hb)).2) hs6 (by rw [hsz]; exact hs7) (fun b hb hA => hkr b (h1 b hb) hA) (fun b hb hl => hk7 b (by omega) hl (fun e => by have := (h.fB b (h1 b (hAg b e))).2; omega)) hrow' hor' hy
  · exact h5.keep (by rw [hsz]; omega) (fun b hb => hkr b (h2 b hb) (fun e => h3 b (hAg b e) hb))
  · rcases hb with hb | hb
    · have := h.fB b hb; rw [hsz]; omega
    · have := hb.2; omega
  · have := h.fr
    rw [List.map_cons] at this ⊢
    injection this with e1 e2
    rw [← e1, e2]
    simp [frmOf]
  · intro r hr
    rcases List.mem_cons.1 hr with e | hr
    · rw [e]
      have := h.ct _ (List.mem_cons_self ..)
      exact ⟨by have := this.1; omega, by have := this.2; omega⟩
    · exact cntR_mono (by omega) (h.ct r (List.mem_cons_of_mem _ hr))
  · refine Below.setCell ?_ (p := ⟨g, st.length * 3 + 1, none⟩) (by show w.heap.size ≤ g; have := h.hw; omega) _
    refine (bstep h.bel hb6).grown hg7 (by have := h.bel.size; omega) (fun z e => ?_)
    have := (h.fB z (h1 z (hAg z e))).1
    have := h.hw
    omega
/-- One more component begun. -/
theorem PInv.begun {R R' : Option Addr} {C' : Nat} {t : ByteArray} {crs : List CR} (h : PInv w B wr i fs R N C crs F) (hb6 : Below wr.heap.size wr w6) (hg7 : w6.grownBy w7 (Value.slice R N C).ownBlock)
    (hrow : w7.ownsRow B 25 3 (.slice R' (N + 1) C') (N + 1) (enc3 fC crs.reverse ++ [.string t, .slice none 0 0, .slice none 0 0])) (hor : (Value.slice R' (N + 1) C').ownBlock = (Value.slice R N C).ownBlock ∨ (Value.slice R' (N + 1) C').ownBlock = some w6.heap.size) :
    PInv w B w7 (i + 1) (⟨t.data.toList, [], []⟩ :: fs) R' (N + 1) C' (.mk t none 0 0 [] none 0 0 [] :: crs) F := by
  have hs6 := hb6.size
  have hs7 := hg7.size
  have hkr : ∀ b, F b → w7.heap[b]? = wr.heap[b]? := fun b hb =>
    (hg7.block b (Nat.lt_of_lt_of_le (h.fB b hb).2 hs6) (fun e => h.rF b e.symm hb)).trans (hb6.block b (h.fB b hb).2)
  refine ⟨?_, fun b hb hF => ?_, ⟨fun _ => False, F, fun b hb => hb.elim, fun b hb => hb, fun b hb => hb.elim, ⟨own_nil, fun b hb => (by cases hb), own_nil, fun b hb => (by cases hb), fun q hq => (by cases hq), fun x hx => (by cases hx)⟩, h.st.keep (by omega) hkr⟩, fun b hb => ?_, by rw [List.length_cons, h.ln], ?_, ?_, h.hw, ?_⟩
  · rw [List.reverse_cons, enc3_snoc]
    exact hrow
  · rcases hor with e | e
    · exact h.rF b (e ▸ hb) hF
    · rw [e] at hb; injection hb with hb; have := (h.fB b hF).2; omega
  · have := h.fB b hb; omega
  · rw [List.map_cons, h.fr]; rfl
  · intro r hr
    rcases List.mem_cons.1 hr with e | hr
    · rw [e]; exact ⟨Nat.zero_le _, Nat.zero_le _⟩
    · exact cntR_mono (by omega) (h.ct r hr)
  · refine (bstep h.bel hb6).grown hg7 (by have := h.bel.size; omega) (fun z e => ?_)
    have := own_row_ge h.row z e
    have := h.hw
    omega
/-- The innermost laid into the one around it. -/
theorem PInv.ended {w9 : World} {g : Nat} {x : CR} {K' : Option Addr} {kc' : Nat} {f f2 : Frm} {fs' : List Frm} (h : PInv w B wr i (f :: f2 :: fs') (some ⟨g, 0, none⟩) N C (x :: .mk nm A n c qs K k kc cs :: st) F) (hs9 : wr.heap.size ≤ w9.heap.size)
    (hk9 : ∀ b, b < wr.heap.size → b ≠ g → (Value.slice K k kc).ownBlock ≠ some b → w9.heap[b]? = wr.heap[b]?)
    (hK : w9.ownsRow B 25 3 (.slice K' (k + 1) kc') (k + 1) (enc3 fC (cs ++ [x]))) (hor : (Value.slice K' (k + 1) kc').ownBlock = (Value.slice K k kc).ownBlock ∨ ∃ z, (Value.slice K' (k + 1) kc').ownBlock = some z ∧ wr.heap.size ≤ z ∧ z < w9.heap.size)
    (hR : w9.ownsRow B 25 3 (.slice (some ⟨g, 0, none⟩) (N - 1) C) (N - 1) (enc3 fC (CR.mk nm A n c qs K' (k + 1) kc' (cs ++ [x]) :: st).reverse)) (hbel : Below w.heap.size w w9) :
    ∃ F', PInv w B w9 (i + 1) ({ f2 with cs := f2.cs ++ [f.whole] } :: fs') (some ⟨g, 0, none⟩) (N - 1) C (.mk nm A n c qs K' (k + 1) kc' (cs ++ [x]) :: st) F' := by
  obtain ⟨F1, F2, h1, h2, h3, h4, F3, F4, h5, h6, h7, h8, h9⟩ := h.st
  have h8 : FrOk F3 wr B A n c qs K k kc cs := h8
  have hgl : g < wr.heap.size := own_rowlt h.row g rfl
  have hgB : B ≤ g := own_row_ge h.row g rfl
  have hgF : ¬ F g := h.rF g rfl
  have hx : Held F1 wr (fun W => COk W W.heap.size x) := by cases x; exact FrOk.comp h4 _
  have hln := h.ln
  simp only [List.length_cons] at hln
  have hkF : ∀ b, F b → (Value.slice K k kc).ownBlock ≠ some b → w9.heap[b]? = wr.heap[b]? := fun b hb hA => hk9 b (h.fB b hb).2 (fun e => hgF (e ▸ hb)) hA
  refine ⟨fun b => F b ∨ (wr.heap.size ≤ b ∧ b < w9.heap.size), hR, fun b hb hF => ?_, ⟨fun b => (F3 b ∨ F1 b) ∨ (wr.heap.size ≤ b ∧ b < w9.heap.size), F4, ?_, fun b hb => .inl (h2 b (h6 b hb)), ?_, ?_, ?_⟩, fun b hb => ?_, by simp only [List.length_cons]; omega, ?_, ?_, h.hw, hbel⟩
  · injection hb with hb
    subst hb
    rcases hF with hF | hF
    · exact hgF hF
    · exact Nat.not_lt.2 hF.1 hgl
  · exact fun b hb => hb.elim (fun y => .inl (y.elim (fun z => h2 b (h5 b z)) (h1 b))) .inr
  · intro b hb hF
    rcases hb with (hb | hb) | hb
    · exact h7 b hb hF
    · exact h3 b hb (h6 b hF)
    · have := (h.fB b (h2 b (h6 b hF))).2; omega
  · refine FrOk.addC h8 (fun b hb => (h.fB b (h2 b (h5 b hb))).2) (fun b hb => (h.fB b (h1 b hb)).2) (fun b hb hF => h3 b hF (h5 b hb)) hs9 (fun b hb hA => hkF b (hb.elim (fun y => h2 b (h5 b y)) (h1 b)) hA) hK hor hx
  · exact h9.keep hs9 (fun b hb => hkF b (h2 b (h6 b hb)) (fun e => h7 b (h8.fk b e) hb))
  · rcases hb with hb | hb
    · have := h.fB b hb; omega
    · have := hb.2; omega
  · have := h.fr
    rw [List.map_cons, List.map_cons] at this
    rw [List.map_cons]
    injection this with e1 e2
    injection e2 with e2 e3
    rw [← e1, ← e2, e3]
    cases x
    simp [frmOf, Frm.whole, compOf_mk]
  · intro r hr
    rcases List.mem_cons.1 hr with e | hr
    · rw [e]
      have := h.ct _ (List.mem_cons_of_mem _ (List.mem_cons_self ..))
      exact ⟨by have := this.1; omega, by have := this.2; omega⟩
    · exact cntR_mono (by omega) (h.ct r (List.mem_cons_of_mem _ (List.mem_cons_of_mem _ hr)))
end
end Go.Proofs.YtlfhhnjdfpgadaaDoor

/-
  Regions that draw their order: what comes behind the operation till which a condition held; two stores in either order.
-/
namespace Go.Proofs.YtlfhhnjdfpgadaaDoor
open Go.RowKit

section
variable {P : Program} {ops : Array Oper} {Q : Exit → Act → World → Prop} {md : Region.Mode} {S S' : World → Prop} {k k' : Nat}
theorem getD_set_any {listed : Array Bool} {i k : Nat} (h : listed.getD k true = true) : (listed.setIfInBounds i true).getD k true = true := by
  by_cases e : i = k
  · subst e
    simp only [Array.getD_eq_getD_getElem?, Array.getElem?_setIfInBounds]
    by_cases hb : i < listed.size
    · simp [hb]
    · simp [hb]
  · rw [getD_set_ne true e]; exact h
theorem wpTill_switch : ∀ (f : Nat) (listed : Array Bool) (a : Act) (w : World), listed.getD k true = true → wpTill P md ops Q S' k' f listed a w → wpTill P md ops Q S k f listed a w
  | 0, _, _, _, _, h => h
  | f + 1, listed, _, _, hk, h => ⟨h.1, fun i hi => wpOp_mono (fun a' w' h3 => ⟨fun _ h4 => (by rw [hk] at h4; cases h4), wpTill_switch f _ a' w' (getD_set_any hk) h3.2⟩) (h.2 i hi)⟩
/-- Behind k nothing has to hold. -/
theorem till_switch {f : Nat} {listed : Array Bool} {a : Act} {w : World} (hk : listed.getD k true = true) (h : TillC P md ops Q (fun _ => True) 999 f listed a w) : TillC P md ops Q S k f listed a w := fun hc => wpTill_switch f listed a w hk (h hc)
theorem wpTill_weak : ∀ (f : Nat) (listed : Array Bool) (a : Act) (w : World), wpTill P md ops Q S k f listed a w → wpTill P md ops Q (fun _ => True) k' f listed a w
  | 0, _, _, _, h => h
  | f + 1, _, _, _, h => ⟨h.1, fun i hi => wpOp_mono (fun a' w' h3 => ⟨fun _ _ => trivial, wpTill_weak f _ a' w' h3.2⟩) (h.2 i hi)⟩
/-- From here on a condition holds. -/
theorem till_weak {f : Nat} {listed : Array Bool} {a : Act} {w : World} (h : TillC P md ops Q S k f listed a w) : TillC P md ops Q (fun _ => True) 999 f listed a w := fun hc => wpTill_weak f listed a w (h hc)
theorem true_first {i : Nat} {oi : Oper} {v : Value} (hi : ops[i]? = some oi) (hsel : ∀ (j : Nat) (o : Oper) cs b, ops[j]? = some o → o.op ≠ .select cs b)
    (hQ : ∀ c a w, Q (.panic c) (a.put oi.dst v) w → Q (.panic c) a w) :
    ∀ (f : Nat) (listed : Array Bool) (a : Act) (w : World),
      (∀ j oj, ops[j]? = some oj → j ≠ i → listed.getD j true = false → (∀ e ∈ oj.after, Region.binds md e = true → e.on ≠ i) → oi.apart ops oj = true) →
      i ∈ Region.ready md ops listed → YieldsIf P ops (fun _ => True) oi v a →
      wpTill P md ops Q (fun _ => True) k f (listed.setIfInBounds i true) (a.put oi.dst v) w → wpTill P md ops Q (fun _ => True) k (f + 1) listed a w := by
  intro f
  induction f with
  | zero =>
    intro listed a w _ hr hy H
    refine ⟨fun h => (by rw [h] at hr; cases hr), fun j hj => ?_⟩
    by_cases hji : j = i
    · subst hji
      exact hy.wpOp hi trivial ⟨fun _ _ => trivial, H⟩
    · have := ready_mono hj hji
      rw [H.1] at this
      cases this
  | succ f ih =>
    intro listed a w hfree hr hy H
    have hun := (mem_ready.1 hr).1
    refine ⟨fun h => (by rw [h] at hr; cases hr), fun j hj => ?_⟩
    by_cases hji : j = i
    · subst hji
      exact hy.wpOp hi trivial ⟨fun _ _ => trivial, H⟩
    obtain ⟨hjun, oj, hoj, hall⟩ := mem_ready.1 hj
    have hnot : ∀ e ∈ oj.after, Region.binds md e = true → e.on ≠ i := fun e he hb heq => by
      have h1 := hall e he hb
      rw [heq, getD_both hun] at h1
      cases h1
    refine wpOp_mono (fun a' w' h3 => ?_) (wpOp_putIf hoj (hfree j oj hoj hji hjun hnot) (fun cs b => hsel i oi cs b hi) (fun cs b => hsel j oj cs b hoj) hQ hy (H.2 j (ready_mono hj hji)))
    refine ⟨fun _ _ => trivial, ih (listed.setIfInBounds j true) a' w' (fun q oq hq hqi hqun hno => ?_) (ready_mono hr (Ne.symm hji)) h3.1 ?_⟩
    · by_cases hjq : j = q
      · subst hjq
        exact hfree j oq hq hqi hjun hno
      · rw [getD_set_ne true hjq] at hqun
        exact hfree q oq hq hqi hqun hno
    · rw [Array.setIfInBounds_comm _ _ hji]
      exact h3.2.2
/-- Taken first: what yields its value in every world. -/
theorem till_any {i : Nat} (oi : Oper) (v : Value) {f : Nat} {listed : Array Bool} {a : Act} {w : World} (hi : ops[i]? = some oi) (hs : Region.noSelect ops = true) (hf : Region.free md ops listed i = true)
    (hr : (Region.ready md ops listed).contains i = true) (hQ : ∀ c a w, Q (.panic c) (a.put oi.dst v) w → Q (.panic c) a w) (hy : YieldsIf P ops (fun _ => True) oi v a)
    (h : TillC P md ops Q (fun _ => True) k f (listed.setIfInBounds i true) (a.put oi.dst v) w) : TillC P md ops Q (fun _ => True) k (f + 1) listed a w := fun hc => by
  have hr' : i ∈ Region.ready md ops listed := by simpa using hr
  exact true_first hi (Region.noSelect_spec hs) hQ f listed a w (Region.free_spec hi hf) hr' hy (h (closed_set hc hr'))
/-- Two come up. -/
theorem till_two {i j : Nat} (o o2 : Oper) {f : Nat} {listed : Array Bool} {a : Act} {w : World} (hr : Region.ready md ops listed = [i, j]) (ho : ops[i]? = some o) (ho2 : ops[j]? = some o2) (hg : o.guard = none) (hg2 : o2.guard = none)
    (h1 : ∀ K : Act → World → Prop, Shut (∀ a' w', TillC P md ops Q (fun _ => True) k f (listed.setIfInBounds i true) a' w' → K a' w') → Oper.wp P o a w K Q)
    (h2 : ∀ K : Act → World → Prop, Shut (∀ a' w', TillC P md ops Q (fun _ => True) k f (listed.setIfInBounds j true) a' w' → K a' w') → Oper.wp P o2 a w K Q) : TillC P md ops Q (fun _ => True) k (f + 1) listed a w := fun hc => by
  refine ⟨fun h0 => (by rw [hr] at h0; cases h0), fun z hz => ?_⟩
  have hz' := hz
  rw [hr] at hz'
  rcases List.mem_cons.1 hz' with rfl | hz'
  · unfold wpOp
    simp only [ho]
    have hw : Region.wanted o (yielded ops a.tmps) = true := by simp [Region.wanted, hg]
    rw [if_pos hw]
    exact .inl (h1 _ fun a' w' hT => ⟨fun _ _ => trivial, hT (closed_set hc hz)⟩)
  · obtain rfl : z = j := by simpa using hz'
    unfold wpOp
    simp only [ho2]
    have hw : Region.wanted o2 (yielded ops a.tmps) = true := by simp [Region.wanted, hg2]
    rw [if_pos hw]
    exact .inl (h2 _ fun a' w' hT => ⟨fun _ _ => trivial, hT (closed_set hc hz)⟩)
/-- append as one operation of such a region. -/
theorem oper_append_reads (w : World) {o : Oper} {a : Act} {K : Act → World → Prop} (s x : Operand) (t : TypeId)
    (ho : o.op = .call { callee := .builtin .append, args := #[s, x], argTypes := #[t, t] })
    (base : Nat) (e : TypeId) (i : TypeInfo) (z : Value) (size bytes : Nat) (ht : P.underlying t = some (.slice e)) (hi : P.info? e = some i) (hz : i.zero = some z)
    (hsize : i.size = size) (hby : i.bytes = bytes) (hzs : z.cells.size = size) (hsz : 0 < size) (v : Value) (n : Nat) (xs : List Value) (hs : a.eval s = v) (hown : w.ownsRow base e size v n xs)
    (B : Nat) (A : Option Addr) (m c : Nat) (news : List Value) (hx : a.eval x = .slice A m c) (hr : Reads w B size A m news) (h1 : ∀ u ∈ news, u.oneCell' = true) (h63 : n + m ≤ maxLen) (hbytes : (n + m) * bytes ≤ 140737488355328) (hbase : base ≤ w.heap.size)
    (h : ∀ A2 c2 w', w'.ownsRow base e size (.slice A2 (n + m) c2) (n + m) (xs ++ news) → w.grownBy w' v.ownBlock → ((Value.slice A2 (n + m) c2).ownBlock = v.ownBlock ∨ (Value.slice A2 (n + m) c2).ownBlock = some w.heap.size) → K (a.put o.dst (.slice A2 (n + m) c2)) w') :
    Oper.wp P o a w K Q := by
  obtain ⟨A2, c2, w', hrun, h2, h3, h4⟩ := run_append_reads (P := P) w base t o.type e i z size bytes ht hi hz hsize hby hzs hsz v n xs hown B A m c news hr h1 h63 hbytes hbase
  unfold Oper.wp execOp
  simp only [ho, resolve, invoke, builtin, Sem.run_bind, Sem.run_pure, Result.andThen_ok, List.map_toArray, List.map_cons, List.map_nil, hs, hx, hrun]
  exact h A2 c2 w' h2 h3 h4
end
end Go.Proofs.YtlfhhnjdfpgadaaDoor
