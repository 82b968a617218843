/-
  The program's reader of a property in memory: what has come, as the machine has it; what each change leaves.
-/
import Derived.Test.YtlfhhnjdfpgadaaGreatDoorG20
import Derived.Test.YtlfhhnjdfpgadaaGreatDoorG09
import Derived.Test.YtlfhhnjdfpgadaaGreatDoorG06
import Derived.Test.YtlfhhnjdfpgadaaGreatDoorG17
import Derived.Deep.MidRow
import Derived.Deep.DeepCutAuto
import Derived.Deep.LoopGhost
import Derived.Test.YtlfhhnjdfpgadaaGreatDoorG04
namespace Go.Proofs.YtlfhhnjdfpgadaaGreatDoor
open Go.RowKit

theorem own_lo {w : World} {base n size : Nat} {e : TypeId} {v : Value} {xs : List Value} (h : w.ownsRow base e size v n xs) {g : Nat} (hg : g < base) : v.ownBlock ≠ some g := fun x => by have := own_row_ge h g x; omega
theorem set_lo {w : World} {base n size : Nat} {e : TypeId} {v : Value} {xs : List Value} (h : w.ownsRow base e size v n xs) {g : Nat} (hg : g < base) (i : Nat) (u : Value) : (w.setCell ⟨g, i, none⟩ u).ownsRow base e size v n xs := ownsRow_setCell_other (a := ⟨g, i, none⟩) h (own_lo h hg) u
/-- A cell of a row of the call's own is stored. -/
theorem own_setN {w : World} {base g cap n i size : Nat} {e : TypeId} {xs : List Value} {u : Value} (h : w.ownsRow base e size (.slice (some ⟨g, 0, none⟩) n cap) n xs) : (w.setCell ⟨g, i, none⟩ u).ownsRow base e size (.slice (some ⟨g, 0, none⟩) n cap) n (xs.set i u) := by
  refine ⟨by rw [List.length_set]; exact h.1, ?_⟩
  rcases h.2 with ⟨e0, _⟩ | ⟨g', cap', cur, e0, hb, hg, hn, hm, hs, ht⟩
  · cases e0
  · injection e0 with e1 _ e3
    injection e1 with e1
    injection e1 with e1
    subst e1; subst e3
    refine .inr ⟨g, cap, cur.setIfInBounds i u, rfl, hb, ?_, hn, hm, by simpa using hs, ?_⟩
    · simp [World.setCell, Array.getElem?_modify, hg]
    · rw [← ht, Array.toList_setIfInBounds, List.take_set]
/-- The reader, the answer's variable, the rows; behind H the reader; ahead of it the answer's variable. -/
structure RP (w : World) (H : Nat) (W : World) (m : Mac) (nm vl : ByteArray) (L : Option Addr) (n c : Nat) (l : List PR) (G : Option Addr) (k kc : Nat) (B : Nat) : Prop where
  rd : RL W (H + 1) nm vl L n c m.st G k kc
  res : P3 W w.heap.size ⟨#[]⟩ ⟨#[]⟩ none 0 0
  own : W.ownsRow (H + 2) 56 2 (.slice L n c) n (encP l)
  got : W.ownsRow (H + 2) 5 1 (.slice G k kc) k (u8s m.got)
  par : ∀ r ∈ l, W.ownsRow (H + 2) 9 1 (.slice r.K r.k r.kc) r.k (encS r.vs)
  low : ∀ r ∈ l.dropLast, ∀ x, (Value.slice r.K r.k r.kc).ownBlock = some x → x < B
  last : ∀ r, l.getLast? = some r → W.ownsRow B 9 1 (.slice r.K r.k r.kc) r.k (encS r.vs)
  nmE : nm.data.toList = m.name
  vlE : vl.data.toList = m.value
  prs : l.map parOf = m.pars
  hB : H + 2 ≤ B
  hBW : B ≤ W.heap.size
  bel : Below w.heap.size w W
  hwH : w.heap.size ≤ H
section
variable {w W W' W1 W2 : World} {H : Nat} {m m' : Mac} {nm vl nm' vl' : ByteArray} {L L' G G' : Option Addr} {n c c' k kc k' kc' B : Nat} {l : List PR}
theorem RP.len (h : RP w H W m nm vl L n c l G k kc B) : l.length = n := by
  have := h.own.1
  rw [encP_length] at this
  omega
theorem RP.gotlen (h : RP w H W m nm vl L n c l G k kc B) : m.got.length = k := by
  have := h.got.1
  rw [u8s_length] at this
  omega
theorem RP.below (h : RP w H W m nm vl L n c l G k kc B) (hb : Below W.heap.size W W') : RP w H W' m nm vl L n c l G k kc B :=
  ⟨h.rd.step hb, h.res.step hb, own_below h.own hb, own_below h.got hb, fun r hr => own_below (h.par r hr) hb, h.low, fun r hr => own_below (h.last r hr) hb, h.nmE, h.vlE, h.prs, h.hB, Nat.le_trans h.hBW hb.size, h.bel.trans (hb.mono (Nat.le_of_lt h.res.lt)), h.hwH⟩
/-- A cell of the reader is stored. -/
theorem RP.chg (h : RP w H W m nm vl L n c l G k kc B) (i : Nat) (u : Value) (hrd : RL (W.setCell ⟨H + 1, i, none⟩ u) (H + 1) nm' vl' L n c m'.st G' k' kc') (hgot : W.ownsRow (H + 2) 5 1 (.slice G' k' kc') k' (u8s m'.got))
    (hn : nm'.data.toList = m'.name) (hv : vl'.data.toList = m'.value) (hp : m'.pars = m.pars) : RP w H (W.setCell ⟨H + 1, i, none⟩ u) m' nm' vl' L n c l G' k' kc' B := by
  have hs : (W.setCell ⟨H + 1, i, none⟩ u).heap.size = W.heap.size := by simp [World.setCell]
  exact ⟨hrd, (Below.heap_setCell W ⟨H + 1, i, none⟩ u w.heap.size (by have := h.hwH; show w.heap.size ≠ H + 1; omega)).trans h.res, set_lo h.own (by omega) _ u, set_lo hgot (by omega) _ u,
    fun r hr => set_lo (h.par r hr) (by omega) _ u, h.low, fun r hr => set_lo (h.last r hr) (by have := h.hB; omega) _ u, hn, hv, by rw [hp]; exact h.prs, h.hB, by rw [hs]; exact h.hBW, h.bel.setCell (p := ⟨H + 1, i, none⟩) (by have := h.hwH; show w.heap.size ≤ H + 1; omega) u, h.hwH⟩
theorem RP.drop (h : RP w H W m nm vl L n c l G k kc B) : RP w H (W.setCell ⟨H + 1, 4, none⟩ (.slice none 0 0)) ⟨m.st, [], m.name, m.pars, m.value⟩ nm vl L n c l none 0 0 B :=
  h.chg 4 _ (h.rd.got_ none 0 0) own_nil h.nmE h.vlE rfl
theorem RP.setSt (h : RP w H W m nm vl L n c l G k kc B) (q : Nat) : RP w H (W.setCell ⟨H + 1, 3, none⟩ (.int .i64 (q : Int))) (setM m q) nm vl L n c l G k kc B :=
  h.chg 3 _ (h.rd.st_ q) h.got h.nmE h.vlE rfl
theorem RP.setNm (h : RP w H W m nm vl L n c l G k kc B) (u : ByteArray) : RP w H (W.setCell ⟨H + 1, 0, none⟩ (.string u)) ⟨m.st, m.got, u.data.toList, m.pars, m.value⟩ u vl L n c l G k kc B :=
  h.chg 0 _ (h.rd.nm_ u) h.got rfl h.vlE rfl
theorem RP.setVl (h : RP w H W m nm vl L n c l G k kc B) (u : ByteArray) : RP w H (W.setCell ⟨H + 1, 2, none⟩ (.string u)) ⟨m.st, m.got, m.name, m.pars, u.data.toList⟩ nm u L n c l G k kc B :=
  h.chg 2 _ (h.rd.vl_ u) h.got h.nmE rfl rfl
theorem RP.after (h : RP w H W m nm vl L n c l G k kc B) {row : Option Nat} (hg : W.grownBy W' row) (hr : ∀ g, row = some g → H + 2 ≤ g) : RL W' (H + 1) nm vl L n c m.st G k kc ∧ P3 W' w.heap.size ⟨#[]⟩ ⟨#[]⟩ none 0 0 ∧ Below w.heap.size w W' :=
  ⟨h.rd.grown hg (fun e => by have := hr _ e; omega), (hg.block _ h.res.lt (fun e => by have := hr _ e.symm; have := h.hwH; omega)).trans h.res, h.bel.grown hg (Nat.le_of_lt h.res.lt) (fun g e => by have := hr g e; have := h.hwH; omega)⟩
/-- One byte more has come. -/
theorem RP.push (h : RP w H W m nm vl L n c l G k kc B) (ha : Below W.heap.size W W1) (hg : W1.grownBy W2 (Value.slice G k kc).ownBlock) (x : UInt8)
    (hr : W2.ownsRow (H + 2) 5 1 (.slice G' (k + 1) kc') (k + 1) (u8s m.got ++ [.int .u8 (x.toNat : Int)])) : RP w H (W2.setCell ⟨H + 1, 4, none⟩ (.slice G' (k + 1) kc')) (pushM m x) nm vl L n c l G' (k + 1) kc' B := by
  have h1 := h.below ha
  obtain ⟨rd2, res2, bel2⟩ := h1.after hg (fun g e => own_row_ge h1.got g e)
  have par2 : ∀ (base n : Nat) (v : Value) (xs : List Value), W1.ownsRow base 9 1 v n xs → W2.ownsRow base 9 1 v n xs := fun base n v xs hx => own_grown hx hg (fun b e1 e2 => own_apart h1.got hx (by decide) b e2 e1)
  have own2 := own_grown h1.own hg (fun b e1 e2 => own_apart h1.got h1.own (by decide) b e2 e1)
  have hx : RP w H W2 ⟨m.st, [], m.name, m.pars, m.value⟩ nm vl L n c l none 0 0 B → True := fun _ => trivial
  have hs : (W2.setCell ⟨H + 1, 4, none⟩ (.slice G' (k + 1) kc')).heap.size = W2.heap.size := by simp [World.setCell]
  have hr' : W2.ownsRow (H + 2) 5 1 (.slice G' (k + 1) kc') (k + 1) (u8s (m.got ++ [x])) := by rw [u8s_app]; exact hr
  exact ⟨rd2.got_ _ _ _, (Below.heap_setCell W2 ⟨H + 1, 4, none⟩ _ w.heap.size (by have := h.hwH; show w.heap.size ≠ H + 1; omega)).trans res2, set_lo own2 (by omega) _ _, set_lo hr' (by omega) _ _,
    fun r hr => set_lo (par2 _ _ _ _ (h1.par r hr)) (by omega) _ _, h.low, fun r hr => set_lo (par2 _ _ _ _ (h1.last r hr)) (by have := h.hB; omega) _ _, h.nmE, h.vlE, h.prs, h.hB, by rw [hs]; exact Nat.le_trans h1.hBW hg.size, bel2.setCell (p := ⟨H + 1, 4, none⟩) (by have := h.hwH; show w.heap.size ≤ H + 1; omega) _, h.hwH⟩
/-- A parameter more. -/
theorem RP.more (h : RP w H W m nm vl L n c l G k kc B) (ha : Below W.heap.size W W1) (hg : W1.grownBy W2 (Value.slice L n c).ownBlock) (x : ByteArray)
    (hr : W2.ownsRow (H + 2) 56 2 (.slice L' (n + 1) c') (n + 1) (encP l ++ [.string x, .slice none 0 0])) : RP w H (W2.setCell ⟨H + 1, 1, none⟩ (.slice L' (n + 1) c')) ⟨m.st, m.got, m.name, m.pars ++ [⟨x.data.toList, []⟩], m.value⟩ nm vl L' (n + 1) c' (l ++ [⟨x, none, 0, 0, []⟩]) G k kc W2.heap.size := by
  have h1 := h.below ha
  obtain ⟨rd2, res2, bel2⟩ := h1.after hg (fun g e => own_row_ge h1.own g e)
  have par2 : ∀ (base n : Nat) (v : Value) (xs : List Value), W1.ownsRow base 9 1 v n xs → W2.ownsRow base 9 1 v n xs := fun base n v xs hx => own_grown hx hg (fun b e1 e2 => own_apart h1.own hx (by decide) b e2 e1)
  have got2 := own_grown h1.got hg (fun b e1 e2 => own_apart h1.own h1.got (by decide) b e2 e1)
  have hs : (W2.setCell ⟨H + 1, 1, none⟩ (.slice L' (n + 1) c')).heap.size = W2.heap.size := by simp [World.setCell]
  have hr' : W2.ownsRow (H + 2) 56 2 (.slice L' (n + 1) c') (n + 1) (encP (l ++ [⟨x, none, 0, 0, []⟩])) := by rw [encP_snoc]; exact hr
  refine ⟨rd2.par_ _ _ _, (Below.heap_setCell W2 ⟨H + 1, 1, none⟩ _ w.heap.size (by have := h.hwH; show w.heap.size ≠ H + 1; omega)).trans res2, set_lo hr' (by omega) _ _, set_lo got2 (by omega) _ _,
    fun r hr => ?_, fun r hr y hy => ?_, fun r hr => ?_, h.nmE, h.vlE, by rw [List.map_append, h.prs]; rfl, ?_, by rw [hs]; exact Nat.le_refl _, bel2.setCell (p := ⟨H + 1, 1, none⟩) (by have := h.hwH; show w.heap.size ≤ H + 1; omega) _, h.hwH⟩
  · rcases List.mem_append.1 hr with hr | hr
    · exact set_lo (par2 _ _ _ _ (h1.par r hr)) (by omega) _ _
    · obtain rfl : r = ⟨x, none, 0, 0, []⟩ := by simpa using hr
      exact own_nil
  · rw [List.dropLast_concat] at hr
    exact ((par2 _ _ _ _ (h1.par r hr)).lt y hy).2
  · rw [List.getLast?_concat] at hr
    injection hr with hr
    subst hr
    exact own_nil
  · have := res2.lt
    have := rd2.lt
    omega
theorem encP_setLast (f : List PR) (z : PR) (K : Option Addr) (j jc : Nat) (vs : List ByteArray) : (encP (f ++ [z])).set (f.length * 2 + 1) (.slice K j jc) = encP (f ++ [⟨z.name, K, j, jc, vs⟩]) := by
  rw [encP_snoc, encP_snoc, List.set_append, if_neg (by rw [encP_length]; omega), encP_length, Nat.add_sub_cancel_left]
  rfl
theorem addV_last (f : List PR) (z : PR) (v : ByteArray) : addV ((f ++ [z]).map parOf) v.data.toList = (f ++ [(⟨z.name, z.K, z.k, z.kc, z.vs ++ [v]⟩ : PR)]).map parOf := by
  unfold addV
  simp [parOf]
/-- A value more of the last parameter. -/
theorem RP.value {f : List PR} {z : PR} {gL j jc : Nat} {K : Option Addr} (h : RP w H W m nm vl (some ⟨gL, 0, none⟩) n c (f ++ [z]) G k kc B) (ha : Below W.heap.size W W1) (hg : W1.grownBy W2 (Value.slice z.K z.k z.kc).ownBlock) (v : ByteArray)
    (hr : W2.ownsRow B 9 1 (.slice K j jc) j (encS z.vs ++ [.string v])) : RP w H (W2.setCell ⟨gL, f.length * 2 + 1, none⟩ (.slice K j jc)) ⟨m.st, m.got, m.name, addV m.pars v.data.toList, m.value⟩ nm vl (some ⟨gL, 0, none⟩) n c (f ++ [⟨z.name, K, j, jc, z.vs ++ [v]⟩]) G k kc B := by
  have h1 := h.below ha
  have hz := h1.last z (by simp)
  have hge : ∀ g, (Value.slice z.K z.k z.kc).ownBlock = some g → B ≤ g := fun g e => own_row_ge hz g e
  have hHB := h.hB
  obtain ⟨rd2, res2, bel2⟩ := h1.after hg (fun g e => by have := hge g e; omega)
  have got2 := own_grown h1.got hg (fun b e1 e2 => own_apart hz h1.got (by decide) b e2 e1)
  have own2 := own_grown h1.own hg (fun b e1 e2 => own_apart hz h1.own (by decide) b e2 e1)
  have f2 : ∀ r ∈ f, W2.ownsRow (H + 2) 9 1 (.slice r.K r.k r.kc) r.k (encS r.vs) := fun r hr => own_grown (h1.par r (by simp [hr])) hg (fun b e1 e2 => by
    have := hge b e2
    have := h1.low r (by simpa using hr) b e1
    omega)
  have hgL : H + 2 ≤ gL := own_row_ge own2 gL rfl
  have hbL : ∃ cs fr, W2.heap[gL]? = some (.cells cs 56 fr) := by
    rcases own2.2 with ⟨e, _⟩ | ⟨g, cap, cur, e, _, hh, _⟩
    · cases e
    · injection e with e
      injection e with e
      injection e with e
      subst e
      exact ⟨_, _, hh⟩
  obtain ⟨cs, fr, hcs⟩ := hbL
  have hset : ∀ b, b ≠ gL → (W2.setCell ⟨gL, f.length * 2 + 1, none⟩ (.slice K j jc)).heap[b]? = W2.heap[b]? := fun b hb => Below.heap_setCell W2 ⟨gL, f.length * 2 + 1, none⟩ _ b hb
  have hs : (W2.setCell ⟨gL, f.length * 2 + 1, none⟩ (.slice K j jc)).heap.size = W2.heap.size := by simp [World.setCell]
  have hrs : W2.ownsRow B 9 1 (.slice K j jc) j (encS (z.vs ++ [v])) := by rw [encS_snoc]; exact hr
  have strs : ∀ (base n : Nat) (x : Value) (xs : List Value), W2.ownsRow base 9 1 x n xs → (W2.setCell ⟨gL, f.length * 2 + 1, none⟩ (.slice K j jc)).ownsRow base 9 1 x n xs := fun base n x xs hx => ownsRow_setCell_other (a := ⟨gL, f.length * 2 + 1, none⟩) hx (own_not hx hcs (by decide)) _
  refine ⟨(hset _ (by omega)).trans rd2, (hset _ (by have := h.hwH; omega)).trans res2, ?_, ownsRow_setCell_other (a := ⟨gL, f.length * 2 + 1, none⟩) got2 (own_not got2 hcs (by decide)) _, fun r hr => ?_, fun r hr y hy => ?_, fun r hr => ?_, h.nmE, h.vlE, ?_, h.hB, by rw [hs]; exact Nat.le_trans h1.hBW hg.size, bel2.setCell (p := ⟨gL, f.length * 2 + 1, none⟩) (by have := h.hwH; show w.heap.size ≤ gL; omega) _, h.hwH⟩
  · have := own_setN (i := f.length * 2 + 1) (u := .slice K j jc) own2
    rw [encP_setLast f z K j jc (z.vs ++ [v])] at this
    exact this
  · rcases List.mem_append.1 hr with hr | hr
    · exact strs _ _ _ _ (f2 r hr)
    · obtain rfl : r = ⟨z.name, K, j, jc, z.vs ++ [v]⟩ := by simpa using hr
      exact own_base (strs _ _ _ _ hrs) h.hB
  · rw [List.dropLast_concat] at hr
    exact h1.low r (by simpa using hr) y hy
  · rw [List.getLast?_concat] at hr
    injection hr with hr
    subst hr
    exact strs _ _ _ _ hrs
  · show (f ++ [(⟨z.name, K, j, jc, z.vs ++ [v]⟩ : PR)]).map parOf = addV m.pars v.data.toList
    rw [← h.prs, addV_last]
    simp [parOf]
/-- The last parameter's cells. -/
theorem RP.lastc {f : List PR} {z : PR} {gL : Nat} (h : RP w H W m nm vl (some ⟨gL, 0, none⟩) n c (f ++ [z]) G k kc B) : W.cell? ⟨gL, f.length * 2, none⟩ = some (.string z.name) ∧ W.cell? ⟨gL, f.length * 2 + 1, none⟩ = some (.slice z.K z.k z.kc) ∧ ∀ o, W.frozen? ⟨gL, o, none⟩ = false := by
  have hR := Reads.of_own h.own
  obtain ⟨b, o, e, _, h0, h1⟩ := Reads.par hR (i := f.length) (r := z) (by simp)
  injection e with e
  injection e with e1 e2
  subst e1; subst e2
  refine ⟨by simpa using h0, by simpa using h1, fun o => ?_⟩
  rcases h.own.2 with ⟨e, _⟩ | ⟨g, cap, cur, e, _, hh, _⟩
  · cases e
  · injection e with e
    injection e with e
    injection e with e
    subst e
    simp [World.frozen?, hh]
/-- They are so behind an append to the last parameter's values. -/
theorem RP.lastAfter {f : List PR} {z : PR} {gL : Nat} (h : RP w H W m nm vl (some ⟨gL, 0, none⟩) n c (f ++ [z]) G k kc B) (hg : W.grownBy W' (Value.slice z.K z.k z.kc).ownBlock) : W'.cell? ⟨gL, f.length * 2 + 1, none⟩ = some (.slice z.K z.k z.kc) ∧ ∀ o, W'.frozen? ⟨gL, o, none⟩ = false := by
  have hz := h.last z (by simp)
  have hne : some gL ≠ (Value.slice z.K z.k z.kc).ownBlock := fun e => own_apart hz h.own (by decide) gL e.symm rfl
  refine ⟨hg.cell h.lastc.2.1 hne, fun o => ?_⟩
  rw [← h.lastc.2.2 o]
  exact World.frozen?_of_block (hg.block gL ((h.own.lt gL rfl).2) hne)
end
end Go.Proofs.YtlfhhnjdfpgadaaGreatDoor

/-
  The program's reader of a property: what has come is kept.
-/
namespace Go.Proofs.YtlfhhnjdfpgadaaGreatDoor
open Go.RowKit

/-- What holds of the machine all along. -/
structure RM (m : Mac) : Prop where
  st : m.st ≤ 5
  ps : 2 ≤ m.st → m.st ≤ 4 → m.pars ≠ []
  nb : m.st ≤ 1 → ∀ b ∈ m.got, nbC b = true
theorem nb_byte (b : UInt8) (h : nbC b = true) : b.toNat < 128 ∧ Lib.upperB b = upC b := by
  have : ∀ y : Fin 256, nbC (UInt8.ofNat y.val) = true → (UInt8.ofNat y.val).toNat < 128 ∧ Lib.upperB (UInt8.ofNat y.val) = upC (UInt8.ofNat y.val) := by decide +kernel
  have h2 := this ⟨b.toNat, b.toNat_lt⟩
  rw [show UInt8.ofNat (⟨b.toNat, b.toNat_lt⟩ : Fin 256).val = b from by simp] at h2
  exact h2 h
theorem upper_nb {l : List UInt8} (h : ∀ b ∈ l, nbC b = true) : Lib.toUpperA l = upL l := by
  unfold Lib.toUpperA upL
  exact List.map_congr_left (fun b hb => (nb_byte b (h b hb)).2)
theorem infoPm : (Tryz.prog.info? 56).map (fun i => (i.zero, i.size, i.bytes)) = some (some (.agg #[.string ⟨#[]⟩, .slice none 0 0]), 2, 40) := by kernel_rfl
/-- What keep leaves. -/
def KeptR (w : World) (H n b : Nat) (m : Mac) (e : Ending) (w' : World) : Prop :=
  e = .returned (.tuple #[]) ∧ ∃ (nm vl : ByteArray) (L : Option Addr) (n' c : Nat) (l : List PR) (B : Nat), RP w H w' (keepM m) nm vl L n' c l none 0 0 B ∧ n' ≤ n + 1 ∧ ∀ r ∈ l, r.k ≤ b + 1
set_option maxRecDepth 100000 in
set_option maxHeartbeats 4000000 in
theorem keep_any {w W : World} {H : Nat} {m : Mac} {nm vl : ByteArray} {L G : Option Addr} {n c k kc B b : Nat} {l : List PR} (h : RP w H W m nm vl L n c l G k kc B) (hm : RM m) (hk : k ≤ 1024) (hn : n ≤ 1024) (hv : ∀ r ∈ l, r.k ≤ b) (hb : b ≤ 2048) :
    Calls Tryz.prog 60 #[.pointer (some ⟨H + 1, 0, none⟩)] W (KeptR w H n b m) := by
  have hmx : Tryz.prog.follows .mixedOrders = true := by kernel_rfl
  obtain ⟨i0, hi0, hz0, hz1, hz2⟩ := info_parts infoS
  obtain ⟨j0, hj0, hy0, hy1, hy2⟩ := info_parts infoPm
  obtain ⟨st, got, name, pars, value⟩ := m
  have hst := hm.st
  have hps := hm.ps
  have hnb := hm.nb
  dsimp only at hst hps hnb
  clear hm
  have hgl := h.gotlen
  dsimp only at hgl
  obtain ⟨x0, x1, x2, x3, x4, xf⟩ := h.rd.cells
  have hcv := own_string (P := Tryz.prog) (dt := 9) Tryz.underlying73 Tryz.underlying5 Tryz.underlying9 h.got
  have HR := Lib.hid h.drop
  have HV := Lib.hid hv
  have HB := Lib.hid hb
  dsimp only at hcv x0 x1 x2 x3 x4 HR
  have hgz : (⟨got.toArray⟩ : ByteArray).data.toList = got := by simp
  generalize hT : (⟨got.toArray⟩ : ByteArray) = T at *
  clear hT
  have hTs : T.size ≤ 1024 := by rw [bsize, hgz]; omega
  clear h hv hb hgl
  rcases (show st = 0 ∨ st = 1 ∨ st = 5 ∨ (2 ≤ st ∧ st ≤ 4) by omega) with rfl | rfl | rfl | ⟨h2, h4⟩
  · have cu := fun W => Tryz.strings_ToUpper_ascii T W (by omega) (fun j b hb => (nb_byte b (hnb (by omega) b (by rw [← hgz]; exact List.mem_of_getElem? hb))).1)
    rw [show Lib.toUpperA T.data.toList = upL got from by rw [hgz]; exact upper_nb (hnb (by omega))] at cu
    clear hps hnb
    go_enter Tryz.func60, Tryz.ntmps60
    go_upto_region 2 with fail
    generalize W.setCell ⟨H + 1, 4, none⟩ (.slice none 0 0) = W1 at *
    clear x0 x1 x2 x3 x4 xf hcv
    obtain ⟨x0, x1, x2, x3, x4, xf⟩ := HR.out.rd.cells
    dsimp only at x0 x1 x2 x3 x4
    go_wp2_with (go_at_call 82; ((with_reducible refine (cu _).mono ?_); rintro e w2 ⟨rfl, hb2⟩; have R2 := Lib.hid (HR.out.below hb2); obtain ⟨y0, y1, y2, y3, y4, yf⟩ := R2.out.rd.cells; clear hb2))
    have Rthree := Lib.hid (R2.out.setNm ⟨(upL got).toArray⟩)
    go_end0
    refine ⟨rfl, ⟨(upL got).toArray⟩, vl, L, n, c, l, B, ?_, Nat.le_succ _, fun r hr => Nat.le_succ_of_le (HV.out r hr)⟩
    have := Rthree.out
    simpa [keepM] using this
  · have cu := fun W => Tryz.strings_ToUpper_ascii T W (by omega) (fun j b hb => (nb_byte b (hnb (by omega) b (by rw [← hgz]; exact List.mem_of_getElem? hb))).1)
    rw [show Lib.toUpperA T.data.toList = upL got from by rw [hgz]; exact upper_nb (hnb (by omega))] at cu
    clear hps hnb
    go_enter Tryz.func60, Tryz.ntmps60
    go_upto_region 2 with fail
    generalize W.setCell ⟨H + 1, 4, none⟩ (.slice none 0 0) = W1 at *
    clear x0 x1 x2 x3 x4 xf hcv
    obtain ⟨x0, x1, x2, x3, x4, xf⟩ := HR.out.rd.cells
    dsimp only at x0 x1 x2 x3 x4
    go_upto_region 8 with fail
    refine wp_region_till (fun w' => w'.cell? ⟨H + 1, 1, none⟩ = some (.slice L n c)) 14 15 hmx (by kernel_rfl) ?_
    have XR := Lib.hid (HR.out.below ((Below.refl _ _).drew))
    have HS : W1.drew.cell? ⟨H + 1, 1, none⟩ = some (.slice L n c) := XR.out.rd.cells.2.1
    refine till_take (i := 0) _ (.pointer (some ⟨H + 1, 0, none⟩)) [0] rfl (by kernel_rfl) (by kernel_rfl) (by kernel_rfl) (by kernel_rfl) (fun _ _ _ h => h) (.inl ⟨by rfl, fun w' hS => ?_⟩) HS ?_
    · go_simp
    try simp only [Act.put, List.setIfInBounds_toArray]
    refine till_take (i := 1) _ (.pointer (some ⟨H + 1, 0, none⟩)) [1] rfl (by kernel_rfl) (by kernel_rfl) (by kernel_rfl) (by kernel_rfl) (fun _ _ _ h => h) (.inl ⟨by rfl, fun w' hS => ?_⟩) HS ?_
    · go_simp
    try simp only [Act.put]
    refine till_take (i := 2) _ (.pointer (some ⟨H + 1, 0, none⟩)) [2] rfl (by kernel_rfl) (by kernel_rfl) (by kernel_rfl) (by kernel_rfl) (fun _ _ _ h => h) (.inl ⟨by rfl, fun w' hS => ?_⟩) HS ?_
    · go_simp
    try simp only [Act.put]
    refine till_take (i := 3) _ (.pointer (some ⟨H + 1, 0, none⟩)) [3] rfl (by kernel_rfl) (by kernel_rfl) (by kernel_rfl) (by kernel_rfl) (fun _ _ _ h => h) (.inl ⟨by rfl, fun w' hS => ?_⟩) HS ?_
    · go_simp
    try simp only [Act.put]
    refine till_take (i := 4) _ (.pointer (some ⟨H + 1, 1, none⟩)) [4] rfl (by kernel_rfl) (by kernel_rfl) (by kernel_rfl) (by kernel_rfl) (fun _ _ _ h => h) (.inl ⟨by rfl, fun w' hS => ?_⟩) HS ?_
    · go_simp
    try simp only [Act.put]
    refine till_take (i := 5) _ (.slice L n c) [5] rfl (by kernel_rfl) (by kernel_rfl) (by kernel_rfl) (by kernel_rfl) (fun _ _ _ h => h) (.inl ⟨by rfl, fun w' hS => ?_⟩) HS ?_
    · go_simp
    try simp only [Act.put]
    refine till_take (i := 6) _ (.string T) [6] rfl (by kernel_rfl) (by kernel_rfl) (by kernel_rfl) (by kernel_rfl) (fun _ _ _ h => h) (.inl ⟨by rfl, fun w' hS => ?_⟩) HS ?_
    · go_simp
    try simp only [Act.put]
    refine till_one (i := 7) _ (by kernel_rfl) rfl rfl (fun K hK => ?_)
    go_simp
    refine (cu _).mono ?_
    rintro e w2 ⟨rfl, hb2⟩
    have R2 := Lib.hid (XR.out.below hb2)
    clear hb2 HS
    have HS : w2.cell? ⟨H + 1, 1, none⟩ = some (.slice L n c) := R2.out.rd.cells.2.1
    refine hK.out _ _ (fun _ _ => HS) ?_
    try simp only [Act.put, List.setIfInBounds_toArray, List.set_cons_zero, List.set_cons_succ]
    clear hK K
    refine till_one (i := 8) _ (by kernel_rfl) rfl rfl (fun K hK => ?_)
    go_simp
    refine hK.out _ _ (fun _ _ => HS) ?_
    try simp only [Act.put, List.setIfInBounds_toArray, List.set_cons_zero, List.set_cons_succ]
    clear hK K
    refine till_one (i := 9) _ (by kernel_rfl) rfl rfl (fun K hK => ?_)
    go_simp
    have X6 := Lib.hid (R2.out.below ((Below.refl _ _).alloc (Nat.le_refl _) (.cells #[.string ⟨(upL got).toArray⟩, .slice none 0 0] 56)))
    refine hK.out _ _ (fun _ _ => X6.out.rd.cells.2.1) ?_
    try simp only [Act.put, List.setIfInBounds_toArray, List.set_cons_zero, List.set_cons_succ]
    clear hK K
    refine till_one (i := 10) _ (by kernel_rfl) rfl rfl (fun K hK => ?_)
    refine wp_append_own _ _ _ 28 rfl (H + 2) 56 j0 (.agg #[.string ⟨#[]⟩, .slice none 0 0]) 2 40 Tryz.underlying28 hj0 hy0 hy1 hy2 rfl (by decide) _ _ _ rfl X6.out.own ⟨w2.heap.size, 0, none⟩ 1 1 [.string ⟨(upL got).toArray⟩, .slice none 0 0] rfl rfl (cells2_new _ _ _ _) (cells2_one _ _ _ _) (by unfold maxLen; omega) (by omega) (by have := X6.out.hB; have := X6.out.hBW; omega) (fun v' w7 hown7 hgrow7 _ => ?_)
    obtain ⟨g7, c7, rfl⟩ := ownsRow_succ hown7
    have X8 := Lib.hid (R2.out.more ((Below.refl _ _).alloc (Nat.le_refl _) (.cells #[.string ⟨(upL got).toArray⟩, .slice none 0 0] 56)) (L' := some ⟨g7, 0, none⟩) (c' := c7) hgrow7 ⟨(upL got).toArray⟩ hown7)
    have hx7 := (X6.out.after hgrow7 (fun g e => own_row_ge X6.out.own g e)).1.cells
    clear hown7 hgrow7 HS
    refine hK.out _ _ (fun _ _ => hx7.2.1) ?_
    try simp only [Act.put, List.setIfInBounds_toArray]
    clear hK K
    refine till_one (i := 11) _ (by kernel_rfl) rfl rfl (fun K hK => ?_)
    go_simp
    refine hK.out _ _ (fun _ _ => hx7.2.1) ?_
    try simp only [Act.put, List.setIfInBounds_toArray, List.set_cons_zero, List.set_cons_succ]
    clear hK K
    refine till_one (i := 12) _ (by kernel_rfl) rfl rfl (fun K hK => ?_)
    go_simp
    refine hK.out _ _ (fun _ _ => hx7.2.1) ?_
    try simp only [Act.put, List.setIfInBounds_toArray, List.set_cons_zero, List.set_cons_succ]
    clear hK K
    refine till_one (i := 13) _ (by kernel_rfl) rfl rfl (fun K hK => ?_)
    go_simp
    refine hK.out _ _ (fun _ _ => hx7.2.1) ?_
    try simp only [Act.put, List.setIfInBounds_toArray, List.set_cons_zero, List.set_cons_succ]
    clear hK K
    refine till_one (i := 14) _ (by kernel_rfl) rfl rfl (fun K hK => ?_)
    obtain ⟨y0, y1, y2, y3, y4, yf⟩ := hx7
    go_simp
    refine hK.out _ _ (fun h => absurd rfl h) ?_
    try simp only [Act.put, List.setIfInBounds_toArray, List.set_cons_zero, List.set_cons_succ]
    clear hK K y0 y1 y2 y3 y4 yf
    refine till_done (by kernel_rfl) ?_
    generalize w7.setCell ⟨H + 1, 1, none⟩ (.slice (some ⟨g7, 0, none⟩) (n + 1) c7) = w8 at X8 ⊢
    go_wp2_with fail
    go_end0
    refine ⟨rfl, _, _, _, _, _, _, _, X8.out, Nat.le_refl _, fun r hr => ?_⟩
    rcases List.mem_append.1 hr with hr | hr
    · exact Nat.le_succ_of_le (HV.out r hr)
    · obtain rfl : r = _ := by simpa using hr
      exact Nat.zero_le _
  · clear hps hnb
    go_enter Tryz.func60, Tryz.ntmps60
    go_upto_region 2 with fail
    generalize W.setCell ⟨H + 1, 4, none⟩ (.slice none 0 0) = W1 at *
    clear x0 x1 x2 x3 x4 xf hcv
    obtain ⟨x0, x1, x2, x3, x4, xf⟩ := HR.out.rd.cells
    dsimp only at x0 x1 x2 x3 x4
    go_wp2_with fail
    have Rthree := Lib.hid (HR.out.setVl T)
    go_end0
    refine ⟨rfl, nm, T, L, n, c, l, B, ?_, Nat.le_succ _, fun r hr => Nat.le_succ_of_le (HV.out r hr)⟩
    have := Rthree.out
    rw [hgz] at this
    exact this
  · have hpn := hps h2 h4
    clear hps hnb
    have hln := HR.out.len
    rcases List.eq_nil_or_concat l with rfl | ⟨f, z, rfl⟩
    · have := HR.out.prs
      dsimp only at this
      rw [← this] at hpn
      exact absurd rfl hpn
    rw [List.concat_eq_append] at *
    have hnf : n = f.length + 1 := by rw [← hln]; simp
    subst hnf
    clear hln hpn
    obtain ⟨gL, cL, hLe⟩ := ownsRow_succ HR.out.own
    injection hLe with hLe _ hcc
    subst hLe; subst hcc
    have hzk := HV.out z (by simp)
    have hb2 := HB.out
    have hfl : f.length < 1024 := by omega
    have hi1 : ((f.length + 1 : Nat) : Int) - 1 = (f.length : Int) := by omega
    have hwr : IntKind.i64.wrap (f.length : Int) = (f.length : Int) := by rw [IntKind.wrap_i64]; omega
    rcases (show st = 2 ∨ st = 3 ∨ st = 4 by omega) with rfl | rfl | rfl
    all_goals
      (go_enter Tryz.func60, Tryz.ntmps60
       go_upto_region 2 with fail
       generalize W.setCell ⟨H + 1, 4, none⟩ (.slice none 0 0) = W1 at *
       clear x0 x1 x2 x3 x4 xf hcv
       obtain ⟨x0, x1, x2, x3, x4, xf⟩ := HR.out.rd.cells
       dsimp only at x0 x1 x2 x3 x4
       go_upto_region 3 with fail
       go_quiet (fail)
       have XQ := Lib.hid (HR.out.below (below_drewNL (Below.refl _ W1) nq))
       have X6 := Lib.hid (XQ.out.below ((Below.refl _ _).alloc (Nat.le_refl _) (.cells #[.string T] 9)))
       obtain ⟨z0, z1, zf⟩ := XQ.out.lastc
       go_wp2_with (at_builtin; refine wpList_append_own _ rfl _ _ 46 rfl B 9 i0 (.string ⟨#[]⟩) 1 16 Tryz.underlying46 hi0 hz0 hz1 hz2 rfl (by decide) _ _ _ rfl (X6.out.last z (by simp)) ⟨(W1.drewN nq).heap.size, 0, none⟩ 1 1 [.string T] rfl rfl (cell_one_new _ _ _) (by simp [Value.oneCell']) (by unfold maxLen; omega) (by omega) X6.out.hBW ?_; intro v' w7 hown7 hgrow7 _; obtain ⟨g7, c7, rfl⟩ := ownsRow_succ hown7; obtain ⟨y1, yf⟩ := RP.lastAfter X6.out hgrow7)
       have X8 := Lib.hid (XQ.out.value (K := some ⟨g7, 0, none⟩) (j := z.k + 1) (jc := c7) ((Below.refl _ _).alloc (Nat.le_refl _) (.cells #[.string T] 9)) hgrow7 T hown7)
       go_end0
       refine ⟨rfl, nm, vl, some ⟨gL, 0, none⟩, f.length + 1, c, f ++ [⟨z.name, some ⟨g7, 0, none⟩, z.k + 1, c7, z.vs ++ [T]⟩], B, ?_, Nat.le_succ _, fun r hr => ?_⟩
       · have := X8.out
         rw [hgz] at this
         exact this
       · rcases List.mem_append.1 hr with hr | hr
         · exact Nat.le_succ_of_le (HV.out r (by simp [hr]))
         · obtain rfl : r = _ := by simpa using hr
           show z.k + 1 ≤ b + 1
           omega)
end Go.Proofs.YtlfhhnjdfpgadaaGreatDoor

/-
  The program's reader of a property: a byte ends what stands there.
-/
namespace Go.Proofs.YtlfhhnjdfpgadaaGreatDoor
open Go.RowKit

theorem keepM_st (m : Mac) : (keepM m).st = m.st := by
  unfold keepM
  split <;> rfl
/-- What end leaves. -/
def EndR (w : World) (H n k b : Nat) (m : Mac) (x : UInt8) (e : Ending) (w' : World) : Prop :=
  e = .returned (.tuple #[]) ∧ ∃ (nm vl : ByteArray) (L : Option Addr) (n' c : Nat) (l : List PR) (G : Option Addr) (k' kc B : Nat), RP w H w' (endM m x) nm vl L n' c l G k' kc B ∧ n' ≤ n + 1 ∧ k' ≤ k ∧ ∀ r ∈ l, r.k ≤ b + 1
set_option maxRecDepth 100000 in
set_option maxHeartbeats 4000000 in
theorem end_any {w W : World} {H : Nat} {m : Mac} {nm vl : ByteArray} {L G : Option Addr} {n c k kc B b : Nat} {l : List PR} (h : RP w H W m nm vl L n c l G k kc B) (hm : RM m) (hk : k ≤ 1024) (hn : n ≤ 1024) (hv : ∀ r ∈ l, r.k ≤ b) (hb : b ≤ 2048) (x : UInt8) (xI : Int) (hx : xI = (x.toNat : Int)) :
    Calls Tryz.prog 59 #[.pointer (some ⟨H + 1, 0, none⟩), .int .u8 xI] W (EndR w H n k b m x) := by
  have HK := Lib.hid (keep_any h hm hk hn hv hb)
  have hst := hm.st
  by_cases h34 : x.toNat = 34
  · obtain rfl : xI = 34 := by omega
    have E : endM m x = setM m (if m.st = 2 then 3 else 4) := by
      unfold endM nextM
      rw [if_pos h34, if_neg (by omega), if_neg (by omega), if_neg (by omega)]
    by_cases h2 : m.st = 2
    · rw [if_pos h2] at E
      have HR := Lib.hid (And.intro E (And.intro (h.setSt 3) hv))
      obtain ⟨x0, x1, x2, x3, x4, xf⟩ := h.rd.cells
      rw [h2] at x3
      clear HK h hv E h2 hst hx h34
      go_enter Tryz.func59, Tryz.ntmps59
      go_wp2_with fail
      go_end0
      exact ⟨rfl, nm, vl, L, n, c, l, G, k, kc, B, by rw [HR.out.1]; exact HR.out.2.1, Nat.le_succ _, Nat.le_refl _, fun r hr => Nat.le_succ_of_le (HR.out.2.2 r hr)⟩
    · rw [if_neg h2] at E
      have HR := Lib.hid (And.intro E (And.intro (h.setSt 4) hv))
      obtain ⟨x0, x1, x2, x3, x4, xf⟩ := h.rd.cells
      have k2 : ((m.st : Int) == 2) = false := by rw [beq_eq_false_iff_ne]; omega
      clear HK h hv E h2 hst hx h34
      go_enter Tryz.func59, Tryz.ntmps59
      go_wp2_with fail
      go_end0
      exact ⟨rfl, nm, vl, L, n, c, l, G, k, kc, B, by rw [HR.out.1]; exact HR.out.2.1, Nat.le_succ _, Nat.le_refl _, fun r hr => Nat.le_succ_of_le (HR.out.2.2 r hr)⟩
  · have q34 : (xI == 34) = false := by rw [beq_eq_false_iff_ne]; omega
    have E : endM m x = setM (keepM m) (if x.toNat = 59 then 1 else if x.toNat = 58 then 5 else 2) := by
      unfold endM nextM
      rw [if_neg h34, if_pos h34]
    have hc : (xI = 59 ∧ endM m x = setM (keepM m) 1) ∨ (xI = 58 ∧ endM m x = setM (keepM m) 5) ∨ ((xI == 59) = false ∧ (xI == 58) = false ∧ endM m x = setM (keepM m) 2) := by
      rw [E]
      by_cases h59 : x.toNat = 59
      · exact .inl ⟨by omega, by rw [if_pos h59]⟩
      · by_cases h58 : x.toNat = 58
        · exact .inr (.inl ⟨by omega, by rw [if_neg h59, if_pos h58]⟩)
        · exact .inr (.inr ⟨by rw [beq_eq_false_iff_ne]; omega, by rw [beq_eq_false_iff_ne]; omega, by rw [if_neg h59, if_neg h58]⟩)
    clear E hx h34 h hv hm hst
    rcases hc with ⟨rfl, E⟩ | ⟨rfl, E⟩ | ⟨q59, q58, E⟩
    all_goals
      (have HE := Lib.hid E
       clear E
       go_enter Tryz.func59, Tryz.ntmps59
       go_wp2_with (go_at_call 60; ((with_reducible refine HK.out.mono ?_); rintro e w2 ⟨rfl, nm2, vl2, L2, n2, c2, l2, B2, R2, hn2, hv2⟩; obtain ⟨x0, x1, x2, x3, x4, xf⟩ := R2.rd.cells; have HR := Lib.hid (And.intro R2 hv2); clear R2 hv2))
       go_end0)
    · exact ⟨rfl, nm2, vl2, L2, n2, c2, l2, none, 0, 0, B2, by rw [HE.out]; exact HR.out.1.setSt 1, hn2, Nat.zero_le _, HR.out.2⟩
    · exact ⟨rfl, nm2, vl2, L2, n2, c2, l2, none, 0, 0, B2, by rw [HE.out]; exact HR.out.1.setSt 5, hn2, Nat.zero_le _, HR.out.2⟩
    · exact ⟨rfl, nm2, vl2, L2, n2, c2, l2, none, 0, 0, B2, by rw [HE.out]; exact HR.out.1.setSt 2, hn2, Nat.zero_le _, HR.out.2⟩
end Go.Proofs.YtlfhhnjdfpgadaaGreatDoor

/-
  The document's own answers of layer 11: Parse.
-/
namespace Go.Proofs.YtlfhhnjdfpgadaaGreatDoor
open Go.RowKit

theorem infoP : (Tryz.prog.info? 56).map (fun i => (i.zero, i.size, i.bytes)) = some (some (.agg #[.string ⟨#[]⟩, .slice none 0 0]), 2, 40) := by kernel_rfl

end Go.Proofs.YtlfhhnjdfpgadaaGreatDoor

/-
  The document's own answers of layer 11: Parse, of any text.
-/
namespace Go.Proofs.YtlfhhnjdfpgadaaGreatDoor
open Go.RowKit

/-- What a call of Parse answers. -/
def ParAns (s : ByteArray) (w : World) (e : Ending) (w' : World) : Prop :=
  ∃ (nm vl : ByteArray) (L : Option Addr) (n c : Nat) (l : List PR), e = .returned (.tuple #[.agg #[.string nm, .slice L n c, .string vl], .int .i64 (parL s.data.toList).2]) ∧
    (parL s.data.toList).1 = ⟨nm.data.toList, l.map parOf, vl.data.toList⟩ ∧ Reads w' w'.heap.size 2 L n (encP l) ∧ (∀ r ∈ l, POk w' w'.heap.size r) ∧ n ≤ c ∧ c ≤ maxLen ∧ Below w.heap.size w w'
theorem parAns_none {s : ByteArray} {w w' : World} {k : Int} (h : parL s.data.toList = (noPro, k)) (hb : Below w.heap.size w w') : ParAns s w (.returned (.tuple #[.agg #[.string ⟨#[]⟩, .slice none 0 0, .string ⟨#[]⟩], .int .i64 k])) w' :=
  ⟨⟨#[]⟩, ⟨#[]⟩, none, 0, 0, [], by rw [h], by rw [h]; rfl, Reads.nil, (fun r hr => by cases hr), Nat.le_refl _, by unfold maxLen; omega, hb⟩
end Go.Proofs.YtlfhhnjdfpgadaaGreatDoor
