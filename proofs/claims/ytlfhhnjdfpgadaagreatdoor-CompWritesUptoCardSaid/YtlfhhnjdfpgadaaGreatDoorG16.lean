/-
  What a line makes of the components that have begun: one more property, one more component begun, one ended.
-/
import Derived.Test.YtlfhhnjdfpgadaaGreatDoorG15
import Derived.Test.YtlfhhnjdfpgadaaGreatDoorG09
import Derived.Test.YtlfhhnjdfpgadaaGreatDoorG01
namespace Go.Proofs.YtlfhhnjdfpgadaaGreatDoor
open Go.RowKit

theorem enc3_last {α : Type} (f : α → Value × Value × Value) (l : List α) (x : α) (j : Nat) (v : Value) : (enc3 f (l ++ [x])).set (l.length * 3 + j) v = enc3 f l ++ [(f x).1, (f x).2.1, (f x).2.2].set j v := by
  rw [enc3_snoc, List.set_append_right _ _ (by rw [enc3_length]; omega), enc3_length, Nat.add_sub_cancel_left]
theorem own_rowlt {w : World} {base size n : Nat} {e : TypeId} {v : Value} {xs : List Value} (h : w.ownsRow base e size v n xs) : ∀ k, v.ownBlock = some k → k < w.heap.size := fun k e => (h.lt k e).2
theorem cntR_mono {i j : Nat} (hij : i ≤ j) : ∀ {r : CR}, cntR i r → cntR j r
  | .mk .., h => ⟨Nat.le_trans h.1 hij, Nat.le_trans h.2 hij⟩
section
variable {w wr w6 w7 : World} {B i : Nat} {fs : List Frm} {N C : Nat} {F : Nat → Prop} {nm : ByteArray} {A K : Option Addr} {n c k kc : Nat} {qs : List QR} {cs : List CR} {st : List CR}
/-- One more property for the innermost. -/
theorem PInv.addQ {g : Nat} {A' : Option Addr} {c' : Nat} {q : QR} {f : Frm} {fs' : List Frm} (h : PInv w B wr i (f :: fs') (some ⟨g, 0, none⟩) N C (.mk nm A n c qs K k kc cs :: st) F) (hb6 : Below wr.heap.size wr w6) (hg7 : w6.grownBy w7 (Value.slice A n c).ownBlock)
    (hrow : w7.ownsRow B 30 3 (.slice A' (n + 1) c') (n + 1) (enc3 fQ qs ++ [(fQ q).1, (fQ q).2.1, (fQ q).2.2])) (hor : (Value.slice A' (n + 1) c').ownBlock = (Value.slice A n c).ownBlock ∨ (Value.slice A' (n + 1) c').ownBlock = some w6.heap.size)
    (hy : Held (fun b => wr.heap.size ≤ b) w6 (fun W => QOk W W.heap.size q)) :
    ∃ F', PInv w B (w7.setCell ⟨g, st.length * 3 + 1, none⟩ (.slice A' (n + 1) c')) (i + 1) ({ f with ps := f.ps ++ [proQ q] } :: fs') (some ⟨g, 0, none⟩) N C (.mk nm A' (n + 1) c' (qs ++ [q]) K k kc cs :: st) F' := by
  obtain ⟨F1, F2, h1, h2, h3, h4, h5⟩ := h.st
  have h4 : FrOk F1 wr B A n c qs K k kc cs := h4
  have hgl : g < wr.heap.size := own_rowlt h.row g rfl
  have hgB : B ≤ g := own_row_ge h.row g rfl
  have hgF : ¬ F g := h.rF g rfl
  have hAg : ∀ b, (Value.slice A n c).ownBlock = some b → F1 b := h4.fa
  have hs6 := hb6.size
  have hs7 := hg7.size
  have hk7 : ∀ b, b ≠ g → b < w6.heap.size → (Value.slice A n c).ownBlock ≠ some b → (w7.setCell ⟨g, st.length * 3 + 1, none⟩ (.slice A' (n + 1) c')).heap[b]? = w6.heap[b]? := fun b hb hl hA =>
    (heap_setCell_other _ _ _ _ hb).trans (hg7.block b hl (fun e => hA e.symm))
  have hkr : ∀ b, F b → (Value.slice A n c).ownBlock ≠ some b → (w7.setCell ⟨g, st.length * 3 + 1, none⟩ (.slice A' (n + 1) c')).heap[b]? = wr.heap[b]? := fun b hb hA =>
    (hk7 b (fun e => hgF (e ▸ hb)) (Nat.lt_of_lt_of_le (h.fB b hb).2 hs6) hA).trans (hb6.block b (h.fB b hb).2)
  have hsz : (w7.setCell ⟨g, st.length * 3 + 1, none⟩ (.slice A' (n + 1) c')).heap.size = w7.heap.size := by simp
  have hor' : (Value.slice A' (n + 1) c').ownBlock = (Value.slice A n c).ownBlock ∨ ∃ z, (Value.slice A' (n + 1) c').ownBlock = some z ∧ w6.heap.size ≤ z ∧ z < (w7.setCell ⟨g, st.length * 3 + 1, none⟩ (.slice A' (n + 1) c')).heap.size := by
    rcases hor with e | e
    · exact .inl e
    · exact .inr ⟨_, e, Nat.le_refl _, by rw [hsz]; exact own_rowlt hrow _ e⟩
  have hAne : (Value.slice A' (n + 1) c').ownBlock ≠ some g := fun e => by
    rcases hor with e2 | e2
    · exact hgF (h1 g (hAg g (e2 ▸ e)))
    · rw [e2] at e; injection e with e; omega
  have hrow' : (w7.setCell ⟨g, st.length * 3 + 1, none⟩ (.slice A' (n + 1) c')).ownsRow B 30 3 (.slice A' (n + 1) c') (n + 1) (enc3 fQ (qs ++ [q])) := by
    rw [enc3_snoc]
    exact ownsRow_setCell_other hrow (fun e => hAne e) _
  have hR7 : w7.ownsRow B 25 3 (.slice (some ⟨g, 0, none⟩) N C) N (enc3 fC (CR.mk nm A n c qs K k kc cs :: st).reverse) :=
    own_grown (own_below h.row hb6) hg7 (fun z hz e => by
      injection hz with hz
      subst hz
      exact hgF (h1 _ (hAg _ e)))
  have hRs := (World.ownsRow.stored hR7 (st.length * 3 + 1) (.slice A' (n + 1) c')).1
  refine ⟨fun b => F b ∨ (wr.heap.size ≤ b ∧ b < (w7.setCell ⟨g, st.length * 3 + 1, none⟩ (.slice A' (n + 1) c')).heap.size), ?_, fun b hb hF => ?_, ⟨fun b => F1 b ∨ (wr.heap.size ≤ b ∧ b < (w7.setCell ⟨g, st.length * 3 + 1, none⟩ (.slice A' (n + 1) c')).heap.size), F2, ?_, fun b hb => .inl (h2 b hb), ?_, ?_, ?_⟩, fun b hb => ?_, h.ln, ?_, ?_, h.hw, ?_⟩
  · have e := enc3_last fC st.reverse (.mk nm A n c qs K k kc cs) 1 (.slice A' (n + 1) c')
    rw [List.length_reverse] at e
    rw [List.reverse_cons, e] at hRs
    rw [List.reverse_cons, enc3_snoc]
    exact hRs
  · injection hb with hb
    subst hb
    rcases hF with hF | hF
    · exact hgF hF
    · exact Nat.not_lt.2 hF.1 hgl
  · exact fun b hb => hb.elim (fun x => .inl (h1 b x)) .inr
  · intro b hb hF
    rcases hb with hb | hb
    · exact h3 b hb hF
    · have := (h.fB b (h2 b hF)).2; omega
  · exact FrOk.addQ h4 (fun b hb => (h.fB b (h1 b hb)).2) hs6 (by rw [hsz]; exact hs7) (fun b hb hA => hkr b (h1 b hb) hA) (fun b hb hl => hk7 b (by omega) hl (fun e => by have := (h.fB b (h1 b (hAg b e))).2; omega)) hrow' hor' hy
  · exact h5.keep (by rw [hsz]; omega) (fun b hb => hkr b (h2 b hb) (fun e => h3 b (hAg b e) hb))
  · rcases hb with hb | hb
    · have := h.fB b hb; rw [hsz]; omega
    · have := hb.2; omega
  · have := h.fr
    rw [List.map_cons] at this ⊢
    injection this with e1 e2
    rw [← e1, e2]
    simp [frmOf]
  · intro r hr
    rcases List.mem_cons.1 hr with e | hr
    · rw [e]
      have := h.ct _ (List.mem_cons_self ..)
      exact ⟨by have := this.1; omega, by have := this.2; omega⟩
    · exact cntR_mono (by omega) (h.ct r (List.mem_cons_of_mem _ hr))
  · refine Below.setCell ?_ (p := ⟨g, st.length * 3 + 1, none⟩) (by show w.heap.size ≤ g; have := h.hw; omega) _
    refine (bstep h.bel hb6).grown hg7 (by have := h.bel.size; omega) (fun z e => ?_)
    have := (h.fB z (h1 z (hAg z e))).1
    have := h.hw
    omega
/-- One more component begun. -/
theorem PInv.begun {R R' : Option Addr} {C' : Nat} {t : ByteArray} {crs : List CR} (h : PInv w B wr i fs R N C crs F) (hb6 : Below wr.heap.size wr w6) (hg7 : w6.grownBy w7 (Value.slice R N C).ownBlock)
    (hrow : w7.ownsRow B 25 3 (.slice R' (N + 1) C') (N + 1) (enc3 fC crs.reverse ++ [.string t, .slice none 0 0, .slice none 0 0])) (hor : (Value.slice R' (N + 1) C').ownBlock = (Value.slice R N C).ownBlock ∨ (Value.slice R' (N + 1) C').ownBlock = some w6.heap.size) :
    PInv w B w7 (i + 1) (⟨t.data.toList, [], []⟩ :: fs) R' (N + 1) C' (.mk t none 0 0 [] none 0 0 [] :: crs) F := by
  have hs6 := hb6.size
  have hs7 := hg7.size
  have hkr : ∀ b, F b → w7.heap[b]? = wr.heap[b]? := fun b hb =>
    (hg7.block b (Nat.lt_of_lt_of_le (h.fB b hb).2 hs6) (fun e => h.rF b e.symm hb)).trans (hb6.block b (h.fB b hb).2)
  refine ⟨?_, fun b hb hF => ?_, ⟨fun _ => False, F, fun b hb => hb.elim, fun b hb => hb, fun b hb => hb.elim, ⟨own_nil, fun b hb => (by cases hb), own_nil, fun b hb => (by cases hb), fun q hq => (by cases hq), fun x hx => (by cases hx)⟩, h.st.keep (by omega) hkr⟩, fun b hb => ?_, by rw [List.length_cons, h.ln], ?_, ?_, h.hw, ?_⟩
  · rw [List.reverse_cons, enc3_snoc]
    exact hrow
  · rcases hor with e | e
    · exact h.rF b (e ▸ hb) hF
    · rw [e] at hb; injection hb with hb; have := (h.fB b hF).2; omega
  · have := h.fB b hb; omega
  · rw [List.map_cons, h.fr]; rfl
  · intro r hr
    rcases List.mem_cons.1 hr with e | hr
    · rw [e]; exact ⟨Nat.zero_le _, Nat.zero_le _⟩
    · exact cntR_mono (by omega) (h.ct r hr)
  · refine (bstep h.bel hb6).grown hg7 (by have := h.bel.size; omega) (fun z e => ?_)
    have := own_row_ge h.row z e
    have := h.hw
    omega
/-- The innermost laid into the one around it. -/
theorem PInv.ended {w9 : World} {g : Nat} {x : CR} {K' : Option Addr} {kc' : Nat} {f f2 : Frm} {fs' : List Frm} (h : PInv w B wr i (f :: f2 :: fs') (some ⟨g, 0, none⟩) N C (x :: .mk nm A n c qs K k kc cs :: st) F) (hs9 : wr.heap.size ≤ w9.heap.size)
    (hk9 : ∀ b, b < wr.heap.size → b ≠ g → (Value.slice K k kc).ownBlock ≠ some b → w9.heap[b]? = wr.heap[b]?)
    (hK : w9.ownsRow B 25 3 (.slice K' (k + 1) kc') (k + 1) (enc3 fC (cs ++ [x]))) (hor : (Value.slice K' (k + 1) kc').ownBlock = (Value.slice K k kc).ownBlock ∨ ∃ z, (Value.slice K' (k + 1) kc').ownBlock = some z ∧ wr.heap.size ≤ z ∧ z < w9.heap.size)
    (hR : w9.ownsRow B 25 3 (.slice (some ⟨g, 0, none⟩) (N - 1) C) (N - 1) (enc3 fC (CR.mk nm A n c qs K' (k + 1) kc' (cs ++ [x]) :: st).reverse)) (hbel : Below w.heap.size w w9) :
    ∃ F', PInv w B w9 (i + 1) ({ f2 with cs := f2.cs ++ [f.whole] } :: fs') (some ⟨g, 0, none⟩) (N - 1) C (.mk nm A n c qs K' (k + 1) kc' (cs ++ [x]) :: st) F' := by
  obtain ⟨F1, F2, h1, h2, h3, h4, F3, F4, h5, h6, h7, h8, h9⟩ := h.st
  have h8 : FrOk F3 wr B A n c qs K k kc cs := h8
  have hgl : g < wr.heap.size := own_rowlt h.row g rfl
  have hgB : B ≤ g := own_row_ge h.row g rfl
  have hgF : ¬ F g := h.rF g rfl
  have hx : Held F1 wr (fun W => COk W W.heap.size x) := by cases x; exact FrOk.comp h4 _
  have hln := h.ln
  simp only [List.length_cons] at hln
  have hkF : ∀ b, F b → (Value.slice K k kc).ownBlock ≠ some b → w9.heap[b]? = wr.heap[b]? := fun b hb hA => hk9 b (h.fB b hb).2 (fun e => hgF (e ▸ hb)) hA
  refine ⟨fun b => F b ∨ (wr.heap.size ≤ b ∧ b < w9.heap.size), hR, fun b hb hF => ?_, ⟨fun b => (F3 b ∨ F1 b) ∨ (wr.heap.size ≤ b ∧ b < w9.heap.size), F4, ?_, fun b hb => .inl (h2 b (h6 b hb)), ?_, ?_, ?_⟩, fun b hb => ?_, by simp only [List.length_cons]; omega, ?_, ?_, h.hw, hbel⟩
  · injection hb with hb
    subst hb
    rcases hF with hF | hF
    · exact hgF hF
    · exact Nat.not_lt.2 hF.1 hgl
  · exact fun b hb => hb.elim (fun y => .inl (y.elim (fun z => h2 b (h5 b z)) (h1 b))) .inr
  · intro b hb hF
    rcases hb with (hb | hb) | hb
    · exact h7 b hb hF
    · exact h3 b hb (h6 b hF)
    · have := (h.fB b (h2 b (h6 b hF))).2; omega
  · refine FrOk.addC h8 (fun b hb => (h.fB b (h2 b (h5 b hb))).2) (fun b hb => (h.fB b (h1 b hb)).2) (fun b hb hF => h3 b hF (h5 b hb)) hs9 (fun b hb hA => hkF b (hb.elim (fun y => h2 b (h5 b y)) (h1 b)) hA) hK hor hx
  · exact h9.keep hs9 (fun b hb => hkF b (h2 b (h6 b hb)) (fun e => h7 b (h8.fk b e) hb))
  · rcases hb with hb | hb
    · have := h.fB b hb; omega
    · have := hb.2; omega
  · have := h.fr
    rw [List.map_cons, List.map_cons] at this
    rw [List.map_cons]
    injection this with e1 e2
    injection e2 with e2 e3
    rw [← e1, ← e2, e3]
    cases x
    simp [frmOf, Frm.whole, compOf_mk]
  · intro r hr
    rcases List.mem_cons.1 hr with e | hr
    · rw [e]
      have := h.ct _ (List.mem_cons_of_mem _ (List.mem_cons_self ..))
      exact ⟨by have := this.1; omega, by have := this.2; omega⟩
    · exact cntR_mono (by omega) (h.ct r (List.mem_cons_of_mem _ (List.mem_cons_of_mem _ hr)))
end
end Go.Proofs.YtlfhhnjdfpgadaaGreatDoor

/-
  Regions that draw their order: what comes behind the operation till which a condition held; two stores in either order.
-/
namespace Go.Proofs.YtlfhhnjdfpgadaaGreatDoor
open Go.RowKit

section
variable {P : Program} {ops : Array Oper} {Q : Exit → Act → World → Prop} {md : Region.Mode} {S S' : World → Prop} {k k' : Nat}
theorem getD_set_any {listed : Array Bool} {i k : Nat} (h : listed.getD k true = true) : (listed.setIfInBounds i true).getD k true = true := by
  by_cases e : i = k
  · subst e
    simp only [Array.getD_eq_getD_getElem?, Array.getElem?_setIfInBounds]
    by_cases hb : i < listed.size
    · simp [hb]
    · simp [hb]
  · rw [getD_set_ne true e]; exact h
theorem wpTill_switch : ∀ (f : Nat) (listed : Array Bool) (a : Act) (w : World), listed.getD k true = true → wpTill P md ops Q S' k' f listed a w → wpTill P md ops Q S k f listed a w
  | 0, _, _, _, _, h => h
  | f + 1, listed, _, _, hk, h => ⟨h.1, fun i hi => wpOp_mono (fun a' w' h3 => ⟨fun _ h4 => (by rw [hk] at h4; cases h4), wpTill_switch f _ a' w' (getD_set_any hk) h3.2⟩) (h.2 i hi)⟩
/-- Behind k nothing has to hold. -/
theorem till_switch {f : Nat} {listed : Array Bool} {a : Act} {w : World} (hk : listed.getD k true = true) (h : TillC P md ops Q (fun _ => True) 999 f listed a w) : TillC P md ops Q S k f listed a w := fun hc => wpTill_switch f listed a w hk (h hc)
theorem wpTill_weak : ∀ (f : Nat) (listed : Array Bool) (a : Act) (w : World), wpTill P md ops Q S k f listed a w → wpTill P md ops Q (fun _ => True) k' f listed a w
  | 0, _, _, _, h => h
  | f + 1, _, _, _, h => ⟨h.1, fun i hi => wpOp_mono (fun a' w' h3 => ⟨fun _ _ => trivial, wpTill_weak f _ a' w' h3.2⟩) (h.2 i hi)⟩
/-- From here on a condition holds. -/
theorem till_weak {f : Nat} {listed : Array Bool} {a : Act} {w : World} (h : TillC P md ops Q S k f listed a w) : TillC P md ops Q (fun _ => True) 999 f listed a w := fun hc => wpTill_weak f listed a w (h hc)
theorem true_first {i : Nat} {oi : Oper} {v : Value} (hi : ops[i]? = some oi) (hsel : ∀ (j : Nat) (o : Oper) cs b, ops[j]? = some o → o.op ≠ .select cs b)
    (hQ : ∀ c a w, Q (.panic c) (a.put oi.dst v) w → Q (.panic c) a w) :
    ∀ (f : Nat) (listed : Array Bool) (a : Act) (w : World),
      (∀ j oj, ops[j]? = some oj → j ≠ i → listed.getD j true = false → (∀ e ∈ oj.after, Region.binds md e = true → e.on ≠ i) → oi.apart ops oj = true) →
      i ∈ Region.ready md ops listed → YieldsIf P ops (fun _ => True) oi v a →
      wpTill P md ops Q (fun _ => True) k f (listed.setIfInBounds i true) (a.put oi.dst v) w → wpTill P md ops Q (fun _ => True) k (f + 1) listed a w := by
  intro f
  induction f with
  | zero =>
    intro listed a w _ hr hy H
    refine ⟨fun h => (by rw [h] at hr; cases hr), fun j hj => ?_⟩
    by_cases hji : j = i
    · subst hji
      exact hy.wpOp hi trivial ⟨fun _ _ => trivial, H⟩
    · have := ready_mono hj hji
      rw [H.1] at this
      cases this
  | succ f ih =>
    intro listed a w hfree hr hy H
    have hun := (mem_ready.1 hr).1
    refine ⟨fun h => (by rw [h] at hr; cases hr), fun j hj => ?_⟩
    by_cases hji : j = i
    · subst hji
      exact hy.wpOp hi trivial ⟨fun _ _ => trivial, H⟩
    obtain ⟨hjun, oj, hoj, hall⟩ := mem_ready.1 hj
    have hnot : ∀ e ∈ oj.after, Region.binds md e = true → e.on ≠ i := fun e he hb heq => by
      have h1 := hall e he hb
      rw [heq, getD_both hun] at h1
      cases h1
    refine wpOp_mono (fun a' w' h3 => ?_) (wpOp_putIf hoj (hfree j oj hoj hji hjun hnot) (fun cs b => hsel i oi cs b hi) (fun cs b => hsel j oj cs b hoj) hQ hy (H.2 j (ready_mono hj hji)))
    refine ⟨fun _ _ => trivial, ih (listed.setIfInBounds j true) a' w' (fun q oq hq hqi hqun hno => ?_) (ready_mono hr (Ne.symm hji)) h3.1 ?_⟩
    · by_cases hjq : j = q
      · subst hjq
        exact hfree j oq hq hqi hjun hno
      · rw [getD_set_ne true hjq] at hqun
        exact hfree q oq hq hqi hqun hno
    · rw [Array.setIfInBounds_comm _ _ hji]
      exact h3.2.2
/-- Taken first: what yields its value in every world. -/
theorem till_any {i : Nat} (oi : Oper) (v : Value) {f : Nat} {listed : Array Bool} {a : Act} {w : World} (hi : ops[i]? = some oi) (hs : Region.noSelect ops = true) (hf : Region.free md ops listed i = true)
    (hr : (Region.ready md ops listed).contains i = true) (hQ : ∀ c a w, Q (.panic c) (a.put oi.dst v) w → Q (.panic c) a w) (hy : YieldsIf P ops (fun _ => True) oi v a)
    (h : TillC P md ops Q (fun _ => True) k f (listed.setIfInBounds i true) (a.put oi.dst v) w) : TillC P md ops Q (fun _ => True) k (f + 1) listed a w := fun hc => by
  have hr' : i ∈ Region.ready md ops listed := by simpa using hr
  exact true_first hi (Region.noSelect_spec hs) hQ f listed a w (Region.free_spec hi hf) hr' hy (h (closed_set hc hr'))
/-- Two come up. -/
theorem till_two {i j : Nat} (o o2 : Oper) {f : Nat} {listed : Array Bool} {a : Act} {w : World} (hr : Region.ready md ops listed = [i, j]) (ho : ops[i]? = some o) (ho2 : ops[j]? = some o2) (hg : o.guard = none) (hg2 : o2.guard = none)
    (h1 : ∀ K : Act → World → Prop, Shut (∀ a' w', TillC P md ops Q (fun _ => True) k f (listed.setIfInBounds i true) a' w' → K a' w') → Oper.wp P o a w K Q)
    (h2 : ∀ K : Act → World → Prop, Shut (∀ a' w', TillC P md ops Q (fun _ => True) k f (listed.setIfInBounds j true) a' w' → K a' w') → Oper.wp P o2 a w K Q) : TillC P md ops Q (fun _ => True) k (f + 1) listed a w := fun hc => by
  refine ⟨fun h0 => (by rw [hr] at h0; cases h0), fun z hz => ?_⟩
  have hz' := hz
  rw [hr] at hz'
  rcases List.mem_cons.1 hz' with rfl | hz'
  · unfold wpOp
    simp only [ho]
    have hw : Region.wanted o (yielded ops a.tmps) = true := by simp [Region.wanted, hg]
    rw [if_pos hw]
    exact .inl (h1 _ fun a' w' hT => ⟨fun _ _ => trivial, hT (closed_set hc hz)⟩)
  · obtain rfl : z = j := by simpa using hz'
    unfold wpOp
    simp only [ho2]
    have hw : Region.wanted o2 (yielded ops a.tmps) = true := by simp [Region.wanted, hg2]
    rw [if_pos hw]
    exact .inl (h2 _ fun a' w' hT => ⟨fun _ _ => trivial, hT (closed_set hc hz)⟩)
/-- append as one operation of such a region. -/
theorem oper_append_reads (w : World) {o : Oper} {a : Act} {K : Act → World → Prop} (s x : Operand) (t : TypeId)
    (ho : o.op = .call { callee := .builtin .append, args := #[s, x], argTypes := #[t, t] })
    (base : Nat) (e : TypeId) (i : TypeInfo) (z : Value) (size bytes : Nat) (ht : P.underlying t = some (.slice e)) (hi : P.info? e = some i) (hz : i.zero = some z)
    (hsize : i.size = size) (hby : i.bytes = bytes) (hzs : z.cells.size = size) (hsz : 0 < size) (v : Value) (n : Nat) (xs : List Value) (hs : a.eval s = v) (hown : w.ownsRow base e size v n xs)
    (B : Nat) (A : Option Addr) (m c : Nat) (news : List Value) (hx : a.eval x = .slice A m c) (hr : Reads w B size A m news) (h1 : ∀ u ∈ news, u.oneCell' = true) (h63 : n + m ≤ maxLen) (hbytes : (n + m) * bytes ≤ 140737488355328) (hbase : base ≤ w.heap.size)
    (h : ∀ A2 c2 w', w'.ownsRow base e size (.slice A2 (n + m) c2) (n + m) (xs ++ news) → w.grownBy w' v.ownBlock → ((Value.slice A2 (n + m) c2).ownBlock = v.ownBlock ∨ (Value.slice A2 (n + m) c2).ownBlock = some w.heap.size) → K (a.put o.dst (.slice A2 (n + m) c2)) w') :
    Oper.wp P o a w K Q := by
  obtain ⟨A2, c2, w', hrun, h2, h3, h4⟩ := run_append_reads (P := P) w base t o.type e i z size bytes ht hi hz hsize hby hzs hsz v n xs hown B A m c news hr h1 h63 hbytes hbase
  unfold Oper.wp execOp
  simp only [ho, resolve, invoke, builtin, Sem.run_bind, Sem.run_pure, Result.andThen_ok, List.map_toArray, List.map_cons, List.map_nil, hs, hx, hrun]
  exact h A2 c2 w' h2 h3 h4
end
end Go.Proofs.YtlfhhnjdfpgadaaGreatDoor

/-
  The program's ended: the innermost component is laid into the one around it.
-/
namespace Go.Proofs.YtlfhhnjdfpgadaaGreatDoor
open Go.RowKit

theorem own_take {w : World} {base size n m c : Nat} {e : TypeId} {g : Nat} {xs : List Value} (h : w.ownsRow base e size (.slice (some ⟨g, 0, none⟩) n c) n xs) (hm : m ≤ n) : w.ownsRow base e size (.slice (some ⟨g, 0, none⟩) m c) m (xs.take (m * size)) := by
  have hms : m * size ≤ n * size := Nat.mul_le_mul_right _ hm
  refine ⟨by rw [List.length_take, h.1]; omega, ?_⟩
  rcases h.2 with ⟨h', _⟩ | ⟨g', cap', cur, h', hb, hg, hnc, hcm, hcs, htake⟩
  · simp at h'
  · simp only [Value.slice.injEq, Option.some.injEq, Addr.mk.injEq, and_true, true_and] at h'
    obtain ⟨rfl, rfl⟩ := h'
    refine .inr ⟨g, c, cur, rfl, hb, hg, by omega, hcm, hcs, ?_⟩
    rw [← htake, List.take_take, Nat.min_eq_left hms]
theorem take_enc3 {α : Type} (f : α → Value × Value × Value) (l l2 : List α) : (enc3 f (l ++ l2)).take (l.length * 3) = enc3 f l := by
  rw [enc3_app, List.take_append_of_le_length (by rw [enc3_length]; exact Nat.le_refl _), List.take_of_length_le (by rw [enc3_length]; exact Nat.le_refl _)]
theorem enc3_last3 {α : Type} (f : α → Value × Value × Value) (l : List α) (a b c : Value) (y : α) : (((enc3 f l ++ [a, b, c]).set (l.length * 3) (f y).1).set (l.length * 3 + 1) (f y).2.1).set (l.length * 3 + 2) (f y).2.2 = enc3 f (l ++ [y]) := by
  rw [List.set_append_right _ _ (by rw [enc3_length]; omega), List.set_append_right _ _ (by rw [enc3_length]; omega), List.set_append_right _ _ (by rw [enc3_length]; omega), enc3_length, enc3_snoc]
  rw [Nat.sub_self, show l.length * 3 + 1 - l.length * 3 = 1 by omega, show l.length * 3 + 2 - l.length * 3 = 2 by omega]
  rfl
theorem own_set3 {w : World} {base n c g o : Nat} {e : TypeId} {xs : List Value} {a b d : Value} (h : w.ownsRow base e 3 (.slice (some ⟨g, 0, none⟩) n c) n xs) :
    (((w.setCell ⟨g, o, none⟩ a).setCell ⟨g, o + 1, none⟩ b).setCell ⟨g, o + 2, none⟩ d).ownsRow base e 3 (.slice (some ⟨g, 0, none⟩) n c) n (((xs.set o a).set (o + 1) b).set (o + 2) d) :=
  (World.ownsRow.stored (World.ownsRow.stored (World.ownsRow.stored h o a).1 (o + 1) b).1 (o + 2) d).1
set_option maxHeartbeats 1000000 in
/-- What the stores of ended leave, in whatever order they come. -/
theorem PInv.ended_mem {w wr wa w7 w9 : World} {B i g gk C M : Nat} {F : Nat → Prop} {f f2 : Frm} {fs' : List Frm} {xn nm : ByteArray} {xA A xK K : Option Addr} {xa xac n c xk xkc k kc kc' : Nat} {xqs qs : List QR} {xcs cs st : List CR} {z0 z1 z2 : Value}
    (h : PInv w B wr i (f :: f2 :: fs') (some ⟨g, 0, none⟩) (M + 2) C (.mk xn xA xa xac xqs xK xk xkc xcs :: .mk nm A n c qs K k kc cs :: st) F) (hba : Below wr.heap.size wr wa) (hg7 : wa.grownBy w7 (Value.slice K k kc).ownBlock)
    (hrow : w7.ownsRow B 25 3 (.slice (some ⟨gk, 0, none⟩) (k + 1) kc') (k + 1) (enc3 fC cs ++ [z0, z1, z2])) (hor : (Value.slice (some ⟨gk, 0, none⟩) (k + 1) kc').ownBlock = (Value.slice K k kc).ownBlock ∨ (Value.slice (some ⟨gk, 0, none⟩) (k + 1) kc').ownBlock = some wa.heap.size)
    (hw9 : w9 = ((((w7.setCell ⟨gk, k * 3, none⟩ (.string xn)).setCell ⟨gk, k * 3 + 1, none⟩ (.slice xA xa xac)).setCell ⟨gk, k * 3 + 2, none⟩ (.slice xK xk xkc)).setCell ⟨g, M * 3 + 2, none⟩ (.slice (some ⟨gk, 0, none⟩) (k + 1) kc')) ∨
      w9 = ((((w7.setCell ⟨g, M * 3 + 2, none⟩ (.slice (some ⟨gk, 0, none⟩) (k + 1) kc')).setCell ⟨gk, k * 3, none⟩ (.string xn)).setCell ⟨gk, k * 3 + 1, none⟩ (.slice xA xa xac)).setCell ⟨gk, k * 3 + 2, none⟩ (.slice xK xk xkc))) :
    ∃ crs' F', PInv w B w9 (i + 1) ({ f2 with cs := f2.cs ++ [f.whole] } :: fs') (some ⟨g, 0, none⟩) (M + 1) C crs' F' := by
  have hln := h.ln
  simp only [List.length_cons] at hln
  have hM : st.length = M := by omega
  obtain ⟨F1, F2, h1, h2, h3, h4, F3, F4, h5, h6, h7, h8, h9⟩ := h.st
  have h8 : FrOk F3 wr B A n c qs K k kc cs := h8
  have hgl : g < wr.heap.size := own_rowlt h.row g rfl
  have hgF : ¬ F g := h.rF g rfl
  have hsa := hba.size
  have hs7 := hg7.size
  have hKg : (Value.slice K k kc).ownBlock ≠ some g := fun e => hgF (h2 g (h5 g (h8.fk g e)))
  have hne : gk ≠ g := fun e => by
    rcases hor with e2 | e2
    · exact hKg (by rw [← e2, ← e]; rfl)
    · injection e2 with e2
      change gk = wa.heap.size at e2
      omega
  have hgk7 : gk < w7.heap.size := own_rowlt hrow gk rfl
  have hs9 : w9.heap.size = w7.heap.size := by rcases hw9 with rfl | rfl <;> simp
  have hk9 : ∀ b, b ≠ g → b ≠ gk → w9.heap[b]? = w7.heap[b]? := fun b hb hb2 => by
    rcases hw9 with rfl | rfl
    · rw [heap_setCell_other _ _ _ _ hb, set3_other _ _ _ _ _ _ _ _ _ hb2]
    · rw [set3_other _ _ _ _ _ _ _ _ _ hb2, heap_setCell_other _ _ _ _ hb]
  have hR7 : w7.ownsRow B 25 3 (.slice (some ⟨g, 0, none⟩) (M + 2) C) (M + 2) (enc3 fC (st.reverse ++ [.mk nm A n c qs K k kc cs] ++ [.mk xn xA xa xac xqs xK xk xkc xcs])) := by
    have := h.row
    rw [List.reverse_cons, List.reverse_cons] at this
    exact own_grown (own_below this hba) hg7 (fun z hz e => hKg (by rw [e, ← hz]; rfl))
  have hK9 : w9.ownsRow B 25 3 (.slice (some ⟨gk, 0, none⟩) (k + 1) kc') (k + 1) (enc3 fC (cs ++ [.mk xn xA xa xac xqs xK xk xkc xcs])) := by
    have hkl : cs.length = k := by have := h8.rk.1; rw [enc3_length] at this; omega
    have e := enc3_last3 fC cs z0 z1 z2 (.mk xn xA xa xac xqs xK xk xkc xcs)
    rw [hkl] at e
    rcases hw9 with rfl | rfl
    · have := own_set3 (o := k * 3) (a := .string xn) (b := .slice xA xa xac) (d := .slice xK xk xkc) hrow
      rw [← e]
      exact ownsRow_setCell_other this (fun e => hne (by injection e)) _
    · have := own_set3 (o := k * 3) (a := .string xn) (b := .slice xA xa xac) (d := .slice xK xk xkc) (ownsRow_setCell_other (a := ⟨g, M * 3 + 2, none⟩) hrow (fun e => hne (by injection e)) (.slice (some ⟨gk, 0, none⟩) (k + 1) kc'))
      rw [← e]
      exact this
  have hR9 : w9.ownsRow B 25 3 (.slice (some ⟨g, 0, none⟩) (M + 1) C) (M + 1) (enc3 fC (CR.mk nm A n c qs (some ⟨gk, 0, none⟩) (k + 1) kc' (cs ++ [.mk xn xA xa xac xqs xK xk xkc xcs]) :: st).reverse) := by
    have key : ∀ W : World, W.ownsRow B 25 3 (.slice (some ⟨g, 0, none⟩) (M + 2) C) (M + 2) ((enc3 fC (st.reverse ++ [.mk nm A n c qs K k kc cs] ++ [.mk xn xA xa xac xqs xK xk xkc xcs])).set (M * 3 + 2) (.slice (some ⟨gk, 0, none⟩) (k + 1) kc')) →
        W.ownsRow B 25 3 (.slice (some ⟨g, 0, none⟩) (M + 1) C) (M + 1) (enc3 fC (CR.mk nm A n c qs (some ⟨gk, 0, none⟩) (k + 1) kc' (cs ++ [.mk xn xA xa xac xqs xK xk xkc xcs]) :: st).reverse) := fun W hW => by
      have := own_take (m := M + 1) hW (by omega)
      have e2 := enc3_last fC st.reverse (.mk nm A n c qs K k kc cs) 2 (.slice (some ⟨gk, 0, none⟩) (k + 1) kc')
      rw [List.length_reverse, hM] at e2
      rw [enc3_app fC (st.reverse ++ [_]), List.set_append_left _ _ (by rw [enc3_length, List.length_append, List.length_reverse, List.length_singleton]; omega), e2] at this
      have e3 : enc3 fC st.reverse ++ [(fC (CR.mk nm A n c qs K k kc cs)).1, (fC (CR.mk nm A n c qs K k kc cs)).2.1, (fC (CR.mk nm A n c qs K k kc cs)).2.2].set 2 (.slice (some ⟨gk, 0, none⟩) (k + 1) kc') = enc3 fC (st.reverse ++ [CR.mk nm A n c qs (some ⟨gk, 0, none⟩) (k + 1) kc' (cs ++ [.mk xn xA xa xac xqs xK xk xkc xcs])]) := by
        rw [enc3_snoc]; rfl
      rw [e3] at this
      have hl : (M + 1) * 3 = (enc3 fC (st.reverse ++ [CR.mk nm A n c qs (some ⟨gk, 0, none⟩) (k + 1) kc' (cs ++ [.mk xn xA xa xac xqs xK xk xkc xcs])])).length := by
        rw [enc3_length, List.length_append, List.length_reverse, List.length_singleton, hM]
      rw [hl, List.take_append_of_le_length (Nat.le_refl _), List.take_of_length_le (Nat.le_refl _)] at this
      rw [List.reverse_cons]
      exact this
    refine key w9 ?_
    have hgb : (Value.slice (some ⟨g, 0, none⟩) (M + 2) C).ownBlock ≠ some gk := fun e => hne (by injection e with e; exact e.symm)
    rcases hw9 with rfl | rfl
    · exact (World.ownsRow.stored (own_blk hR7 (fun z hz => by injection hz with hz; subst hz; exact set3_other _ _ _ _ _ _ _ _ _ (Ne.symm hne))) _ _).1
    · exact own_blk (World.ownsRow.stored hR7 _ _).1 (fun z hz => by injection hz with hz; subst hz; exact set3_other _ _ _ _ _ _ _ _ _ (Ne.symm hne))
  obtain ⟨F', hF⟩ := PInv.ended (K' := some ⟨gk, 0, none⟩) (kc' := kc') (f := f) (f2 := f2) h (w9 := w9) (by omega) (fun b hb hbg hbk => by
      have : b ≠ gk := fun e => by
        rcases hor with e2 | e2
        · exact hbk (by rw [← e2, e]; rfl)
        · injection e2 with e2
          change gk = wa.heap.size at e2
          omega
      rw [hk9 b hbg this]
      exact (hg7.block b (by omega) (fun e => hbk e.symm)).trans (hba.block b hb)) hK9 (by
      rcases hor with e2 | e2
      · exact .inl e2
      · exact .inr ⟨gk, rfl, by injection e2 with e2; change gk = wa.heap.size at e2; omega, by rw [hs9]; exact hgk7⟩) hR9 (by
      have hb7 : Below w.heap.size w w7 := (bstep h.bel hba).grown hg7 (by have := h.bel.size; omega) (fun z e => by
        have := (h.fB z (h2 z (h5 z (h8.fk z e)))).1
        have := h.hw
        omega)
      have hB1 : w.heap.size ≤ g := by have := own_row_ge h.row g rfl; have := h.hw; omega
      have hB2 : w.heap.size ≤ gk := by have := own_row_ge hrow gk rfl; have := h.hw; omega
      rcases hw9 with rfl | rfl
      · refine Below.setCell (p := ⟨g, M * 3 + 2, none⟩) ?_ hB1 _
        refine Below.setCell (p := ⟨gk, k * 3 + 2, none⟩) ?_ hB2 _
        refine Below.setCell (p := ⟨gk, k * 3 + 1, none⟩) ?_ hB2 _
        exact Below.setCell (p := ⟨gk, k * 3, none⟩) hb7 hB2 _
      · refine Below.setCell (p := ⟨gk, k * 3 + 2, none⟩) ?_ hB2 _
        refine Below.setCell (p := ⟨gk, k * 3 + 1, none⟩) ?_ hB2 _
        refine Below.setCell (p := ⟨gk, k * 3, none⟩) ?_ hB2 _
        exact Below.setCell (p := ⟨g, M * 3 + 2, none⟩) hb7 hB1 _)
  exact ⟨_, F', hF⟩

theorem ended_ne {w wr wa : World} {B i g gk C N kc' : Nat} {F : Nat → Prop} {fs : List Frm} {x : CR} {nm : ByteArray} {A K : Option Addr} {n c k kc : Nat} {qs : List QR} {cs st : List CR}
    (h : PInv w B wr i fs (some ⟨g, 0, none⟩) N C (x :: .mk nm A n c qs K k kc cs :: st) F) (hba : Below wr.heap.size wr wa) (hor : (Value.slice (some ⟨gk, 0, none⟩) (k + 1) kc').ownBlock = (Value.slice K k kc).ownBlock ∨ (Value.slice (some ⟨gk, 0, none⟩) (k + 1) kc').ownBlock = some wa.heap.size) : gk ≠ g := fun e => by
  obtain ⟨F1, F2, h1, h2, h3, h4, F3, F4, h5, h6, h7, h8, h9⟩ := h.st
  have h8 : FrOk F3 wr B A n c qs K k kc cs := h8
  have hgl : g < wr.heap.size := own_rowlt h.row g rfl
  have hgF : ¬ F g := h.rF g rfl
  have hsa := hba.size
  rcases hor with e2 | e2
  · exact hgF (h2 g (h5 g (h8.fk g (by rw [← e2, ← e]; rfl))))
  · injection e2 with e2
    change gk = wa.heap.size at e2
    omega
theorem ended_cell {w wr wa w7 : World} {B i g C N o : Nat} {F : Nat → Prop} {fs : List Frm} {x : CR} {nm : ByteArray} {A K : Option Addr} {n c k kc : Nat} {qs : List QR} {cs st : List CR} {v : Value}
    (h : PInv w B wr i fs (some ⟨g, 0, none⟩) N C (x :: .mk nm A n c qs K k kc cs :: st) F) (hba : Below wr.heap.size wr wa) (hg7 : wa.grownBy w7 (Value.slice K k kc).ownBlock) (hv : wr.cell? ⟨g, o, none⟩ = some v) : w7.cell? ⟨g, o, none⟩ = some v ∧ w7.frozen? ⟨g, o, none⟩ = false := by
  obtain ⟨F1, F2, h1, h2, h3, h4, F3, F4, h5, h6, h7, h8, h9⟩ := h.st
  have h8 : FrOk F3 wr B A n c qs K k kc cs := h8
  have hgl : g < wr.heap.size := own_rowlt h.row g rfl
  have hgF : ¬ F g := h.rF g rfl
  have hb : w7.heap[g]? = wr.heap[g]? := (hg7.block g (Nat.lt_of_lt_of_le hgl hba.size) (fun e => hgF (h2 g (h5 g (h8.fk g e.symm))))).trans (hba.block g hgl)
  refine ⟨(World.cell?_of_block (a := ⟨g, o, none⟩) hb).trans hv, (World.frozen?_of_block (a := ⟨g, o, none⟩) hb).trans (World.ownsRow.frozenAt h.row o)⟩
set_option maxRecDepth 100000 in
set_option maxHeartbeats 8000000 in
theorem ended_any {w wr : World} {B i g C M : Nat} {F : Nat → Prop} {f f2 : Frm} {fs' : List Frm} {xn nm : ByteArray} {xA A xK K : Option Addr} {xa xac n c xk xkc k kc : Nat} {xqs qs : List QR} {xcs cs st : List CR}
    (h : PInv w B wr i (f :: f2 :: fs') (some ⟨g, 0, none⟩) (M + 2) C (.mk xn xA xa xac xqs xK xk xkc xcs :: .mk nm A n c qs K k kc cs :: st) F) (hi : i ≤ 1048576) (hM : M ≤ 1048576) :
    Calls Tryz.prog 35 #[.slice (some ⟨g, 0, none⟩) (M + 2) C] wr fun e w' => e = .returned (.slice (some ⟨g, 0, none⟩) (M + 1) C) ∧ ∃ crs' F', PInv w B w' (i + 1) ({ f2 with cs := f2.cs ++ [f.whole] } :: fs') (some ⟨g, 0, none⟩) (M + 1) C crs' F' := by
  have hmx : Tryz.prog.follows .mixedOrders = true := by kernel_rfl
  obtain ⟨i0, hi0, hz0, hz1, hz2⟩ := info_parts infoC
  have HP := Lib.hid h
  have HL : Hid (st.length = M) := Lib.hid (by have := h.ln; simp only [List.length_cons] at this; omega)
  have HRK : Hid (wr.ownsRow B 25 3 (.slice K k kc) k (enc3 fC cs)) := Lib.hid (by
    obtain ⟨F1, F2, h1, h2, h3, h4, F3, F4, h5, h6, h7, h8, h9⟩ := h.st
    exact FrOk.rk h8)
  have hk : k ≤ 1048576 := by
    have := (h.ct _ (List.mem_cons_of_mem _ (List.mem_cons_self ..))).2
    omega
  have HCM : Hid (M + 2 ≤ C ∧ C ≤ maxLen) := Lib.hid (by
    obtain ⟨_, _, e, h1, h2⟩ := own_slice h.row
    injection e with _ _ e
    subst e
    exact ⟨h1, h2⟩)
  have HBB : Hid (B ≤ wr.heap.size) := Lib.hid (by have h1 := own_row_ge h.row g rfl; have h2 := own_rowlt h.row g rfl; omega)
  obtain ⟨g', hge, _, _, _, hcc⟩ := own_cells h.row (by omega)
  have hgg : g' = g := by injection hge with hge; injection hge with hge; exact hge.symm
  rw [hgg] at hcc
  clear hge hgg
  have hx1 : ((.mk xn xA xa xac xqs xK xk xkc xcs :: .mk nm A n c qs K k kc cs :: st : List CR).reverse)[M + 1]? = some (.mk xn xA xa xac xqs xK xk xkc xcs) := by
    rw [List.reverse_cons, List.reverse_cons, List.getElem?_append_right (by simp [HL.out]), show (M + 1 - (st.reverse ++ [CR.mk nm A n c qs K k kc cs]).length) = 0 by simp [HL.out]]
    rfl
  have hx2 : ((.mk xn xA xa xac xqs xK xk xkc xcs :: .mk nm A n c qs K k kc cs :: st : List CR).reverse)[M]? = some (.mk nm A n c qs K k kc cs) := by
    rw [List.reverse_cons, List.reverse_cons, List.append_assoc, List.getElem?_append_right (by simp [HL.out]), show (M - st.reverse.length) = 0 by simp [HL.out]]
    rfl
  obtain ⟨e0, e1, e2⟩ := enc3_get (f := fC) hx1
  obtain ⟨d0, d1, d2⟩ := enc3_get (f := fC) hx2
  have H1 : Hid (wr.cell? ⟨g, (M + 1) * 3, none⟩ = some (.string xn) ∧ wr.cell? ⟨g, (M + 1) * 3 + 1, none⟩ = some (.slice xA xa xac) ∧ wr.cell? ⟨g, (M + 1) * 3 + 2, none⟩ = some (.slice xK xk xkc)) := Lib.hid ⟨hcc _ _ e0, hcc _ _ e1, hcc _ _ e2⟩
  have H2 : Hid (wr.cell? ⟨g, M * 3 + 2, none⟩ = some (.slice K k kc)) := Lib.hid (hcc _ _ d2)
  clear h hcc e0 e1 e2 d0 d1 d2 hx1 hx2
  have m1 : (M : Int) + 2 - 1 = (M : Int) + 1 := by omega
  have m2 : (M : Int) + 1 - 1 = (M : Int) := by omega
  have m3 : ¬ ((M : Int) + 1 < 0) := by omega
  have m4 : (M : Int) + 1 < (M : Int) + 2 := by omega
  have m5 : (M : Int) < (M : Int) + 2 := by omega
  have m6 : ¬ ((k : Int) + 1 ≤ (k : Int)) := by omega
  have m7 : IntKind.i64.wrap ((M : Int) + 1) = (M : Int) + 1 := by rw [IntKind.wrap_i64]; omega
  have m8 : M + 1 ≤ C := by have := HCM.out; omega
  have m9 : ¬ C = 0 := by omega
  go_enter Tryz.func35, Tryz.ntmps35
  go_upto_region 3 with fail
  refine wp_region_till (fun w' => Below wr.heap.size wr w') 10 16 hmx (by kernel_rfl) ?_
  have HS : Below wr.heap.size wr wr.drew := (Below.refl _ _).drew
  refine till_take (i := 0) _ (.pointer (some ⟨g, M * 3, none⟩)) [0] rfl (by kernel_rfl) (by kernel_rfl) (by kernel_rfl) (by kernel_rfl) (fun _ _ _ h => h) (.inl ⟨by rfl, fun w' hS => ?_⟩) HS ?_
  · go_simp
  try simp only [Act.put, List.setIfInBounds_toArray, List.set_cons_zero, List.set_cons_succ]
  refine till_take (i := 1) _ (.pointer (some ⟨g, M * 3, none⟩)) [1] rfl (by kernel_rfl) (by kernel_rfl) (by kernel_rfl) (by kernel_rfl) (fun _ _ _ h => h) (.inl ⟨by rfl, fun w' hS => ?_⟩) HS ?_
  · go_simp
  try simp only [Act.put, List.setIfInBounds_toArray, List.set_cons_zero, List.set_cons_succ]
  refine till_take (i := 2) _ (.pointer (some ⟨g, M * 3 + 2, none⟩)) [2] rfl (by kernel_rfl) (by kernel_rfl) (by kernel_rfl) (by kernel_rfl) (fun _ _ _ h => h) (.inl ⟨by rfl, fun w' hS => ?_⟩) HS ?_
  · go_simp
  try simp only [Act.put, List.setIfInBounds_toArray, List.set_cons_zero, List.set_cons_succ]
  refine till_take (i := 3) _ (.slice K k kc) [3] rfl (by kernel_rfl) (by kernel_rfl) (by kernel_rfl) (by kernel_rfl) (fun _ _ _ h => h) (.inl ⟨by rfl, fun w' hS => ?_⟩) HS ?_
  · have g2 := cell_keep H2.out hS
    go_simp
  try simp only [Act.put, List.setIfInBounds_toArray, List.set_cons_zero, List.set_cons_succ]
  refine till_take (i := 4) _ (.slice (some ⟨g, 0, none⟩) (M + 2) C) [4] rfl (by kernel_rfl) (by kernel_rfl) (by kernel_rfl) (by kernel_rfl) (fun _ _ _ h => h) (.inl ⟨by rfl, fun w' hS => ?_⟩) HS ?_
  · go_simp
  try simp only [Act.put, List.setIfInBounds_toArray, List.set_cons_zero, List.set_cons_succ]
  refine till_take (i := 5) _ (.int .i64 ((M : Int) + 1)) [5] rfl (by kernel_rfl) (by kernel_rfl) (by kernel_rfl) (by kernel_rfl) (fun _ _ _ h => h) (.inl ⟨by rfl, fun w' hS => ?_⟩) HS ?_
  · go_simp
  try simp only [Act.put, List.setIfInBounds_toArray, List.set_cons_zero, List.set_cons_succ]
  refine till_take (i := 6) _ (.pointer (some ⟨g, (M + 1) * 3, none⟩)) [6] rfl (by kernel_rfl) (by kernel_rfl) (by kernel_rfl) (by kernel_rfl) (fun _ _ _ h => h) (.inl ⟨by rfl, fun w' hS => ?_⟩) HS ?_
  · go_simp
  try simp only [Act.put, List.setIfInBounds_toArray, List.set_cons_zero, List.set_cons_succ]
  refine till_take (i := 7) _ (.agg #[.string xn, .slice xA xa xac, .slice xK xk xkc]) [7] rfl (by kernel_rfl) (by kernel_rfl) (by kernel_rfl) (by kernel_rfl) (fun _ _ _ h => h) (.inl ⟨by rfl, fun w' hS => ?_⟩) HS ?_
  · have g0 := cell_keep H1.out.1 hS
    have g1 := cell_keep H1.out.2.1 hS
    have g2 := cell_keep H1.out.2.2 hS
    go_simp
  try simp only [Act.put, List.setIfInBounds_toArray, List.set_cons_zero, List.set_cons_succ]
  refine till_take (i := 8) _ (.int .i64 (k : Int)) [8] rfl (by kernel_rfl) (by kernel_rfl) (by kernel_rfl) (by kernel_rfl) (fun _ _ _ h => h) (.inl ⟨by rfl, fun w' hS => ?_⟩) HS ?_
  · go_simp
  try simp only [Act.put, List.setIfInBounds_toArray, List.set_cons_zero, List.set_cons_succ]
  refine till_one (i := 9) _ (by kernel_rfl) rfl rfl (fun K0 hK => ?_)
  go_simp
  have hal : Below wr.heap.size wr (wr.alloc (.cells #[.string ⟨#[]⟩, .slice none 0 0, .slice none 0 0] 25)).drew := ((Below.refl _ _).alloc (Nat.le_refl _) _).drew
  refine hK.out _ _ (fun _ _ => hal) ?_
  try simp only [Act.put, List.setIfInBounds_toArray, List.set_cons_zero, List.set_cons_succ]
  clear hK K0 HS
  refine till_one (i := 10) _ (by kernel_rfl) rfl rfl (fun K0 hK => ?_)
  have hrk := Lib.hid (own_below HRK.out hal)
  refine oper_append_reads _ _ _ 23 rfl B 25 i0 (.agg #[.string ⟨#[]⟩, .slice none 0 0, .slice none 0 0]) 3 64 Tryz.underlying23 hi0 hz0 hz1 hz2 rfl (by decide) (.slice K k kc) k (enc3 fC cs) rfl hrk.out _ (some ⟨wr.heap.size, 0, none⟩) 1 1 [.string ⟨#[]⟩, .slice none 0 0, .slice none 0 0] rfl (reads_new wr #[.string ⟨#[]⟩, .slice none 0 0, .slice none 0 0] 25 1 3 rfl) (by simp [Value.oneCell']) (by unfold maxLen; omega) (by omega) (by have := hal.size; have := HBB.out; omega) ?_
  intro K7 kc7 w7 hrow7 hg7 hor7
  obtain ⟨gk, hK7, hgk1, hgk2, _, hck⟩ := own_cells hrow7 (Nat.succ_pos k)
  subst hK7
  refine hK.out _ _ (fun h _ => absurd rfl h) ?_
  try simp only [Act.put, List.setIfInBounds_toArray, List.set_cons_zero, List.set_cons_succ]
  clear hK K0
  refine till_switch (by kernel_rfl) ?_
  have hcx : (enc3 fC cs).length = k * 3 := hrk.out.1
  have k0 := hck (k * 3) (.string ⟨#[]⟩) (by rw [List.getElem?_append_right (by omega), hcx, Nat.sub_self]; rfl)
  have k1 := hck (k * 3 + 1) (.slice none 0 0) (by rw [List.getElem?_append_right (by omega), hcx, Nat.add_sub_cancel_left]; rfl)
  have k2 := hck (k * 3 + 2) (.slice none 0 0) (by rw [List.getElem?_append_right (by omega), hcx, Nat.add_sub_cancel_left]; rfl)
  have kf := fun o => World.ownsRow.frozenAt hrow7 o
  clear hcx hck
  refine till_any (i := 11) _ (.pointer (some ⟨gk, k * 3, none⟩)) rfl (by kernel_rfl) (by kernel_rfl) (by kernel_rfl) (fun _ _ _ h => h) (.inl ⟨by rfl, fun w' hS => ?_⟩) ?_
  · go_simp
  try simp only [Act.put, List.setIfInBounds_toArray, List.set_cons_zero, List.set_cons_succ]
  refine till_any (i := 13) _ (.pointer (some ⟨g, M * 3, none⟩)) rfl (by kernel_rfl) (by kernel_rfl) (by kernel_rfl) (fun _ _ _ h => h) (.inl ⟨by rfl, fun w' hS => ?_⟩) ?_
  · go_simp
  try simp only [Act.put, List.setIfInBounds_toArray, List.set_cons_zero, List.set_cons_succ]
  refine till_any (i := 14) _ (.pointer (some ⟨g, M * 3 + 2, none⟩)) rfl (by kernel_rfl) (by kernel_rfl) (by kernel_rfl) (fun _ _ _ h => h) (.inl ⟨by rfl, fun w' hS => ?_⟩) ?_
  · go_simp
  try simp only [Act.put, List.setIfInBounds_toArray, List.set_cons_zero, List.set_cons_succ]
  have HPP := Lib.hid (fun w9 => PInv.ended_mem (w9 := w9) HP.out hal hg7 hrow7 hor7)
  have HNE : Hid (gk ≠ g) := Lib.hid (ended_ne HP.out hal hor7)
  have hgo : w7.cell? ⟨g, M * 3 + 2, none⟩ = some (.slice K k kc) ∧ w7.frozen? ⟨g, M * 3 + 2, none⟩ = false := ended_cell HP.out hal hg7 H2.out
  obtain ⟨q2, qf⟩ := hgo
  clear hg7 hrow7 hor7 hgk1 hgk2 hrk hal
  refine till_two (i := 12) (j := 15) _ _ (by kernel_rfl) rfl rfl rfl rfl (fun K0 hK => ?_) (fun K0 hK => ?_)
  · go_simp
    refine hK.out _ _ ?_
    try simp only [Act.put, List.setIfInBounds_toArray, List.set_cons_zero, List.set_cons_succ]
    clear hK K0
    have r2 := (World.cell?_of_block (a := ⟨g, M * 3 + 2, none⟩) (set3_other w7 gk (k * 3) (k * 3 + 1) (k * 3 + 2) (.string xn) (.slice xA xa xac) (.slice xK xk xkc) g (Ne.symm HNE.out))).trans q2
    have rf := (World.frozen?_of_block (a := ⟨g, M * 3 + 2, none⟩) (set3_other w7 gk (k * 3) (k * 3 + 1) (k * 3 + 2) (.string xn) (.slice xA xa xac) (.slice xK xk xkc) g (Ne.symm HNE.out))).trans qf
    generalize hw8 : ((w7.setCell ⟨gk, k * 3, none⟩ (.string xn)).setCell ⟨gk, k * 3 + 1, none⟩ (.slice xA xa xac)).setCell ⟨gk, k * 3 + 2, none⟩ (.slice xK xk xkc) = w8 at r2 rf ⊢
    have HW8 := Lib.hid hw8
    clear hw8 k0 k1 k2 kf q2 qf
    refine till_one (i := 15) _ (by kernel_rfl) rfl rfl (fun K0 hK => ?_)
    go_simp
    refine hK.out _ _ (fun _ _ => trivial) ?_
    try simp only [Act.put, List.setIfInBounds_toArray, List.set_cons_zero, List.set_cons_succ]
    clear hK K0
    refine till_done (by kernel_rfl) ?_
    go_wp2
    go_ret
    refine ⟨rfl, HPP.out _ (.inl ?_)⟩
    rw [← HW8.out]
  · go_simp
    refine hK.out _ _ ?_
    try simp only [Act.put, List.setIfInBounds_toArray, List.set_cons_zero, List.set_cons_succ]
    clear hK K0
    have r0 := (World.cell?_of_block (a := ⟨gk, k * 3, none⟩) (heap_setCell_other w7 ⟨g, M * 3 + 2, none⟩ gk (.slice (some ⟨gk, 0, none⟩) (k + 1) kc7) HNE.out)).trans k0
    have r1 := (World.cell?_of_block (a := ⟨gk, k * 3 + 1, none⟩) (heap_setCell_other w7 ⟨g, M * 3 + 2, none⟩ gk (.slice (some ⟨gk, 0, none⟩) (k + 1) kc7) HNE.out)).trans k1
    have r2 := (World.cell?_of_block (a := ⟨gk, k * 3 + 2, none⟩) (heap_setCell_other w7 ⟨g, M * 3 + 2, none⟩ gk (.slice (some ⟨gk, 0, none⟩) (k + 1) kc7) HNE.out)).trans k2
    have rf := fun o => (World.frozen?_of_block (a := ⟨gk, o, none⟩) (heap_setCell_other w7 ⟨g, M * 3 + 2, none⟩ gk (.slice (some ⟨gk, 0, none⟩) (k + 1) kc7) HNE.out)).trans (kf o)
    generalize hw8 : w7.setCell ⟨g, M * 3 + 2, none⟩ (.slice (some ⟨gk, 0, none⟩) (k + 1) kc7) = w8 at r0 r1 r2 rf ⊢
    have HW8 := Lib.hid hw8
    clear hw8 k0 k1 k2 kf q2 qf
    refine till_one (i := 12) _ (by kernel_rfl) rfl rfl (fun K0 hK => ?_)
    go_simp
    refine hK.out _ _ (fun _ _ => trivial) ?_
    try simp only [Act.put, List.setIfInBounds_toArray, List.set_cons_zero, List.set_cons_succ]
    clear hK K0
    refine till_done (by kernel_rfl) ?_
    go_wp2
    go_ret
    refine ⟨rfl, HPP.out _ (.inr ?_)⟩
    rw [← HW8.out]
end Go.Proofs.YtlfhhnjdfpgadaaGreatDoor
