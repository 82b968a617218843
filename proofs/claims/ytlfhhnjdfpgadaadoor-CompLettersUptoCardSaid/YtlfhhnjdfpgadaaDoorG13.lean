/-
  The program's ended: the innermost component is laid into the one around it.
-/
import Derived.Test.YtlfhhnjdfpgadaaDoorG12
namespace Go.Proofs.YtlfhhnjdfpgadaaDoor
open Go.RowKit

theorem own_take {w : World} {base size n m c : Nat} {e : TypeId} {g : Nat} {xs : List Value} (h : w.ownsRow base e size (.slice (some ⟨g, 0, none⟩) n c) n xs) (hm : m ≤ n) : w.ownsRow base e size (.slice (some ⟨g, 0, none⟩) m c) m (xs.take (m * size)) := by
  have hms : m * size ≤ n * size := Nat.mul_le_mul_right _ hm
  refine ⟨by rw [List.length_take, h.1]; omega, ?_⟩
  rcases h.2 with ⟨h', _⟩ | ⟨g', cap', cur, h', hb, hg, hnc, hcm, hcs, htake⟩
  · simp at h'
  · simp only [Value.slice.injEq, Option.some.injEq, Addr.mk.injEq, and_true, true_and] at h'
    obtain ⟨rfl, rfl⟩ := h'
    refine .inr ⟨g, c, cur, rfl, hb, hg, by omega, hcm, hcs, ?_⟩
    rw [← htake, List.take_take, Nat.min_eq_left hms]
theorem take_enc3 {α : Type} (f : α → Value × Value × Value) (l l2 : List α) : (enc3 f (l ++ l2)).take (l.length * 3) = enc3 f l := by
  rw [enc3_app, List.take_append_of_le_length (by rw [enc3_length]; exact Nat.le_refl _), List.take_of_length_le (by rw [enc3_length]; exact Nat.le_refl _)]
theorem enc3_last3 {α : Type} (f : α → Value × Value × Value) (l : List α) (a b c : Value) (y : α) : (((enc3 f l ++ [a, b, c]).set (l.length * 3) (f y).1).set (l.length * 3 + 1) (f y).2.1).set (l.length * 3 + 2) (f y).2.2 = enc3 f (l ++ [y]) := by
  rw [List.set_append_right _ _ (by rw [enc3_length]; omega), List.set_append_right _ _ (by rw [enc3_length]; omega), List.set_append_right _ _ (by rw [enc3_length]; omega), enc3_length, enc3_snoc]
  rw [Nat.sub_self, show l.length * 3 + 1 - l.length * 3 = 1 by omega, show l.length * 3 + 2 - l.length * 3 = 2 by omega]
  rfl
theorem own_set3 {w : World} {base n c g o : Nat} {e : TypeId} {xs : List Value} {a b d : Value} (h : w.ownsRow base e 3 (.slice (some ⟨g, 0, none⟩) n c) n xs) :
    (((w.setCell ⟨g, o, none⟩ a).setCell ⟨g, o + 1, none⟩ b).setCell ⟨g, o + 2, none⟩ d).ownsRow base e 3 (.slice (some ⟨g, 0, none⟩) n c) n (((xs.set o a).set (o + 1) b).set (o + 2) d) :=
  (World.ownsRow.stored (World.ownsRow.stored (World.ownsRow.stored h o a).1 (o + 1) b).1 (o + 2) d).1
set_option maxHeartbeats 1000000 in
/-- What the stores of ended leave, in whatever order they come. -/
theorem PInv.ended_mem {w wr wa w7 w9 : World} {B i g gk C M : Nat} {F : Nat → Prop} {f f2 : Frm} {fs' : List Frm} {xn nm : ByteArray} {xA A xK K : Option Addr} {xa xac n c xk xkc k kc kc' : Nat} {xqs qs : List QR} {xcs cs st : List CR} {z0 z1 z2 : Value}
    (h : PInv w B wr i (f :: f2 :: fs') (some ⟨g, 0, none⟩) (M + 2) C (.mk xn xA xa xac xqs xK xk xkc xcs :: .mk nm A n c qs K k kc cs :: st) F) (hba : Below wr.heap.size wr wa) (hg7 : wa.grownBy w7 (Value.slice K k kc).ownBlock)
    (hrow : w7.ownsRow B 25 3 (.slice (some ⟨gk, 0, none⟩) (k + 1) kc') (k + 1) (enc3 fC cs ++ [z0, z1, z2])) (hor : (Value.slice (some ⟨gk, 0, none⟩) (k + 1) kc').ownBlock = (Value.slice K k kc).ownBlock ∨ (Value.slice (some ⟨gk, 0, none⟩) (k + 1) kc').ownBlock = some wa.heap.size)
    (hw9 : w9 = ((((w7.setCell ⟨gk, k * 3, none⟩ (.string xn)).setCell ⟨gk, k * 3 + 1, none⟩ (.slice xA xa xac)).setCell ⟨gk, k * 3 + 2, none⟩ (.slice xK xk xkc)).setCell ⟨g, M * 3 + 2, none⟩ (.slice (some ⟨gk, 0, none⟩) (k + 1) kc')) ∨
      w9 = ((((w7.setCell ⟨g, M * 3 + 2, none⟩ (.slice (some ⟨gk, 0, none⟩) (k + 1) kc')).setCell ⟨gk, k * 3, none⟩ (.string xn)).setCell ⟨gk, k * 3 + 1, none⟩ (.slice xA xa xac)).setCell ⟨gk, k * 3 + 2, none⟩ (.slice xK xk xkc))) :
    ∃ crs' F', PInv w B w9 (i + 1) ({ f2 with cs := f2.cs ++ [f.whole] } :: fs') (some ⟨g, 0, none⟩) (M + 1) C crs' F' := by
  have hln := h.ln
  simp only [List.length_cons] at hln
  have hM : st.length = M := by omega
  obtain ⟨F1, F2, h1, h2, h3, h4, F3, F4, h5, h6, h7, h8, h9⟩ := h.st
  have h8 : FrOk F3 wr B A n c qs K k kc cs := h8
  have hgl : g < wr.heap.size := own_rowlt h.row g rfl
  have hgF : ¬ F g := h.rF g rfl
  have hsa := hba.size
  have hs7 := hg7.size
  have hKg : (Value.slice K k kc).ownBlock ≠ some g := fun e => hgF (h2 g (h5 g (h8.fk g e)))
  have hne : gk ≠ g := fun e => by
    rcases hor with e2 | e2
    · exact hKg (by rw [← e2, ← e]; rfl)
    · injection e2 with e2
      change gk = wa.heap.size at e2
      omega
  have hgk7 : gk < w7.heap.size := own_rowlt hrow gk rfl
  have hs9 : w9.heap.size = w7.heap.size := by rcases hw9 with rfl | rfl <;> simp
  have hk9 : ∀ b, b ≠ g → b ≠ gk → w9.heap[b]? = w7.heap[b]? := fun b hb hb2 => by
    rcases hw9 with rfl | rfl
    · rw [heap_setCell_other _ _ _ _ hb, set3_other _ _ _ _ _ _ _ _ _ hb2]
    · rw [set3_other _ _ _ _ _ _ _ _ _ hb2, heap_setCell_other _ _ _ _ hb]
  have hR7 : w7.ownsRow B 25 3 (.slice (some ⟨g, 0, none⟩) (M + 2) C) (M + 2) (enc3 fC (st.reverse ++ [.mk nm A n c qs K k kc cs] ++ [.mk xn xA xa xac xqs xK xk xkc xcs])) := by
    have := h.row
    rw [List.reverse_cons, List.reverse_cons] at this
    exact own_grown (own_below this hba) hg7 (fun z hz e => hKg (by rw [e, ← hz]; rfl))
  have hK9 : w9.ownsRow B 25 3 (.slice (some ⟨gk, 0, none⟩) (k + 1) kc') (k + 1) (enc3 fC (cs ++ [.mk xn xA xa xac xqs xK xk xkc xcs])) := by
    have hkl : cs.length = k := by have := h8.rk.1; rw [enc3_length] at this; omega
    have e := enc3_last3 fC cs z0 z1 z2 (.mk xn xA xa xac xqs xK xk xkc xcs)
    rw [hkl] at e
    rcases hw9 with rfl | rfl
    · have := own_set3 (o := k * 3) (a := .string xn) (b := .slice xA xa xac) (d := .slice xK xk xkc) hrow
      rw [← e]
      exact ownsRow_setCell_other this (fun e => hne (by injection e)) _
    · have := own_set3 (o := k * 3) (a := .string xn) (b := .slice xA xa xac) (d := .slice xK xk xkc) (ownsRow_setCell_other (a := ⟨g, M * 3 + 2, none⟩) hrow (fun e => hne (by injection e)) (.slice (some ⟨gk, 0, none⟩) (k + 1) kc'))
      rw [← e]
      exact this
  have hR9 : w9.ownsRow B 25 3 (.slice (some ⟨g, 0, none⟩) (M + 1) C) (M + 1) (enc3 fC (CR.mk nm A n c qs (some ⟨gk, 0, none⟩) (k + 1) kc' (cs ++ [.mk xn xA xa xac xqs xK xk xkc xcs]) :: st).reverse) := by
    have key : ∀ W : World, W.ownsRow B 25 3 (.slice (some ⟨g, 0, none⟩) (M + 2) C) (M + 2) ((enc3 fC (st.reverse ++ [.mk nm A n c qs K k kc cs] ++ [.mk xn xA xa xac xqs xK xk xkc xcs])).set (M * 3 + 2) (.slice (some ⟨gk, 0, none⟩) (k + 1) kc')) →
        W.ownsRow B 25 3 (.slice (some ⟨g, 0, none⟩) (M + 1) C) (M + 1) (enc3 fC (CR.mk nm A n c qs (some ⟨gk, 0, none⟩) (k + 1) kc' (cs ++ [.mk xn xA xa xac xqs xK xk xkc xcs]) :: st).reverse) := fun W hW => by
      have := own_take (m := M + 1) hW (by omega)
      have e2 := enc3_last fC st.reverse (.mk nm A n c qs K k kc cs) 2 (.slice (some ⟨gk, 0, none⟩) (k + 1) kc')
      rw [List.length_reverse, hM] at e2
      rw [enc3_app fC (st.reverse ++ [_]), List.set_append_left _ _ (by rw [enc3_length, List.length_append, List.length_reverse, List.length_singleton]; omega), e2] at this
      have e3 : enc3 fC st.reverse ++ [(fC (CR.mk nm A n c qs K k kc cs)).1, (fC (CR.mk nm A n c qs K k kc cs)).2.1, (fC (CR.mk nm A n c qs K k kc cs)).2.2].set 2 (.slice (some ⟨gk, 0, none⟩) (k + 1) kc') = enc3 fC (st.reverse ++ [CR.mk nm A n c qs (some ⟨gk, 0, none⟩) (k + 1) kc' (cs ++ [.mk xn xA xa xac xqs xK xk xkc xcs])]) := by
        rw [enc3_snoc]; rfl
      rw [e3] at this
      have hl : (M + 1) * 3 = (enc3 fC (st.reverse ++ [CR.mk nm A n c qs (some ⟨gk, 0, none⟩) (k + 1) kc' (cs ++ [.mk xn xA xa xac xqs xK xk xkc xcs])])).length := by
        rw [enc3_length, List.length_append, List.length_reverse, List.length_singleton, hM]
      rw [hl, List.take_append_of_le_length (Nat.le_refl _), List.take_of_length_le (Nat.le_refl _)] at this
      rw [List.reverse_cons]
      exact this
    refine key w9 ?_
    have hgb : (Value.slice (some ⟨g, 0, none⟩) (M + 2) C).ownBlock ≠ some gk := fun e => hne (by injection e with e; exact e.symm)
    rcases hw9 with rfl | rfl
    · exact (World.ownsRow.stored (own_blk hR7 (fun z hz => by injection hz with hz; subst hz; exact set3_other _ _ _ _ _ _ _ _ _ (Ne.symm hne))) _ _).1
    · exact own_blk (World.ownsRow.stored hR7 _ _).1 (fun z hz => by injection hz with hz; subst hz; exact set3_other _ _ _ _ _ _ _ _ _ (Ne.symm hne))
  obtain ⟨F', hF⟩ := PInv.ended (K' := some ⟨gk, 0, none⟩) (kc' := kc') (f := f) (f2 := f2) h (w9 := w9) (by omega) (fun b hb hbg hbk => by
      have : b ≠ gk := fun e => by
        rcases hor with e2 | e2
        · exact hbk (by rw [← e2, e]; rfl)
        · injection e2 with e2
          change gk = wa.heap.size at e2
          omega
      rw [hk9 b hbg this]
      exact (hg7.block b (by omega) (fun e => hbk e.symm)).trans (hba.block b hb)) hK9 (by
      rcases hor with e2 | e2
      · exact .inl e2
      · exact .inr ⟨gk, rfl, by injection e2 with e2; change gk = wa.heap.size at e2; omega, by rw [hs9]; exact hgk7⟩) hR9 (by
      have hb7 : Below w.heap.size w w7 := (bstep h.bel hba).grown hg7 (by have := h.bel.size; omega) (fun z e => by
        have := (h.fB z (h2 z (h5 z (h8.fk z e)))).1
        have := h.hw
        omega)
      have hB1 : w.heap.size ≤ g := by have := own_row_ge h.row g rfl; have := h.hw; omega
      have hB2 : w.heap.size ≤ gk := by have := own_row_ge hrow gk rfl; have := h.hw; omega
      rcases hw9 with rfl | rfl
      · refine Below.setCell (p := ⟨g, M * 3 + 2, none⟩) ?_ hB1 _
        refine Below.setCell (p := ⟨gk, k * 3 + 2, none⟩) ?_ hB2 _
        refine Below.setCell (p := ⟨gk, k * 3 + 1, none⟩) ?_ hB2 _
        exact Below.setCell (p := ⟨gk, k * 3, none⟩) hb7 hB2 _
      · refine Below.setCell (p := ⟨gk, k * 3 + 2, none⟩) ?_ hB2 _
        refine Below.setCell (p := ⟨gk, k * 3 + 1, none⟩) ?_ hB2 _
        refine Below.setCell (p := ⟨gk, k * 3, none⟩) ?_ hB2 _
        exact Below.setCell (p := ⟨g, M * 3 + 2, none⟩) hb7 hB1 _)
  exact ⟨_, F', hF⟩

theorem ended_ne {w wr wa : World} {B i g gk C N kc' : Nat} {F : Nat → Prop} {fs : List Frm} {x : CR} {nm : ByteArray} {A K : Option Addr} {n c k kc : Nat} {qs : List QR} {cs st : List CR}
    (h : PInv w B wr i fs (some ⟨g, 0, none⟩) N C (x :: .mk nm A n c qs K k kc cs :: st) F) (hba : Below wr.heap.size wr wa) (hor : (Value.slice (some ⟨gk, 0, none⟩) (k + 1) kc').ownBlock = (Value.slice K k kc).ownBlock ∨ (Value.slice (some ⟨gk, 0, none⟩) (k + 1) kc').ownBlock = some wa.heap.size) : gk ≠ g := fun e => by
  obtain ⟨F1, F2, h1, h2, h3, h4, F3, F4, h5, h6, h7, h8, h9⟩ := h.st
  have h8 : FrOk F3 wr B A n c qs K k kc cs := h8
  have hgl : g < wr.heap.size := own_rowlt h.row g rfl
  have hgF : ¬ F g := h.rF g rfl
  have hsa := hba.size
  rcases hor with e2 | e2
  · exact hgF (h2 g (h5 g (h8.fk g (by rw [← e2, ← e]; rfl))))
  · injection e2 with e2
    change gk = wa.heap.size at e2
    omega
theorem ended_cell {w wr wa w7 : World} {B i g C N o : Nat} {F : Nat → Prop} {fs : List Frm} {x : CR} {nm : ByteArray} {A K : Option Addr} {n c k kc : Nat} {qs : List QR} {cs st : List CR} {v : Value}
    (h : PInv w B wr i fs (some ⟨g, 0, none⟩) N C (x :: .mk nm A n c qs K k kc cs :: st) F) (hba : Below wr.heap.size wr wa) (hg7 : wa.grownBy w7 (Value.slice K k kc).ownBlock) (hv : wr.cell? ⟨g, o, none⟩ = some v) : w7.cell? ⟨g, o, none⟩ = some v ∧ w7.frozen? ⟨g, o, none⟩ = false := by
  obtain ⟨F1, F2, h1, h2, h3, h4, F3, F4, h5, h6, h7, h8, h9⟩ := h.st
  have h8 : FrOk F3 wr B A n c qs K k kc cs := h8
  have hgl : g < wr.heap.size := own_rowlt h.row g rfl
  have hgF : ¬ F g := h.rF g rfl
  have hb : w7.heap[g]? = wr.heap[g]? := (hg7.block g (Nat.lt_of_lt_of_le hgl hba.size) (fun e => hgF (h2 g (h5 g (h8.fk g e.symm))))).trans (hba.block g hgl)
  refine ⟨(World.cell?_of_block (a := ⟨g, o, none⟩) hb).trans hv, (World.frozen?_of_block (a := ⟨g, o, none⟩) hb).trans (World.ownsRow.frozenAt h.row o)⟩
set_option maxRecDepth 100000 in
set_option maxHeartbeats 8000000 in
theorem ended_any {w wr : World} {B i g C M : Nat} {F : Nat → Prop} {f f2 : Frm} {fs' : List Frm} {xn nm : ByteArray} {xA A xK K : Option Addr} {xa xac n c xk xkc k kc : Nat} {xqs qs : List QR} {xcs cs st : List CR}
    (h : PInv w B wr i (f :: f2 :: fs') (some ⟨g, 0, none⟩) (M + 2) C (.mk xn xA xa xac xqs xK xk xkc xcs :: .mk nm A n c qs K k kc cs :: st) F) (hi : i ≤ 1048576) (hM : M ≤ 1048576) :
    Calls Tryd.prog 20 #[.slice (some ⟨g, 0, none⟩) (M + 2) C] wr fun e w' => e = .returned (.slice (some ⟨g, 0, none⟩) (M + 1) C) ∧ ∃ crs' F', PInv w B w' (i + 1) ({ f2 with cs := f2.cs ++ [f.whole] } :: fs') (some ⟨g, 0, none⟩) (M + 1) C crs' F' := by
  have hmx : Tryd.prog.follows .mixedOrders = true := by kernel_rfl
  obtain ⟨i0, hi0, hz0, hz1, hz2⟩ := info_parts infoC
  have HP := Lib.hid h
  have HL : Hid (st.length = M) := Lib.hid (by have := h.ln; simp only [List.length_cons] at this; omega)
  have HRK : Hid (wr.ownsRow B 25 3 (.slice K k kc) k (enc3 fC cs)) := Lib.hid (by
    obtain ⟨F1, F2, h1, h2, h3, h4, F3, F4, h5, h6, h7, h8, h9⟩ := h.st
    exact FrOk.rk h8)
  have hk : k ≤ 1048576 := by
    have := (h.ct _ (List.mem_cons_of_mem _ (List.mem_cons_self ..))).2
    omega
  have HCM : Hid (M + 2 ≤ C ∧ C ≤ maxLen) := Lib.hid (by
    obtain ⟨_, _, e, h1, h2⟩ := own_slice h.row
    injection e with _ _ e
    subst e
    exact ⟨h1, h2⟩)
  have HBB : Hid (B ≤ wr.heap.size) := Lib.hid (by have h1 := own_row_ge h.row g rfl; have h2 := own_rowlt h.row g rfl; omega)
  obtain ⟨g', hge, _, _, _, hcc⟩ := own_cells h.row (by omega)
  have hgg : g' = g := by injection hge with hge; injection hge with hge; exact hge.symm
  rw [hgg] at hcc
  clear hge hgg
  have hx1 : ((.mk xn xA xa xac xqs xK xk xkc xcs :: .mk nm A n c qs K k kc cs :: st : List CR).reverse)[M + 1]? = some (.mk xn xA xa xac xqs xK xk xkc xcs) := by
    rw [List.reverse_cons, List.reverse_cons, List.getElem?_append_right (by simp [HL.out]), show (M + 1 - (st.reverse ++ [CR.mk nm A n c qs K k kc cs]).length) = 0 by simp [HL.out]]
    rfl
  have hx2 : ((.mk xn xA xa xac xqs xK xk xkc xcs :: .mk nm A n c qs K k kc cs :: st : List CR).reverse)[M]? = some (.mk nm A n c qs K k kc cs) := by
    rw [List.reverse_cons, List.reverse_cons, List.append_assoc, List.getElem?_append_right (by simp [HL.out]), show (M - st.reverse.length) = 0 by simp [HL.out]]
    rfl
  obtain ⟨e0, e1, e2⟩ := enc3_get (f := fC) hx1
  obtain ⟨d0, d1, d2⟩ := enc3_get (f := fC) hx2
  have H1 : Hid (wr.cell? ⟨g, (M + 1) * 3, none⟩ = some (.string xn) ∧ wr.cell? ⟨g, (M + 1) * 3 + 1, none⟩ = some (.slice xA xa xac) ∧ wr.cell? ⟨g, (M + 1) * 3 + 2, none⟩ = some (.slice xK xk xkc)) := Lib.hid ⟨hcc _ _ e0, hcc _ _ e1, hcc _ _ e2⟩
  have H2 : Hid (wr.cell? ⟨g, M * 3 + 2, none⟩ = some (.slice K k kc)) := Lib.hid (hcc _ _ d2)
  clear h hcc e0 e1 e2 d0 d1 d2 hx1 hx2
  have m1 : (M : Int) + 2 - 1 = (M : Int) + 1 := by omega
  have m2 : (M : Int) + 1 - 1 = (M : Int) := by omega
  have m3 : ¬ ((M : Int) + 1 < 0) := by omega
  have m4 : (M : Int) + 1 < (M : Int) + 2 := by omega
  have m5 : (M : Int) < (M : Int) + 2 := by omega
  have m6 : ¬ ((k : Int) + 1 ≤ (k : Int)) := by omega
  have m7 : IntKind.i64.wrap ((M : Int) + 1) = (M : Int) + 1 := by rw [IntKind.wrap_i64]; omega
  have m8 : M + 1 ≤ C := by have := HCM.out; omega
  have m9 : ¬ C = 0 := by omega
  go_enter Tryd.func20, Tryd.ntmps20
  go_upto_region 3 with fail
  refine wp_region_till (fun w' => Below wr.heap.size wr w') 10 16 hmx (by kernel_rfl) ?_
  have HS : Below wr.heap.size wr wr.drew := (Below.refl _ _).drew
  refine till_take (i := 0) _ (.pointer (some ⟨g, M * 3, none⟩)) [0] rfl (by kernel_rfl) (by kernel_rfl) (by kernel_rfl) (by kernel_rfl) (fun _ _ _ h => h) (.inl ⟨by rfl, fun w' hS => ?_⟩) HS ?_
  · go_simp
  try simp only [Act.put, List.setIfInBounds_toArray]
  refine till_take (i := 1) _ (.pointer (some ⟨g, M * 3, none⟩)) [1] rfl (by kernel_rfl) (by kernel_rfl) (by kernel_rfl) (by kernel_rfl) (fun _ _ _ h => h) (.inl ⟨by rfl, fun w' hS => ?_⟩) HS ?_
  · go_simp
  try simp only [Act.put]
  refine till_take (i := 2) _ (.pointer (some ⟨g, M * 3 + 2, none⟩)) [2] rfl (by kernel_rfl) (by kernel_rfl) (by kernel_rfl) (by kernel_rfl) (fun _ _ _ h => h) (.inl ⟨by rfl, fun w' hS => ?_⟩) HS ?_
  · go_simp
  try simp only [Act.put]
  refine till_take (i := 3) _ (.slice K k kc) [3] rfl (by kernel_rfl) (by kernel_rfl) (by kernel_rfl) (by kernel_rfl) (fun _ _ _ h => h) (.inl ⟨by rfl, fun w' hS => ?_⟩) HS ?_
  · have g2 := cell_keep H2.out hS
    go_simp
  try simp only [Act.put]
  refine till_take (i := 4) _ (.slice (some ⟨g, 0, none⟩) (M + 2) C) [4] rfl (by kernel_rfl) (by kernel_rfl) (by kernel_rfl) (by kernel_rfl) (fun _ _ _ h => h) (.inl ⟨by rfl, fun w' hS => ?_⟩) HS ?_
  · go_simp
  try simp only [Act.put]
  refine till_take (i := 5) _ (.int .i64 ((M : Int) + 1)) [5] rfl (by kernel_rfl) (by kernel_rfl) (by kernel_rfl) (by kernel_rfl) (fun _ _ _ h => h) (.inl ⟨by rfl, fun w' hS => ?_⟩) HS ?_
  · go_simp
  try simp only [Act.put]
  refine till_take (i := 6) _ (.pointer (some ⟨g, (M + 1) * 3, none⟩)) [6] rfl (by kernel_rfl) (by kernel_rfl) (by kernel_rfl) (by kernel_rfl) (fun _ _ _ h => h) (.inl ⟨by rfl, fun w' hS => ?_⟩) HS ?_
  · go_simp
  try simp only [Act.put]
  refine till_take (i := 7) _ (.agg #[.string xn, .slice xA xa xac, .slice xK xk xkc]) [7] rfl (by kernel_rfl) (by kernel_rfl) (by kernel_rfl) (by kernel_rfl) (fun _ _ _ h => h) (.inl ⟨by rfl, fun w' hS => ?_⟩) HS ?_
  · have g0 := cell_keep H1.out.1 hS
    have g1 := cell_keep H1.out.2.1 hS
    have g2 := cell_keep H1.out.2.2 hS
    go_simp
  try simp only [Act.put]
  refine till_take (i := 8) _ (.int .i64 (k : Int)) [8] rfl (by kernel_rfl) (by kernel_rfl) (by kernel_rfl) (by kernel_rfl) (fun _ _ _ h => h) (.inl ⟨by rfl, fun w' hS => ?_⟩) HS ?_
  · go_simp
  try simp only [Act.put]
  refine till_one (i := 9) _ (by kernel_rfl) rfl rfl (fun K0 hK => ?_)
  go_simp
  have hal : Below wr.heap.size wr (wr.alloc (.cells #[.string ⟨#[]⟩, .slice none 0 0, .slice none 0 0] 25)).drew := ((Below.refl _ _).alloc (Nat.le_refl _) _).drew
  refine hK.out _ _ (fun _ _ => hal) ?_
  try simp only [Act.put, List.setIfInBounds_toArray, List.set_cons_zero, List.set_cons_succ]
  clear hK K0 HS
  refine till_one (i := 10) _ (by kernel_rfl) rfl rfl (fun K0 hK => ?_)
  have hrk := Lib.hid (own_below HRK.out hal)
  refine oper_append_reads _ _ _ 23 rfl B 25 i0 (.agg #[.string ⟨#[]⟩, .slice none 0 0, .slice none 0 0]) 3 64 Tryd.underlying23 hi0 hz0 hz1 hz2 rfl (by decide) (.slice K k kc) k (enc3 fC cs) rfl hrk.out _ (some ⟨wr.heap.size, 0, none⟩) 1 1 [.string ⟨#[]⟩, .slice none 0 0, .slice none 0 0] rfl (reads_new wr #[.string ⟨#[]⟩, .slice none 0 0, .slice none 0 0] 25 1 3 rfl) (by simp [Value.oneCell']) (by unfold maxLen; omega) (by omega) (by have := hal.size; have := HBB.out; omega) ?_
  intro K7 kc7 w7 hrow7 hg7 hor7
  obtain ⟨gk, hK7, hgk1, hgk2, _, hck⟩ := own_cells hrow7 (Nat.succ_pos k)
  subst hK7
  refine hK.out _ _ (fun h _ => absurd rfl h) ?_
  try simp only [Act.put, List.setIfInBounds_toArray]
  clear hK K0
  refine till_switch (by kernel_rfl) ?_
  have hcx : (enc3 fC cs).length = k * 3 := hrk.out.1
  have k0 := hck (k * 3) (.string ⟨#[]⟩) (by rw [List.getElem?_append_right (by omega), hcx, Nat.sub_self]; rfl)
  have k1 := hck (k * 3 + 1) (.slice none 0 0) (by rw [List.getElem?_append_right (by omega), hcx, Nat.add_sub_cancel_left]; rfl)
  have k2 := hck (k * 3 + 2) (.slice none 0 0) (by rw [List.getElem?_append_right (by omega), hcx, Nat.add_sub_cancel_left]; rfl)
  have kf := fun o => World.ownsRow.frozenAt hrow7 o
  clear hcx hck
  refine till_any (i := 11) _ (.pointer (some ⟨gk, k * 3, none⟩)) rfl (by kernel_rfl) (by kernel_rfl) (by kernel_rfl) (fun _ _ _ h => h) (.inl ⟨by rfl, fun w' hS => ?_⟩) ?_
  · go_simp
  try simp only [Act.put]
  refine till_any (i := 13) _ (.pointer (some ⟨g, M * 3, none⟩)) rfl (by kernel_rfl) (by kernel_rfl) (by kernel_rfl) (fun _ _ _ h => h) (.inl ⟨by rfl, fun w' hS => ?_⟩) ?_
  · go_simp
  try simp only [Act.put]
  refine till_any (i := 14) _ (.pointer (some ⟨g, M * 3 + 2, none⟩)) rfl (by kernel_rfl) (by kernel_rfl) (by kernel_rfl) (fun _ _ _ h => h) (.inl ⟨by rfl, fun w' hS => ?_⟩) ?_
  · go_simp
  try simp only [Act.put]
  have HPP := Lib.hid (fun w9 => PInv.ended_mem (w9 := w9) HP.out hal hg7 hrow7 hor7)
  have HNE : Hid (gk ≠ g) := Lib.hid (ended_ne HP.out hal hor7)
  have hgo : w7.cell? ⟨g, M * 3 + 2, none⟩ = some (.slice K k kc) ∧ w7.frozen? ⟨g, M * 3 + 2, none⟩ = false := ended_cell HP.out hal hg7 H2.out
  obtain ⟨q2, qf⟩ := hgo
  clear hg7 hrow7 hor7 hgk1 hgk2 hrk hal
  refine till_two (i := 12) (j := 15) _ _ (by kernel_rfl) rfl rfl rfl rfl (fun K0 hK => ?_) (fun K0 hK => ?_)
  · go_simp
    refine hK.out _ _ ?_
    try simp only [Act.put, List.setIfInBounds_toArray, List.set_cons_zero, List.set_cons_succ]
    clear hK K0
    have r2 := (World.cell?_of_block (a := ⟨g, M * 3 + 2, none⟩) (set3_other w7 gk (k * 3) (k * 3 + 1) (k * 3 + 2) (.string xn) (.slice xA xa xac) (.slice xK xk xkc) g (Ne.symm HNE.out))).trans q2
    have rf := (World.frozen?_of_block (a := ⟨g, M * 3 + 2, none⟩) (set3_other w7 gk (k * 3) (k * 3 + 1) (k * 3 + 2) (.string xn) (.slice xA xa xac) (.slice xK xk xkc) g (Ne.symm HNE.out))).trans qf
    generalize hw8 : ((w7.setCell ⟨gk, k * 3, none⟩ (.string xn)).setCell ⟨gk, k * 3 + 1, none⟩ (.slice xA xa xac)).setCell ⟨gk, k * 3 + 2, none⟩ (.slice xK xk xkc) = w8 at r2 rf ⊢
    have HW8 := Lib.hid hw8
    clear hw8 k0 k1 k2 kf q2 qf
    refine till_one (i := 15) _ (by kernel_rfl) rfl rfl (fun K0 hK => ?_)
    go_simp
    refine hK.out _ _ (fun _ _ => trivial) ?_
    try simp only [Act.put, List.setIfInBounds_toArray, List.set_cons_zero, List.set_cons_succ]
    clear hK K0
    refine till_done (by kernel_rfl) ?_
    go_wp2
    go_ret
    refine ⟨rfl, HPP.out _ (.inl ?_)⟩
    rw [← HW8.out]
  · go_simp
    refine hK.out _ _ ?_
    try simp only [Act.put, List.setIfInBounds_toArray, List.set_cons_zero, List.set_cons_succ]
    clear hK K0
    have r0 := (World.cell?_of_block (a := ⟨gk, k * 3, none⟩) (heap_setCell_other w7 ⟨g, M * 3 + 2, none⟩ gk (.slice (some ⟨gk, 0, none⟩) (k + 1) kc7) HNE.out)).trans k0
    have r1 := (World.cell?_of_block (a := ⟨gk, k * 3 + 1, none⟩) (heap_setCell_other w7 ⟨g, M * 3 + 2, none⟩ gk (.slice (some ⟨gk, 0, none⟩) (k + 1) kc7) HNE.out)).trans k1
    have r2 := (World.cell?_of_block (a := ⟨gk, k * 3 + 2, none⟩) (heap_setCell_other w7 ⟨g, M * 3 + 2, none⟩ gk (.slice (some ⟨gk, 0, none⟩) (k + 1) kc7) HNE.out)).trans k2
    have rf := fun o => (World.frozen?_of_block (a := ⟨gk, o, none⟩) (heap_setCell_other w7 ⟨g, M * 3 + 2, none⟩ gk (.slice (some ⟨gk, 0, none⟩) (k + 1) kc7) HNE.out)).trans (kf o)
    generalize hw8 : w7.setCell ⟨g, M * 3 + 2, none⟩ (.slice (some ⟨gk, 0, none⟩) (k + 1) kc7) = w8 at r0 r1 r2 rf ⊢
    have HW8 := Lib.hid hw8
    clear hw8 k0 k1 k2 kf q2 qf
    refine till_one (i := 12) _ (by kernel_rfl) rfl rfl (fun K0 hK => ?_)
    go_simp
    refine hK.out _ _ (fun _ _ => trivial) ?_
    try simp only [Act.put, List.setIfInBounds_toArray, List.set_cons_zero, List.set_cons_succ]
    clear hK K0
    refine till_done (by kernel_rfl) ?_
    go_wp2
    go_ret
    refine ⟨rfl, HPP.out _ (.inr ?_)⟩
    rw [← HW8.out]
end Go.Proofs.YtlfhhnjdfpgadaaDoor
