/-
  The program's Print and Fit.
-/
import Derived.Test.YtlfhhnjdfpgadaaDoorG24
import Derived.Test.YtlfhhnjdfpgadaaDoorG09
import Derived.Test.YtlfhhnjdfpgadaaDoorG21
import Derived.Test.YtlfhhnjdfpgadaaDoorG04
import Derived.Test.YtlfhhnjdfpgadaaDoorG05
import Derived.Deep.DeepCutAuto
import Derived.Deep.CutBlock
import Derived.Test.YtlfhhnjdfpgadaaDoorG22
namespace Go.Proofs.YtlfhhnjdfpgadaaDoor
open Go.RowKit Go.Shelf
attribute [local go_sem] Oper.semAt_some

theorem its_all (wz : World) (hf : Forms wz) : ∀ d : Nat, d ≤ 12 → ItS wz d := by
  intro d
  induction d with
  | zero => intro h; exact it_succ wz 0 h hf (fun d2 e => (by cases e))
  | succ d ih => intro h; exact it_succ wz (d + 1) h hf (fun d2 e => by injection e with e; subst e; exact ih (by omega))
/-- While lines are gathered. -/
structure Pn (w W : World) (v : Value) (N : Nat) (out : List ByteArray) : Prop where
  b2 : Boxed W (w.heap.size + 1) 9 (.string ⟨#[]⟩)
  bl : Boxed W (w.heap.size + 1 + 1) 45 v
  row : W.ownsRow (w.heap.size + 3) 9 1 v N (encS out)
  bel : Below w.heap.size w W
theorem Pn.own {w w5 W W' : World} {v : Value} {N : Nat} {out : List ByteArray} {row : Option Nat} (h : Pn w W v N out) (hz : w5.heap.size = w.heap.size + 5) (hg : W.grownBy W' row) (hr : ∀ r, row = some r → w5.heap.size ≤ r ∧ ∃ o : Obj, W.heap[r]? = some o ∧ o.isCells = false) : Pn w W' v N out := by
  refine ⟨h.b2.kept hg (fun e => by have := (hr _ e.symm).1; omega), h.bl.kept hg (fun e => by have := (hr _ e.symm).1; omega), own_grown h.row hg (fun g e1 e2 => ?_), h.bel.grown hg h.bel.size (fun b e => by have := (hr b e).1; omega)⟩
  obtain ⟨_, o, ho, hc⟩ := hr g e2
  rcases h.row.2 with ⟨rfl, _⟩ | ⟨g', cap, cur, rfl, _, hh, _⟩
  · cases e1
  · injection e1 with e1
    subst e1
    rw [hh] at ho
    injection ho with ho
    subst ho
    cases hc
/-- A line more. -/
theorem Pn.append {w W w1 : World} {v v' : Value} {n : Nat} {out : List ByteArray} {tmp : Obj} {x : ByteArray} (h : Pn w W v n out) (hown' : w1.ownsRow (w.heap.size + 3) 9 1 v' (n + 1) (encS (out ++ [x]))) (hgrow : (W.alloc tmp).grownBy w1 v.ownBlock) :
    Pn w (w1.setCell ⟨w.heap.size + 1 + 1, 0, none⟩ v') v' (n + 1) (out ++ [x]) ∧ KeepsOthers W (w1.setCell ⟨w.heap.size + 1 + 1, 0, none⟩ v') ∧ KpC w.heap.size W (w1.setCell ⟨w.heap.size + 1 + 1, 0, none⟩ v') ∧ Boxed w1 (w.heap.size + 1 + 1) 45 v := by
  have hge := own_row_ge h.row
  have b2 := (h.b2.alloc tmp).kept hgrow (fun e => by have := hge _ e.symm; omega)
  have bl := (h.bl.alloc tmp).kept hgrow (h.bl.not_row (by decide) h.row)
  have hb1 : Below w.heap.size W w1 := ((Below.refl _ W).alloc h.bel.size tmp).grown hgrow (by have := h.bel.size; simp; omega) (fun k e => by have := hge k e; omega)
  have hset : ∀ k, k ≠ w.heap.size + 1 + 1 → (w1.setCell ⟨w.heap.size + 1 + 1, 0, none⟩ v').heap[k]? = w1.heap[k]? := fun k hk => Below.heap_setCell w1 ⟨w.heap.size + 1 + 1, 0, none⟩ v' k hk
  refine ⟨⟨(hset _ (by omega)).trans b2, bl.set v', hown'.kept (grownBy_setCell' w1 _ v') (.inr (bl.not_row (by decide) hown').symm), h.bel.trans (hb1.setCell (p := ⟨w.heap.size + 1 + 1, 0, none⟩) (by show w.heap.size ≤ w.heap.size + 1 + 1; omega) v')⟩, ?_, ⟨hb1.setCell (p := ⟨w.heap.size + 1 + 1, 0, none⟩) (by show w.heap.size ≤ w.heap.size + 1 + 1; omega) v', fun k c t f hk ht => ?_⟩, bl⟩
  · refine ((KeepsOthers.alloc W tmp).trans (KeepsOthers.of_grownBy hgrow fun j o ej hj => ?_)).trans (KeepsOthers.setCell _ _ _)
    rcases (own_alloc h.row tmp).2 with ⟨rfl, _⟩ | ⟨g, cap, cur, rfl, _, hgb, _⟩
    · simp [Value.ownBlock] at ej
    · obtain rfl : j = g := by simpa [Value.ownBlock] using ej.symm
      rw [hj] at hgb
      injection hgb with hgb
      rw [hgb]; rfl
  · have hkl := (Array.getElem?_eq_some_iff.1 hk).1
    have hk2 : k ≠ w.heap.size + 1 + 1 := fun e => by
      subst e
      have := h.bl
      unfold Boxed at this
      rw [hk] at this
      injection this with this
      injection this with _ this
      subst this
      rcases ht with h | h | h | h <;> exact absurd h (by decide)
    rw [hset k hk2, hgrow.block k (by simp; omega) (fun e => ?_), Below.heap_alloc W tmp k hkl]
    rcases h.row.2 with ⟨rfl, _⟩ | ⟨g, cap, cur, rfl, _, hgb, _⟩
    · cases e
    · injection e with e
      subst e
      rw [hk] at hgb
      injection hgb with hgb
      injection hgb with _ hgb
      subst hgb
      rcases ht with h | h | h | h <;> exact absurd h (by decide)
theorem fit_prn (c : CM) : decide (prnC c = []) = !fitT c := by
  unfold prnC
  cases h : fitT c with
  | false => simp
  | true =>
    rw [if_pos rfl]
    have hne : foldL (linesC c) ≠ [] := by
      cases c with
      | mk nm ps cs =>
        intro e
        rw [linesC] at e
        unfold foldL at e
        rw [List.flatMap_cons] at e
        have e1 := (List.append_eq_nil_iff.1 e).1
        unfold lineF at e1
        exact absurd (List.append_eq_nil_iff.1 e1).2 (by simp)
    simp [hne]
def PnI (w : World) (pre : List Ln) (W : World) : Prop := ∃ v, Pn w W v pre.length (pre.map fun x => x.1) ∧ pre.length ≤ 400 ∧ [] ∉ lnT pre
def PnX (w : World) (cc : Code) (pre : List Ln) (W : World) : Prop := cc = .ret ∧ ([] ∈ lnT pre ∨ 400 < pre.length) ∧ Boxed W (w.heap.size + 1) 9 (.string ⟨#[]⟩) ∧ Below w.heap.size w W
theorem load_st {w : World} {g : Nat} {v : Value} (h : Boxed w g 9 v) : (Go.loadVar 9 ⟨g, 0, none⟩).run Tryd.prog w = .ok v w := by
  have a0 := h.cell
  unfold loadVar
  go_simp
theorem lnT_len (xs : List Ln) : (lnT xs).length = xs.length := by unfold lnT; rw [List.length_map]
/-- What is told of what has come. -/
theorem prn_bad {c : CM} {q : List (List UInt8)} (hq : q <+: seqP 12 c) (h : [] ∈ q ∨ 400 < q.length) : prnC c = [] := by
  unfold prnC
  rw [if_neg]
  intro hf
  unfold fitT at hf
  simp only [Bool.and_eq_true, decide_eq_true_eq] at hf
  obtain ⟨h1, h2, h3⟩ := hf
  obtain ⟨e1, e2⟩ := (seq_fit 12 c).1 h1
  rcases h with h | h
  · exact e2 (hq.subset h)
  · have := hq.length_le
    rw [e1] at this
    omega
theorem prn_good {c : CM} {q : List (List UInt8)} (hq : q = seqP 12 c) (h : [] ∉ q) (hl : q.length ≤ 400) : q = linesC c ∧ prnC c = if 8192 < (foldL q).length then [] else foldL q := by
  have hf : fitC 12 c = true := by
    cases hx : fitC 12 c with
    | true => rfl
    | false => exact absurd ((seq_fit 12 c).2 hx) (by rw [← hq]; exact h)
  have e := ((seq_fit 12 c).1 hf).1
  rw [← hq] at e
  refine ⟨e, ?_⟩
  unfold prnC fitT
  rw [hf, ← e]
  by_cases h3 : 8192 < (foldL q).length
  · rw [if_pos h3, decide_eq_true hl, decide_eq_false (by omega)]; simp
  · rw [if_neg h3, decide_eq_true hl, decide_eq_true (by omega)]; simp
set_option maxRecDepth 100000 in
set_option maxHeartbeats 8000000 in
theorem cPrint_x (r : CR) (w : World) (hM : csize r ≤ 1048576) (hC : COk w w.heap.size r) (hf : Forms w) : Calls Tryd.prog 7 #[.agg #[(fC r).1, (fC r).2.1, (fC r).2.2]] w fun e w' => e = .returned (.string ⟨(prnC (compOf r)).toArray⟩) ∧ Below w.heap.size w w' := by
  obtain ⟨nm, A, n, c, qs, K, k, kc, cs⟩ := r
  show Calls Tryd.prog 7 #[.agg #[.string nm, .slice A n c, .slice K k kc]] w _
  have HI := Lib.hid (its_all w hf 12 (Nat.le_refl _))
  have HC := Lib.hid hC
  have HM := Lib.hid hM
  have HF := Lib.hid hf
  clear hM hC hf
  refine (callsIn_wide (n := 3)).1 ?_
  refine callsIn_of_wp_marks Tryd.func7 rfl trivial ?_ rfl
  simp only [Tryd.ntmps7, List.size_toArray, List.length_cons, List.length_nil, Nat.reduceAdd, Nat.reduceSub, Array.replicate_succ, Array.replicate_zero, List.push_toArray, List.append_toArray, List.nil_append, List.cons_append]
  gi_wp2_with fail
  refine ⟨trivial, (linesFn_in 2 _ _ _ _ _ _ _ _ _).mono ?_⟩
  rintro e w' ⟨rfl, rfl⟩
  gi_wp2
  have hW1 : ∃ w5, ((((w.alloc (.cells #[.string nm, .slice A n c, .slice K k kc] 25)).alloc (.cells #[.string ⟨#[]⟩] 9)).alloc (.cells #[.slice none 0 0] 45)).alloc (.cells #[.string nm, .slice A n c, .slice K k kc] 25)).alloc (.cells #[.int .i64 12] 3) = w5 := ⟨_, rfl⟩
  obtain ⟨w5, hw5⟩ := hW1
  have hz5 : w5.heap.size = w.heap.size + 5 := by rw [← hw5]; simp
  have hbel5 : Below w.heap.size w w5 := by
    rw [← hw5]
    exact ((((((Below.refl _ w).alloc (Nat.le_refl _) _).alloc (by simp) _).alloc (by simp; omega) _).alloc (by simp; omega) _).alloc (by simp; omega) _)
  have hb2 : Boxed w5 (w.heap.size + 1) 9 (.string ⟨#[]⟩) := by
    rw [← hw5]
    have := Boxed.new (w.alloc (.cells #[.string nm, .slice A n c, .slice K k kc] 25)) 9 (.string ⟨#[]⟩)
    rw [World.size_alloc] at this
    exact ((this.alloc _).alloc _).alloc _
  have hbl : Boxed w5 (w.heap.size + 1 + 1) 45 (.slice none 0 0) := by
    rw [← hw5]
    have := Boxed.new ((w.alloc (.cells #[.string nm, .slice A n c, .slice K k kc] 25)).alloc (.cells #[.string ⟨#[]⟩] 9)) 45 (.slice none 0 0)
    rw [World.size_alloc, World.size_alloc] at this
    exact (this.alloc _).alloc _
  have hBc : C3 w5 (w.heap.size + 1 + 1 + 1) nm A n c K k kc := by
    rw [← hw5]
    have := (C3.new (((w.alloc (.cells #[.string nm, .slice A n c, .slice K k kc] 25)).alloc (.cells #[.string ⟨#[]⟩] 9)).alloc (.cells #[.slice none 0 0] 45)) nm A n c K k kc).step ((Below.refl _ _).alloc (Nat.le_refl _) (.cells #[.int .i64 12] 3))
    simpa using this
  have hBd : w5.heap[w.heap.size + 1 + 1 + 1 + 1]? = some (.cells #[.int .i64 ((12 : Nat) : Int)] 3 (0, 0)) := by
    rw [← hw5]
    have := heap_alloc_new ((((w.alloc (.cells #[.string nm, .slice A n c, .slice K k kc] 25)).alloc (.cells #[.string ⟨#[]⟩] 9)).alloc (.cells #[.slice none 0 0] 45)).alloc (.cells #[.string nm, .slice A n c, .slice K k kc] 25)) (.cells #[.int .i64 12] 3)
    simpa using this
  rw [hw5]
  have SQ := Lib.hid (HI.out nm A n c qs K k kc cs w5 (w.heap.size + 1 + 1 + 1 + 1) (w.heap.size + 1 + 1 + 1) HM.out HC.out hbel5 hBd hBc)
  have P0 := Lib.hid (show PnI w [] w5 from ⟨_, ⟨hb2, hbl, own_nil, hbel5⟩, Nat.zero_le _, by simp [lnT]⟩)
  have HZ5 := Lib.hid hz5
  clear hw5 hbel5 hb2 hbl hBc hBd hz5
  refine rangeFunc_rec rfl (enters_of Tryd.func24 (by kernel_rfl) rfl) SQ.out KpC.trans (fun W o o' h1 h2 => kpC_put (by have := HZ5.out; omega) W o o' h1 h2) (Below.refl _ _) (fun _ => rfl)
    (PnI w) (PnX w) ?own1 ?own2 P0.out (fun x => { tmps := #[.agg #[.string nm, .slice A n c, .slice K k kc], .pointer (some ⟨w.heap.size, 0, none⟩), .pointer (some ⟨w.heap.size + 1, 0, none⟩), .pointer (some ⟨w.heap.size + 1 + 1, 0, none⟩), .string x.1, undef, .agg #[.string nm, .slice A n c, .slice K k kc], .func (.func 24) #[] #[.pointer (some ⟨w.heap.size + 1 + 1 + 1 + 1, 0, none⟩), .pointer (some ⟨w.heap.size + 1 + 1 + 1, 0, none⟩)], .string x.1, undef, undef, undef, undef, undef, undef, undef, undef, undef, undef, undef, undef, undef, undef, undef, undef, undef], defers := [] }) ?assign ?body ?done ?stop
  case own1 =>
    rintro pre X1 X2 row ⟨v, h1, h2, h3⟩ hg hr
    exact ⟨v, h1.own HZ5.out hg hr, h2, h3⟩
  case own2 =>
    rintro cc pre X1 X2 row ⟨h1, h2, h3, h4⟩ hg hr
    exact ⟨h1, h2, h3.kept hg (fun e => by have := (hr _ e.symm).1; have := HZ5.out; omega), h4.grown hg h4.size (fun b e => by have := (hr b e).1; have := HZ5.out; omega)⟩
  case assign =>
    intro l2 x W K2 hK2
    gi_wp2
    exact hK2
  case body =>
    rintro l2 pre x W ⟨v, hP, hl, hne⟩
    have HP := Lib.hid hP
    have HNE := Lib.hid hne
    obtain ⟨xs, hxs⟩ : ∃ xs, x.1 = xs := ⟨_, rfl⟩
    have HXS := Lib.hid hxs
    have hx2 := x.2
    rw [hxs] at hx2 ⊢
    have cb := hP.b2.cell
    have fb := hP.b2.frozen
    have cl := hP.bl.cell
    obtain ⟨R, C, rfl, _⟩ := own_slice hP.row
    have fx := strEqL xs ⟨#[]⟩
    have t1 : (⟨#[]⟩ : ByteArray).toList = [] := by simp
    have t2 : (⟨#[]⟩ : ByteArray).data.toList = [] := rfl
    rw [t1, t2] at fx
    clear hP hne hxs t1 t2
    by_cases hx0 : xs.data.toList = []
    · have HX0 := Lib.hid hx0
      rw [decide_eq_true hx0] at fx
      clear hx0
      gi_wp2
      exact ⟨(KeepsOthers.setCell _ _ _).from _, rfl, .inl (by rw [lnT_app]; refine List.mem_append_right _ ?_; show [] ∈ [x.1.data.toList]; rw [HXS.out, HX0.out]; simp), HP.out.b2.set _, HP.out.bel.setCell (p := ⟨w.heap.size + 1, 0, none⟩) (by show w.heap.size ≤ w.heap.size + 1; omega) _⟩
    · rw [decide_eq_false hx0] at fx
      have HX0 := Lib.hid hx0
      clear hx0
      by_cases h4 : pre.length = 400
      · have k4 : ((pre.length : Int) == 400) = true := by rw [beq_iff_eq]; omega
        have H4 := Lib.hid h4
        clear h4
        gi_wp2
        exact ⟨(KeepsOthers.setCell _ _ _).from _, rfl, .inr (by rw [List.length_append, H4.out]; simp), HP.out.b2.set _, HP.out.bel.setCell (p := ⟨w.heap.size + 1, 0, none⟩) (by show w.heap.size ≤ w.heap.size + 1; omega) _⟩
      · have k4 : ((pre.length : Int) == 400) = false := by rw [beq_eq_false_iff_ne]; omega
        have H4 := Lib.hid h4
        clear h4
        obtain ⟨i0, hi0, hy0, hy1, hy2⟩ := info_parts infoStr
        have hrow := HP.out.row
        have hzW : w.heap.size + 3 ≤ W.heap.size := by have := HP.out.bl.lt; omega
        gi_wp2_with (gi_at_builtin; refine wpListIn_append_own _ rfl (.tmp 16) (.tmp 18) 45 rfl (w.heap.size + 3) 9 i0 (.string ⟨#[]⟩) 1 16 Tryd.underlying45 hi0 hy0 hy1 hy2 rfl (by decide) _ _ _ rfl (hrow.alloc _) ⟨W.heap.size, 0, none⟩ 1 1 [.string xs] rfl rfl (cell_one_new _ _ _) (by simp [Value.oneCell']) (by unfold maxLen; omega) (by omega) (by simp; omega) ?_; intro v' w2 hown' hgrow _; obtain ⟨g', cap', rfl⟩ := ownsRow_succ hown'; obtain ⟨hU2, hk2, hb2, hv1⟩ := HP.out.append (x := xs) (by rw [encS_snoc]; exact hown') hgrow; have hc1 := hv1.cell; have hf1 := hv1.frozen)
        exact ⟨hk2.from _, hb2, _, by rw [List.length_append, List.length_singleton, List.map_append, List.map_singleton, HXS.out]; exact hU2, by rw [List.length_append, List.length_singleton]; have := H4.out; omega, by rw [lnT_app]; intro hm; rcases List.mem_append.1 hm with hm | hm; exact HNE.out hm; exact HX0.out (by have := List.mem_singleton.1 (show [] ∈ [x.1.data.toList] from hm); rw [HXS.out] at this; exact this.symm)⟩
  case stop =>
    rintro D cc pre W hD hSp ⟨rfl, h1, h2, h3⟩ hK
    have HE := Lib.hid (prn_bad hSp (by rw [lnT_len]; exact h1))
    have HD := Lib.hid (show w.heap.size + 1 < D by have := HZ5.out; omega)
    have HX := Lib.hid (And.intro h2 (And.intro h3 hK))
    clear h1 h2 h3 hK hSp hD
    gi_wp2
    refine ⟨by simp, .inl ⟨_, _, rfl, run_takeDeferred HX.out.2.2, ?_⟩⟩
    refine ⟨_, results_one rfl _ rfl (load_st (g := w.heap.size + 1) ((World.putObj_heap_other (by have := HD.out; omega)).trans HX.out.1)), by rw [HE.out], HX.out.2.1.trans (belowD_put (by have := HD.out; omega) (Array.getElem?_eq_some_iff.1 HX.out.2.2).1)⟩
  case done =>
    rintro D ys W hD hys ⟨v, hP, hl, hne⟩ hK
    obtain ⟨R, C, rfl, hRC, hCm⟩ := own_slice hP.row
    have HD := Lib.hid (show w.heap.size + 1 < D by have := HZ5.out; omega)
    have HE := Lib.hid (prn_good hys hne (by rw [lnT_len]; exact hl))
    have hvs : vsize (ys.map fun x => x.1) ≤ 1048576 := by
      have key : ∀ l : List Ln, vsize (l.map fun x => x.1) ≤ 2001 * l.length := by
        intro l
        induction l with
        | nil => simp [vsize]
        | cons x l ih =>
          have := x.2
          unfold vsize at ih ⊢
          simp only [List.map_cons, List.sum_cons, List.length_cons] at ih ⊢
          omega
      have := key ys
      omega
    have cf := pFold_x R ys.length C (ys.map fun x => x.1) W (Reads.of_own hP.row) hRC hCm hvs
    have hmm : ((ys.map fun x => x.1).map fun b => b.data.toList) = lnT ys := by rw [List.map_map]; rfl
    rw [hmm] at cf
    have cl := hP.bl.cell
    have HP := Lib.hid hP
    have HK := Lib.hid hK
    clear hP hK hRC hCm hvs hmm hne hys hD
    gi_wp2_with fail
    refine ⟨trivial, (callsIn_wide.2 cf).mono ?_⟩
    rintro e w6 ⟨rfl, hb6⟩
    have B6 := Lib.hid (show Boxed w6 (w.heap.size + 1) 9 (.string ⟨#[]⟩) from (hb6.block _ HP.out.b2.lt).trans HP.out.b2)
    have HK6 := Lib.hid ((hb6.block D (Array.getElem?_eq_some_iff.1 HK.out).1).trans HK.out)
    have HB6 := Lib.hid (bstep HP.out.bel hb6)
    have cb := B6.out.cell
    have fb := B6.out.frozen
    have hsz : (⟨(foldL (lnT ys)).toArray⟩ : ByteArray).size = (foldL (lnT ys)).length := by show (foldL (lnT ys)).toArray.size = _; simp
    obtain ⟨z, hz⟩ : ∃ z, foldL (lnT ys) = z := ⟨_, rfl⟩
    rw [hz] at hsz HE ⊢
    clear cf hb6 hz cl
    by_cases h8 : 8192 < z.length
    · have h8i : (8192 : Int) < ((⟨z.toArray⟩ : ByteArray).size : Int) := by rw [hsz]; omega
      have h8j : (8192 : Int) < (z.length : Int) := by omega
      have HE2 := Lib.hid (HE.out.2.trans (if_pos h8))
      clear hsz h8
      gi_wp2
      refine ⟨by simp, .inl ⟨_, _, rfl, run_takeDeferred ((Below.heap_setCell w6 ⟨w.heap.size + 1, 0, none⟩ _ D (by have := HD.out; show D ≠ w.heap.size + 1; omega)).trans HK6.out), ?_⟩⟩
      refine ⟨_, results_one rfl _ rfl (load_st (g := w.heap.size + 1) ((World.putObj_heap_other (by have := HD.out; omega)).trans (B6.out.set _))), by rw [HE2.out], (HB6.out.setCell (p := ⟨w.heap.size + 1, 0, none⟩) (by show w.heap.size ≤ w.heap.size + 1; omega) _).trans (belowD_put (by have := HD.out; omega) (by have := (Array.getElem?_eq_some_iff.1 HK6.out).1; simpa using this))⟩
    · have h8i : ¬ (8192 : Int) < ((⟨z.toArray⟩ : ByteArray).size : Int) := by rw [hsz]; omega
      have h8j : ¬ (8192 : Int) < (z.length : Int) := by omega
      have HE2 := Lib.hid (HE.out.2.trans (if_neg h8))
      clear hsz h8
      gi_wp2
      refine ⟨by simp, .inl ⟨_, _, rfl, run_takeDeferred ((Below.heap_setCell w6 ⟨w.heap.size + 1, 0, none⟩ _ D (by have := HD.out; show D ≠ w.heap.size + 1; omega)).trans HK6.out), ?_⟩⟩
      refine ⟨_, results_one rfl _ rfl (load_st (g := w.heap.size + 1) ((World.putObj_heap_other (by have := HD.out; omega)).trans (B6.out.set _))), by rw [HE2.out], (HB6.out.setCell (p := ⟨w.heap.size + 1, 0, none⟩) (by show w.heap.size ≤ w.heap.size + 1; omega) _).trans (belowD_put (by have := HD.out; omega) (by have := (Array.getElem?_eq_some_iff.1 HK6.out).1; simpa using this))⟩
set_option maxRecDepth 100000 in
theorem cFit_x (r : CR) (w : World) (hM : csize r ≤ 1048576) (hC : COk w w.heap.size r) (hf : Forms w) : Calls Tryd.prog 10 #[.agg #[(fC r).1, (fC r).2.1, (fC r).2.2]] w fun e w' => e = .returned (.bool (fitT (compOf r))) ∧ Below w.heap.size w w' := by
  have hb1 : ∀ nm A n c K k kc, Below w.heap.size w (w.alloc (.cells #[.string nm, .slice A n c, .slice K k kc] 25)) := fun nm A n c K k kc => (Below.refl _ w).alloc (Nat.le_refl _) _
  obtain ⟨nm, A, n, c, qs, K, k, kc, cs⟩ := r
  have cp := cPrint_x (.mk nm A n c qs K k kc cs) _ hM (hC.step (hb1 nm A n c K k kc)) (hf.step (hb1 nm A n c K k kc))
  have HB := Lib.hid (hb1 nm A n c K k kc)
  obtain ⟨x0, x1, x2⟩ := (C3.new w nm A n c K k kc).cells
  have HT := Lib.hid (fit_prn (compOf (.mk nm A n c qs K k kc cs)))
  generalize prnC (compOf (.mk nm A n c qs K k kc cs)) = z at cp HT
  obtain ⟨b, hb⟩ : ∃ b, fitT (compOf (.mk nm A n c qs K k kc cs)) = b := ⟨_, rfl⟩
  rw [hb] at HT ⊢
  have HZ := Lib.hid (show (!z.isEmpty) = b by have := HT.out; cases z <;> cases b <;> simp_all)
  clear hM hC hf hb1 hb
  simp only [fC] at cp
  show Calls Tryd.prog 10 #[.agg #[.string nm, .slice A n c, .slice K k kc]] w _
  go_enter Tryd.func10, Tryd.ntmps10
  go_wp2_with (go_at_call 7; refine cp.mono ?_; rintro e w2 ⟨rfl, hb2⟩)
  go_ret
  exact ⟨by rw [← HZ.out]; rfl, bstep HB.out hb2⟩
end Go.Proofs.YtlfhhnjdfpgadaaDoor

/-
  The program's functions of layer 11: lists of texts, parameters, and properties, that are the same.
-/
namespace Go.Proofs.YtlfhhnjdfpgadaaDoor
open Go.RowKit

end Go.Proofs.YtlfhhnjdfpgadaaDoor

/-
  The program's Same: two components, their properties, and their components, one by one.
-/
namespace Go.Proofs.YtlfhhnjdfpgadaaDoor
open Go.RowKit

def dec3 (a b : List Pro) : Bool := decide (a = b)
noncomputable def eqCs (a b : List CM) : Bool := @decide (a = b) (Classical.propDecidable _)
theorem eqCs_true {a b : List CM} (h : a = b) : eqCs a b = true := by unfold eqCs; exact @decide_eq_true _ (Classical.propDecidable _) h
theorem eqCs_false {a b : List CM} (h : a ≠ b) : eqCs a b = false := by unfold eqCs; exact @decide_eq_false _ (Classical.propDecidable _) h
theorem rowsC_ne {l l2 : List CR} (h : l.length ≠ l2.length ∨ ∃ (i : Nat) (r q : CR), l[i]? = some r ∧ l2[i]? = some q ∧ compOf r ≠ compOf q) : eqCs (l.map compOf) (l2.map compOf) = false := by
  refine eqCs_false fun e => ?_
  rcases h with h | ⟨i, r, q, h1, h2, h3⟩
  · have := congrArg List.length e
    simp only [List.length_map] at this
    exact h this
  · have := congrArg (·[i]?) e
    simp only [List.getElem?_map, h1, h2, Option.map_some, Option.some.injEq] at this
    exact h3 this
theorem eqC_mk (a a' : List UInt8) (b b' : List Pro) (c c' : List CM) : eqC (.mk a b c) (.mk a' b' c') = ((decide (a = a') && dec3 b b') && eqCs c c') := by
  rw [Bool.eq_iff_iff, eqC_iff, CM.mk.injEq]
  unfold dec3 eqCs
  simp only [Bool.and_eq_true, decide_eq_true_eq]
  exact ⟨fun h => ⟨⟨h.1, h.2.1⟩, h.2.2⟩, fun h => ⟨h.1.1, h.1.2, h.2⟩⟩

end Go.Proofs.YtlfhhnjdfpgadaaDoor

/-
  Whether a component has at most 5000 parts: some answer.
-/
namespace Go.Proofs.YtlfhhnjdfpgadaaDoor
open Go.RowKit

set_option maxRecDepth 100000 in
set_option maxHeartbeats 1000000 in
theorem small_any : ∀ (N : Nat) (r : CR) (left : Int) (w : World), csize r ≤ N → COk w w.heap.size r → 0 ≤ left → left ≤ 5000 →
    Calls Tryd.prog 12 #[.agg #[(fC r).1, (fC r).2.1, (fC r).2.2], .int .i64 left] w fun e w' => (∃ v : Int, e = .returned (.int .i64 v) ∧ -9223372036854775808 ≤ v ∧ v ≤ 5000) ∧ Below w.heap.size w w'
  | 0, .mk nm A n c qs K k kc cs, left, w, hN, _, _, _ => absurd hN (by simp [csize])
  | N + 1, .mk nm A n c qs K k kc cs, left, w, hN, hC, h0, h5 => by
    have HA := Lib.hid (CA.new hC)
    have HB : Hid (Below w.heap.size w (w.alloc (.cells #[.string nm, .slice A n c, .slice K k kc] 25))) := Lib.hid ((Below.refl _ w).alloc (Nat.le_refl _) _)
    have HN : Hid (csizes cs ≤ N) := Lib.hid (by rw [csize] at hN; omega)
    have IH := Lib.hid (small_any N)
    have hn : n ≤ 9223372036854775807 := by have := hC.nle; unfold maxLen at this; omega
    have hk : k ≤ 9223372036854775807 := by have := hC.kle; unfold maxLen at this; omega
    have HLQ := Lib.hid hC.rq.len3
    have HLC := Lib.hid hC.rc.len3
    clear hC hN
    show Calls Tryd.prog 12 #[.agg #[.string nm, .slice A n c, .slice K k kc], .int .i64 left] w _
    go_enter Tryd.func12, Tryd.ntmps12
    obtain ⟨p0, p1, p2⟩ := HA.out.bx.cells
    generalize hW : w.alloc (.cells #[.string nm, .slice A n c, .slice K k kc] 25) = w1 at *
    go_upto_block 0 with fail
    clear hW
    go_cut [1] (fun s1 wc => wc = w1 ∧ ∃ v : Int, s1 = .int .i64 v ∧ -9223372036854775808 ≤ v ∧ v ≤ 5000)
    case first =>
      go_wp2
      go_loopw [1, 5, 6] (fun s1 s5 s6 wr => ∃ (v : Int) (i : Nat), s1 = .int .i64 v ∧ s5 = .int .i64 i ∧ i ≤ n ∧ -9223372036854775808 ≤ v ∧ v ≤ 5000 ∧ wr = w1) (fun _ s5 _ _ => n - (intOf s5).toNat)
      case atStart => exact ⟨left - 1, 0, by first | rfl | go_num, rfl, Nat.zero_le _, by omega, by omega, rfl⟩
      case round =>
        obtain ⟨v, i, rfl, rfl, hi, hv1, hv2, rfl⟩ := hrel
        by_cases hlt : i < n
        · by_cases hv : 0 ≤ v
          · obtain ⟨q, hq⟩ : ∃ q, qs[i]? = some q := ⟨qs[i]'(by have := HLQ.out; omega), List.getElem?_eq_getElem (by have := HLQ.out; omega)⟩
            obtain ⟨b, o, hAe, q0, q1, q2⟩ := HA.out.atQ hq
            have HQ := Lib.hid (HA.out.ok.vq q (List.mem_of_getElem? hq))
            have hqn : q.n ≤ 9223372036854775807 := by have := HQ.out.le; have := HQ.out.cap; unfold maxLen at this; omega
            clear hq
            rw [hAe] at p1
            clear hAe
            go_wp2
            go_loopw [1, 6] (fun s1 s6 wr2 => ∃ (v : Int) (j : Nat), s1 = .int .i64 v ∧ s6 = .int .i64 j ∧ j ≤ q.n ∧ -9223372036854775808 ≤ v ∧ v ≤ 5000 ∧ wr2 = wr) (fun _ s6 _ => q.n - (intOf s6).toNat)
            case atStart => exact ⟨v - 1 - q.n, 0, by first | rfl | go_num, rfl, Nat.zero_le _, by omega, by omega, rfl⟩
            case round =>
              obtain ⟨v2, j, rfl, rfl, hj, hv3, hv4, rfl⟩ := hrel
              by_cases hjl : j < q.n
              · by_cases hv5 : 0 ≤ v2
                · obtain ⟨r, hr⟩ : ∃ r, q.ps[j]? = some r := ⟨q.ps[j]'(by have := HQ.out.rd.1; rw [encP_length] at this; omega), List.getElem?_eq_getElem (by have := HQ.out.rd.1; rw [encP_length] at this; omega)⟩
                  obtain ⟨b2, o2, hLe, _, r0, r1⟩ := HQ.out.rd.par hr
                  have hPO := HQ.out.vs r (List.mem_of_getElem? hr)
                  have hrk : r.k ≤ 9223372036854775807 := by have := hPO.le; have := hPO.cap; unfold maxLen at this; omega
                  clear hr hPO
                  rw [hLe] at q1
                  clear hLe
                  go_wp2
                  go_round
                  case rel => exact ⟨v2 - r.k, j + 1, by first | rfl | go_num, by go_num, by omega, by omega, by omega, by first | rfl | trivial⟩
                  case measure => simp [intOf]; omega
                · have hv6 : v2 < 0 := by omega
                  go_wp2
                  go_round
                  case rel => exact ⟨v2, i + 1, rfl, by go_num, by omega, by omega, by omega, by first | rfl | trivial⟩
                  case measure => simp [intOf]; omega
              · go_wp2
                go_round
                case rel => exact ⟨v2, i + 1, rfl, by go_num, by omega, by omega, by omega, by first | rfl | trivial⟩
                case measure => simp [intOf]; omega
          · have hv6 : v < 0 := by omega
            go_wp2
            go_meet
            exact ⟨rfl, v, rfl, hv1, hv2⟩
        · go_wp2
          go_meet
          exact ⟨rfl, v, rfl, hv1, hv2⟩
    case rest =>
      obtain ⟨rfl, v, rfl, hv1, hv2⟩ := hcut
      have HJ := Lib.hid (And.intro HA.out HB.out)
      clear HA HB p0 p1 p2 HLQ hn
      go_wp2
      go_loopw [1, 7] (fun s1 s7 wr => ∃ (v : Int) (i : Nat), s1 = .int .i64 v ∧ s7 = .int .i64 i ∧ i ≤ k ∧ -9223372036854775808 ≤ v ∧ v ≤ 5000 ∧ Hid (CA wr w.heap.size nm A n c qs K k kc cs ∧ Below w.heap.size w wr)) (fun _ s7 _ => k - (intOf s7).toNat)
      case atStart => exact ⟨v, 0, rfl, rfl, Nat.zero_le _, hv1, hv2, HJ⟩
      case round =>
        clear HJ
        obtain ⟨v, i, rfl, rfl, hi, hv1, hv2, HJ⟩ := hrel
        obtain ⟨p0, p1, p2⟩ := HJ.out.1.bx.cells
        by_cases hlt : i < k
        · by_cases hv : 0 ≤ v
          · obtain ⟨x, hx⟩ : ∃ x, cs[i]? = some x := ⟨cs[i]'(by have := HLC.out; omega), List.getElem?_eq_getElem (by have := HLC.out; omega)⟩
            obtain ⟨b, o, hKe, q0, q1, q2⟩ := HJ.out.1.atC hx
            have hm := List.mem_of_getElem? hx
            have HX := Lib.hid (And.intro (Nat.le_trans (csize_mem hm) HN.out) (HJ.out.1.ok.vc x hm))
            clear hx hm
            rw [hKe] at p2
            clear hKe
            go_wp2_with fail
            refine (IH.out x v _ HX.out.1 HX.out.2 hv hv2).mono ?_
            rintro e w2 ⟨⟨v2, rfl, hv3, hv4⟩, hb2⟩
            have HJ2 := Lib.hid (And.intro (HJ.out.1.step hb2) (bstep HJ.out.2 hb2))
            clear hb2
            go_wp2
            go_round
            case rel => exact ⟨v2, i + 1, rfl, by go_num, by omega, hv3, hv4, HJ2⟩
            case measure => simp [intOf]; omega
          · have hv6 : v < 0 := by omega
            go_wp2
            go_ret
            exact ⟨⟨v, rfl, hv1, hv2⟩, HJ.out.2⟩
        · go_wp2
          go_ret
          exact ⟨⟨v, rfl, hv1, hv2⟩, HJ.out.2⟩

/-- Some answer, and what lay before. -/
theorem light_any (r : CR) (w : World) (hC : COk w w.heap.size r) : Calls Tryd.prog 5 #[.agg #[(fC r).1, (fC r).2.1, (fC r).2.2]] w fun e w' => (∃ b : Bool, e = .returned (.bool b)) ∧ Below w.heap.size w w' := by
  obtain ⟨nm, A, n, c, qs, K, k, kc, cs⟩ := r
  have HA := Lib.hid (CA.new hC)
  have HB : Hid (Below w.heap.size w (w.alloc (.cells #[.string nm, .slice A n c, .slice K k kc] 25))) := Lib.hid ((Below.refl _ w).alloc (Nat.le_refl _) _)
  clear hC
  show Calls Tryd.prog 5 #[.agg #[.string nm, .slice A n c, .slice K k kc]] w _
  go_enter Tryd.func5, Tryd.ntmps5
  obtain ⟨p0, p1, p2⟩ := HA.out.bx.cells
  go_wp2_with fail
  refine (small_any _ _ 5000 _ (Nat.le_refl _) HA.out.ok (by omega) (by omega)).mono ?_
  rintro e w2 ⟨⟨v2, rfl, hv3, hv4⟩, hb2⟩
  go_wp2
  go_ret
  exact ⟨⟨_, rfl⟩, bstep HB.out hb2⟩

end Go.Proofs.YtlfhhnjdfpgadaaDoor

/-
  The program's functions of layer 12 under one shape: what each answers, and that it leaves what lay before. CV: what the listed variables hold.
-/
namespace Go.Proofs.YtlfhhnjdfpgadaaDoor
open Go.RowKit

structure CV (w : World) : Prop where
  forms : Forms w
  max : MaxLn w
theorem CV.step {w w' : World} (h : CV w) (hb : Below w.heap.size w w') : CV w' := ⟨h.forms.step hb, h.max.step hb⟩
theorem cParse_any (s : ByteArray) (hs : s.size ≤ 1048576) (w : World) (hv : CV w) : Calls Tryd.prog 8 #[.string s] w (CParAns s w) := cParse_x s w hs hv.forms hv.max
theorem cFit_any (r : CR) (w : World) (hM : csize r ≤ 1048576) (hC : COk w w.heap.size r) (hv : CV w) : Calls Tryd.prog 10 #[.agg #[(fC r).1, (fC r).2.1, (fC r).2.2]] w fun e w' => e = .returned (.bool (fitT (compOf r))) ∧ Below w.heap.size w w' := cFit_x r w hM hC hv.forms
theorem cPrint_any (r : CR) (w : World) (hM : csize r ≤ 1048576) (hC : COk w w.heap.size r) (hv : CV w) : Calls Tryd.prog 7 #[.agg #[(fC r).1, (fC r).2.1, (fC r).2.2]] w fun e w' => e = .returned (.string ⟨(prnC (compOf r)).toArray⟩) ∧ Below w.heap.size w w' := cPrint_x r w hM hC hv.forms
theorem cProp_any (nm name : ByteArray) (A : Option Addr) (n c : Nat) (qs : List QR) (K : Option Addr) (k kc : Nat) (cs : List CR) (w : World) (hM : csize (.mk nm A n c qs K k kc cs) ≤ 1048576) (hC : COk w w.heap.size (.mk nm A n c qs K k kc cs)) (_hv : CV w) :
    Calls Tryd.prog 13 #[.agg #[.string nm, .slice A n c, .slice K k kc], .string name] w (CPpAns qs name w) := cProp_x nm name A n c qs K k kc cs w hM hC
theorem cComps_any (nm name : ByteArray) (A : Option Addr) (n c : Nat) (qs : List QR) (K : Option Addr) (k kc : Nat) (cs : List CR) (w : World) (hM : csize (.mk nm A n c qs K k kc cs) ≤ 1048576) (hC : COk w w.heap.size (.mk nm A n c qs K k kc cs)) (_hv : CV w) :
    Calls Tryd.prog 14 #[.agg #[.string nm, .slice A n c, .slice K k kc], .string name] w (CCmAns cs name w) := cComps_x nm name A n c qs K k kc cs w hM hC
end Go.Proofs.YtlfhhnjdfpgadaaDoor

/-
  Chapter 12's examples: the statements' last part returns true.
-/
namespace Go.Proofs.YtlfhhnjdfpgadaaDoor
open Go.RowKit

def exQ : Pro := ⟨[88], [], [49]⟩
def exX : CM := .mk [66] [] []
def exC : CM := .mk [65] [exQ] [exX]
theorem ex12_1 : parC [98, 101, 103, 105, 110, 58, 97, 10, 120, 58, 49, 10, 66, 69, 71, 73, 78, 58, 66, 10, 69, 78, 68, 58, 98, 10, 69, 78, 68, 58, 65] = .ok exC := by kernel_rfl
theorem ex12_2 : parC [66, 69, 71, 73, 78, 58, 65, 10, 69, 78, 68, 58, 66] = .error 31 := by kernel_rfl
theorem ex12_3 : parC [66, 69, 71, 73, 78, 58, 65] = .error 11 := by kernel_rfl
theorem ex12_4 : parC [88, 58, 49] = .error 10 := by kernel_rfl
theorem ex12_p : prnC exC = [66, 69, 71, 73, 78, 58, 65, 13, 10, 88, 58, 49, 13, 10, 66, 69, 71, 73, 78, 58, 66, 13, 10, 69, 78, 68, 58, 66, 13, 10, 69, 78, 68, 58, 65, 13, 10] := by decide +kernel
theorem bytes12 {v : ByteArray} {a : List UInt8} (h : v.data.toList = a) : v = ⟨a.toArray⟩ := by subst h; simp
/-- The first example. -/
theorem bParse1 (w : World) (hv : CV w) : Calls Tryd.prog 8 #[.string ⟨#[98, 101, 103, 105, 110, 58, 97, 10, 120, 58, 49, 10, 66, 69, 71, 73, 78, 58, 66, 10, 69, 78, 68, 58, 98, 10, 69, 78, 68, 58, 65]⟩] w fun e w' =>
    ∃ (A : Option Addr) (n c : Nat) (q : QR) (K : Option Addr) (k kc : Nat) (x : CR), e = .returned (.tuple #[.agg #[.string ⟨#[65]⟩, .slice A n c, .slice K k kc], .int .i64 0]) ∧ proQ q = exQ ∧ compOf x = exX ∧ COk w' w'.heap.size (.mk ⟨#[65]⟩ A n c [q] K k kc [x]) ∧ csize (.mk ⟨#[65]⟩ A n c [q] K k kc [x]) ≤ 1048576 ∧ Below w.heap.size w w' := by
  refine (cParse_any _ (by decide) w hv).mono fun e w' h => ?_
  obtain ⟨⟨nm, A, n, c, qs, K, k, kc, cs⟩, k0, rfl, hC, hM, hb, hm⟩ := h
  rw [show (⟨#[98, 101, 103, 105, 110, 58, 97, 10, 120, 58, 49, 10, 66, 69, 71, 73, 78, 58, 66, 10, 69, 78, 68, 58, 98, 10, 69, 78, 68, 58, 65]⟩ : ByteArray).data.toList = [98, 101, 103, 105, 110, 58, 97, 10, 120, 58, 49, 10, 66, 69, 71, 73, 78, 58, 66, 10, 69, 78, 68, 58, 98, 10, 69, 78, 68, 58, 65] from rfl, ex12_1] at hm
  obtain ⟨rfl, hm⟩ := hm
  rw [compOf_mk] at hm
  unfold exC at hm
  injection hm with h1 h2 h3
  obtain rfl := bytes12 h1
  obtain ⟨q, rfl, h4⟩ := List.map_eq_singleton_iff.1 h2
  obtain ⟨x, rfl, h5⟩ := List.map_eq_singleton_iff.1 h3
  exact ⟨A, n, c, q, K, k, kc, x, rfl, h4, h5, hC.ok, hM, hb⟩
/-- An example that is none. -/
theorem bParseE (s : ByteArray) (k : Int) (hs : s.size ≤ 1048576) (h : parC s.data.toList = .error k) (w : World) (hv : CV w) : Calls Tryd.prog 8 #[.string s] w fun e w' => ∃ (nm : ByteArray) (A : Option Addr) (n c : Nat) (K : Option Addr) (m mc : Nat), e = .returned (.tuple #[.agg #[.string nm, .slice A n c, .slice K m mc], .int .i64 k]) ∧ Below w.heap.size w w' := by
  refine (cParse_any s hs w hv).mono fun e w' h' => ?_
  obtain ⟨⟨nm, A, n, c, qs, K, m, mc, cs⟩, k0, rfl, _, _, hb, hm⟩ := h'
  rw [h] at hm
  obtain ⟨rfl, _⟩ := hm
  exact ⟨nm, A, n, c, K, m, mc, rfl, hb⟩
theorem bProp1 (A : Option Addr) (n c : Nat) (q : QR) (K : Option Addr) (k kc : Nat) (x : CR) (w : World) (hq : proQ q = exQ) (hM : csize (.mk ⟨#[65]⟩ A n c [q] K k kc [x]) ≤ 1048576) (hC : COk w w.heap.size (.mk ⟨#[65]⟩ A n c [q] K k kc [x])) (hv : CV w) :
    Calls Tryd.prog 13 #[.agg #[.string ⟨#[65]⟩, .slice A n c, .slice K k kc], .string ⟨#[88]⟩] w fun e w' => ∃ (nm : ByteArray) (L : Option Addr) (m mc : Nat), e = .returned (.tuple #[.agg #[.string nm, .slice L m mc, .string ⟨#[49]⟩], .bool true]) ∧ Below w.heap.size w w' := by
  have hn : named ⟨#[88]⟩ q = true := by
    unfold named
    have := congrArg Pro.name hq
    rw [decide_eq_true_eq]
    exact this
  have hf : [q].filter (named ⟨#[88]⟩) = [q] := by simp [hn]
  refine (cProp_any ⟨#[65]⟩ ⟨#[88]⟩ A n c [q] K k kc [x] w hM hC hv).mono fun e w' h => ?_
  obtain ⟨hb, ⟨h0, _⟩ | ⟨q1, l, q', h1, h2, _, _, rfl⟩⟩ := h
  · rw [hf] at h0; cases h0
  · rw [hf] at h1
    injection h1 with h1 _
    subst h1
    rw [hq] at h2
    have h3 : q'.vl.data.toList = [49] := by have := congrArg Pro.value h2; exact this
    rw [bytes12 h3]
    exact ⟨_, _, _, _, rfl, hb⟩
theorem bComps1 (A : Option Addr) (n c : Nat) (q : QR) (K : Option Addr) (k kc : Nat) (x : CR) (w : World) (hx : compOf x = exX) (hM : csize (.mk ⟨#[65]⟩ A n c [q] K k kc [x]) ≤ 1048576) (hC : COk w w.heap.size (.mk ⟨#[65]⟩ A n c [q] K k kc [x])) (hv : CV w) :
    Calls Tryd.prog 14 #[.agg #[.string ⟨#[65]⟩, .slice A n c, .slice K k kc], .string ⟨#[66]⟩] w fun e w' => ∃ (R : Option Addr) (C : Nat), e = .returned (.slice R 1 C) ∧ Below w.heap.size w w' := by
  have hn : namedC ⟨#[66]⟩ x = true := by
    unfold namedC
    rw [decide_eq_true_eq]
    obtain ⟨nm, A1, n1, c1, q1, K1, k1, kc1, cs1⟩ := x
    rw [compOf_mk] at hx
    unfold exX at hx
    injection hx with h1 _ _
  have hf : [x].filter (namedC ⟨#[66]⟩) = [x] := by simp [hn]
  refine (cComps_any ⟨#[65]⟩ ⟨#[66]⟩ A n c [q] K k kc [x] w hM hC hv).mono fun e w' h => ?_
  obtain ⟨R, N, C, l, rfl, hR, _, _, _, hl, _, hb⟩ := h
  rw [hf] at hl
  have h1 := congrArg List.length hl
  simp only [List.length_map, List.length_singleton] at h1
  have h2 := hR.1
  rw [enc3_length] at h2
  obtain rfl : N = 1 := by omega
  exact ⟨R, C, rfl, hb⟩

set_option maxRecDepth 100000 in
set_option maxHeartbeats 4000000 in
theorem awake12_any (w : World) (hv : CV w) : Calls Tryd.prog 6 #[] w fun e w' => e = .returned (.bool true) ∧ Below w.heap.size w w' := by
  have HV := Lib.hid hv
  clear hv
  go_enter Tryd.func6, Tryd.ntmps6
  go_wp2_with fail
  refine (bParse1 w HV.out).mono ?_
  rintro e w1 ⟨A, n, c, q, K, k, kc, x, rfl, hq, hx, hC, hM, hb1⟩
  have HQ := Lib.hid (And.intro hq (And.intro hx hM))
  have A1 := Lib.hid (CA.new hC)
  have B1 := Lib.hid (hb1.alloc hb1.size (.cells #[.string ⟨#[65]⟩, .slice A n c, .slice K k kc] 25))
  clear hq hx hC hM hb1
  go_wp2_with fail
  refine (bParseE ⟨#[66, 69, 71, 73, 78, 58, 65, 10, 69, 78, 68, 58, 66]⟩ 31 (by decide) ex12_2 _ (HV.out.step B1.out)).mono ?_
  rintro e w2 ⟨nm2, A2, n2, c2, K2, k2, kc2, rfl, hb2⟩
  have hb2 := hb2.alloc hb2.size (.cells #[.string nm2, .slice A2 n2 c2, .slice K2 k2 kc2] 25)
  have A3 := Lib.hid (A1.out.step hb2)
  have B3 := Lib.hid (bstep B1.out hb2)
  clear hb2 A1 B1
  go_wp2_with fail
  refine (bParseE ⟨#[66, 69, 71, 73, 78, 58, 65]⟩ 11 (by decide) ex12_3 _ (HV.out.step B3.out)).mono ?_
  rintro e w3 ⟨nm3, A3', n3, c3, K3, k3, kc3, rfl, hb3⟩
  have hb3 := hb3.alloc hb3.size (.cells #[.string nm3, .slice A3' n3 c3, .slice K3 k3 kc3] 25)
  have A4 := Lib.hid (A3.out.step hb3)
  have B4 := Lib.hid (bstep B3.out hb3)
  clear hb3 A3 B3
  go_wp2_with fail
  refine (bParseE ⟨#[88, 58, 49]⟩ 10 (by decide) ex12_4 _ (HV.out.step B4.out)).mono ?_
  rintro e w4 ⟨nm4, A4', n4, c4, K4, k4, kc4, rfl, hb4⟩
  have hb4 := hb4.alloc hb4.size (.cells #[.string nm4, .slice A4' n4 c4, .slice K4 k4 kc4] 25)
  have A5 := Lib.hid (A4.out.step hb4)
  have B5 := Lib.hid (bstep B4.out hb4)
  clear hb4 A4 B4
  obtain ⟨x0, x1, x2⟩ := A5.out.bx.cells
  go_wp2_with fail
  refine (bProp1 A n c q K k kc x _ HQ.out.1 HQ.out.2.2 A5.out.ok (HV.out.step B5.out)).mono ?_
  rintro e w5 ⟨nm5, L5, m5, mc5, rfl, hb5⟩
  have P6 := Lib.hid (P3.new w5 nm5 ⟨#[49]⟩ L5 m5 mc5)
  have hb5 := hb5.alloc hb5.size (.cells #[.string nm5, .slice L5 m5 mc5, .string ⟨#[49]⟩] 41)
  have A6 := Lib.hid (A5.out.step hb5)
  have B6 := Lib.hid (bstep B5.out hb5)
  clear hb5 A5 B5 x0 x1 x2
  obtain ⟨x0, x1, x2⟩ := A6.out.bx.cells
  obtain ⟨p0, p1, p2⟩ := P6.out.cells
  go_wp2_with fail
  refine (bComps1 A n c q K k kc x _ HQ.out.2.1 HQ.out.2.2 A6.out.ok (HV.out.step B6.out)).mono ?_
  rintro e w6 ⟨R6, C6, rfl, hb6⟩
  have A7 := Lib.hid (A6.out.step hb6)
  have B7 := Lib.hid (bstep B6.out hb6)
  clear hb6 A6 B6 x0 x1 x2 p0 p1 p2 P6
  obtain ⟨x0, x1, x2⟩ := A7.out.bx.cells
  have cp := cPrint_any (.mk ⟨#[65]⟩ A n c [q] K k kc [x]) w6 HQ.out.2.2 A7.out.ok (HV.out.step B7.out)
  rw [show compOf (.mk ⟨#[65]⟩ A n c [q] K k kc [x]) = exC from by rw [compOf_mk, List.map_singleton, List.map_singleton, HQ.out.1, HQ.out.2.1]; rfl, ex12_p] at cp
  go_wp2_with fail
  refine cp.mono ?_
  rintro e w7 ⟨rfl, hb7⟩
  go_wp2
  go_ret
  exact ⟨rfl, bstep B7.out hb7⟩
end Go.Proofs.YtlfhhnjdfpgadaaDoor
