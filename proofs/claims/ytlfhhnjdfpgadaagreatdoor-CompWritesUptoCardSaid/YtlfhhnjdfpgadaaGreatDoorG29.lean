/-
  The program's Print and Fit.
-/
import Derived.Test.YtlfhhnjdfpgadaaGreatDoorG28
import Derived.Test.YtlfhhnjdfpgadaaGreatDoorG13
import Derived.Test.YtlfhhnjdfpgadaaGreatDoorG25
import Derived.Test.YtlfhhnjdfpgadaaGreatDoorG06
import Derived.Test.YtlfhhnjdfpgadaaGreatDoorG08
namespace Go.Proofs.YtlfhhnjdfpgadaaGreatDoor
open Go.RowKit Go.Shelf
attribute [local go_sem] Oper.semAt_some

theorem its_all (wz : World) (hf : Forms wz) : ∀ d : Nat, d ≤ 12 → ItS wz d := by
  intro d
  induction d with
  | zero => intro h; exact it_succ wz 0 h hf (fun d2 e => (by cases e))
  | succ d ih => intro h; exact it_succ wz (d + 1) h hf (fun d2 e => by injection e with e; subst e; exact ih (by omega))
/-- While lines are gathered. -/
structure Pn (w W : World) (v : Value) (N : Nat) (out : List ByteArray) : Prop where
  b2 : Boxed W (w.heap.size + 1) 9 (.string ⟨#[]⟩)
  bl : Boxed W (w.heap.size + 1 + 1) 46 v
  row : W.ownsRow (w.heap.size + 3) 9 1 v N (encS out)
  bel : Below w.heap.size w W
theorem Pn.own {w w5 W W' : World} {v : Value} {N : Nat} {out : List ByteArray} {row : Option Nat} (h : Pn w W v N out) (hz : w5.heap.size = w.heap.size + 5) (hg : W.grownBy W' row) (hr : ∀ r, row = some r → w5.heap.size ≤ r ∧ ∃ o : Obj, W.heap[r]? = some o ∧ o.isCells = false) : Pn w W' v N out := by
  refine ⟨h.b2.kept hg (fun e => by have := (hr _ e.symm).1; omega), h.bl.kept hg (fun e => by have := (hr _ e.symm).1; omega), own_grown h.row hg (fun g e1 e2 => ?_), h.bel.grown hg h.bel.size (fun b e => by have := (hr b e).1; omega)⟩
  obtain ⟨_, o, ho, hc⟩ := hr g e2
  rcases h.row.2 with ⟨rfl, _⟩ | ⟨g', cap, cur, rfl, _, hh, _⟩
  · cases e1
  · injection e1 with e1
    subst e1
    rw [hh] at ho
    injection ho with ho
    subst ho
    cases hc
/-- A line more. -/
theorem Pn.append {w W w1 : World} {v v' : Value} {n : Nat} {out : List ByteArray} {tmp : Obj} {x : ByteArray} (h : Pn w W v n out) (hown' : w1.ownsRow (w.heap.size + 3) 9 1 v' (n + 1) (encS (out ++ [x]))) (hgrow : (W.alloc tmp).grownBy w1 v.ownBlock) :
    Pn w (w1.setCell ⟨w.heap.size + 1 + 1, 0, none⟩ v') v' (n + 1) (out ++ [x]) ∧ KeepsOthers W (w1.setCell ⟨w.heap.size + 1 + 1, 0, none⟩ v') ∧ KpC w.heap.size W (w1.setCell ⟨w.heap.size + 1 + 1, 0, none⟩ v') ∧ Boxed w1 (w.heap.size + 1 + 1) 46 v := by
  have hge := own_row_ge h.row
  have b2 := (h.b2.alloc tmp).kept hgrow (fun e => by have := hge _ e.symm; omega)
  have bl := (h.bl.alloc tmp).kept hgrow (h.bl.not_row (by decide) h.row)
  have hb1 : Below w.heap.size W w1 := ((Below.refl _ W).alloc h.bel.size tmp).grown hgrow (by have := h.bel.size; simp; omega) (fun k e => by have := hge k e; omega)
  have hset : ∀ k, k ≠ w.heap.size + 1 + 1 → (w1.setCell ⟨w.heap.size + 1 + 1, 0, none⟩ v').heap[k]? = w1.heap[k]? := fun k hk => Below.heap_setCell w1 ⟨w.heap.size + 1 + 1, 0, none⟩ v' k hk
  refine ⟨⟨(hset _ (by omega)).trans b2, bl.set v', hown'.kept (grownBy_setCell' w1 _ v') (.inr (bl.not_row (by decide) hown').symm), h.bel.trans (hb1.setCell (p := ⟨w.heap.size + 1 + 1, 0, none⟩) (by show w.heap.size ≤ w.heap.size + 1 + 1; omega) v')⟩, ?_, ⟨hb1.setCell (p := ⟨w.heap.size + 1 + 1, 0, none⟩) (by show w.heap.size ≤ w.heap.size + 1 + 1; omega) v', fun k c t f hk ht => ?_⟩, bl⟩
  · refine ((KeepsOthers.alloc W tmp).trans (KeepsOthers.of_grownBy hgrow fun j o ej hj => ?_)).trans (KeepsOthers.setCell _ _ _)
    rcases (own_alloc h.row tmp).2 with ⟨rfl, _⟩ | ⟨g, cap, cur, rfl, _, hgb, _⟩
    · simp [Value.ownBlock] at ej
    · obtain rfl : j = g := by simpa [Value.ownBlock] using ej.symm
      rw [hj] at hgb
      injection hgb with hgb
      rw [hgb]; rfl
  · have hkl := (Array.getElem?_eq_some_iff.1 hk).1
    have hk2 : k ≠ w.heap.size + 1 + 1 := fun e => by
      subst e
      have := h.bl
      unfold Boxed at this
      rw [hk] at this
      injection this with this
      injection this with _ this
      subst this
      rcases ht with h | h | h | h <;> exact absurd h (by decide)
    rw [hset k hk2, hgrow.block k (by simp; omega) (fun e => ?_), Below.heap_alloc W tmp k hkl]
    rcases h.row.2 with ⟨rfl, _⟩ | ⟨g, cap, cur, rfl, _, hgb, _⟩
    · cases e
    · injection e with e
      subst e
      rw [hk] at hgb
      injection hgb with hgb
      injection hgb with _ hgb
      subst hgb
      rcases ht with h | h | h | h <;> exact absurd h (by decide)
theorem fit_prn (c : CM) : decide (prnC c = []) = !fitT c := by
  unfold prnC
  cases h : fitT c with
  | false => simp
  | true =>
    rw [if_pos rfl]
    have hne : foldL (linesC c) ≠ [] := by
      cases c with
      | mk nm ps cs =>
        intro e
        rw [linesC] at e
        unfold foldL at e
        rw [List.flatMap_cons] at e
        have e1 := (List.append_eq_nil_iff.1 e).1
        unfold lineF at e1
        exact absurd (List.append_eq_nil_iff.1 e1).2 (by simp)
    simp [hne]
def PnI (w : World) (pre : List Ln) (W : World) : Prop := ∃ v, Pn w W v pre.length (pre.map fun x => x.1) ∧ pre.length ≤ 400 ∧ [] ∉ lnT pre
def PnX (w : World) (cc : Code) (pre : List Ln) (W : World) : Prop := cc = .ret ∧ ([] ∈ lnT pre ∨ 400 < pre.length) ∧ Boxed W (w.heap.size + 1) 9 (.string ⟨#[]⟩) ∧ Below w.heap.size w W
theorem load_st {w : World} {g : Nat} {v : Value} (h : Boxed w g 9 v) : (Go.loadVar 9 ⟨g, 0, none⟩).run Tryz.prog w = .ok v w := by
  have a0 := h.cell
  unfold loadVar
  go_simp
theorem lnT_len (xs : List Ln) : (lnT xs).length = xs.length := by unfold lnT; rw [List.length_map]
/-- What is told of what has come. -/
theorem prn_bad {c : CM} {q : List (List UInt8)} (hq : q <+: seqP 12 c) (h : [] ∈ q ∨ 400 < q.length) : prnC c = [] := by
  unfold prnC
  rw [if_neg]
  intro hf
  unfold fitT at hf
  simp only [Bool.and_eq_true, decide_eq_true_eq] at hf
  obtain ⟨h1, h2, h3⟩ := hf
  obtain ⟨e1, e2⟩ := (seq_fit 12 c).1 h1
  rcases h with h | h
  · exact e2 (hq.subset h)
  · have := hq.length_le
    rw [e1] at this
    omega
theorem prn_good {c : CM} {q : List (List UInt8)} (hq : q = seqP 12 c) (h : [] ∉ q) (hl : q.length ≤ 400) : q = linesC c ∧ prnC c = if 8192 < (foldL q).length then [] else foldL q := by
  have hf : fitC 12 c = true := by
    cases hx : fitC 12 c with
    | true => rfl
    | false => exact absurd ((seq_fit 12 c).2 hx) (by rw [← hq]; exact h)
  have e := ((seq_fit 12 c).1 hf).1
  rw [← hq] at e
  refine ⟨e, ?_⟩
  unfold prnC fitT
  rw [hf, ← e]
  by_cases h3 : 8192 < (foldL q).length
  · rw [if_pos h3, decide_eq_true hl, decide_eq_false (by omega)]; simp
  · rw [if_neg h3, decide_eq_true hl, decide_eq_true (by omega)]; simp
set_option maxRecDepth 100000 in
set_option maxHeartbeats 8000000 in
theorem cPrint_x (r : CR) (w : World) (hM : csize r ≤ 1048576) (hC : COk w w.heap.size r) (hf : Forms w) : Calls Tryz.prog 13 #[.agg #[(fC r).1, (fC r).2.1, (fC r).2.2]] w fun e w' => e = .returned (.string ⟨(prnC (compOf r)).toArray⟩) ∧ Below w.heap.size w w' := by
  obtain ⟨nm, A, n, c, qs, K, k, kc, cs⟩ := r
  show Calls Tryz.prog 13 #[.agg #[.string nm, .slice A n c, .slice K k kc]] w _
  have HI := Lib.hid (its_all w hf 12 (Nat.le_refl _))
  have HC := Lib.hid hC
  have HM := Lib.hid hM
  have HF := Lib.hid hf
  clear hM hC hf
  refine (callsIn_wide (n := 3)).1 ?_
  refine callsIn_of_wp_marks Tryz.func13 rfl trivial ?_ rfl
  simp only [Tryz.ntmps13, List.size_toArray, List.length_cons, List.length_nil, Nat.reduceAdd, Nat.reduceSub, Array.replicate_succ, Array.replicate_zero, List.push_toArray, List.append_toArray, List.nil_append, List.cons_append]
  gi_wp2_with fail
  refine ⟨trivial, (linesFn_in 2 _ _ _ _ _ _ _ _ _).mono ?_⟩
  rintro e w' ⟨rfl, rfl⟩
  gi_wp2
  have hW1 : ∃ w5, ((((w.alloc (.cells #[.string nm, .slice A n c, .slice K k kc] 25)).alloc (.cells #[.string ⟨#[]⟩] 9)).alloc (.cells #[.slice none 0 0] 46)).alloc (.cells #[.string nm, .slice A n c, .slice K k kc] 25)).alloc (.cells #[.int .i64 12] 3) = w5 := ⟨_, rfl⟩
  obtain ⟨w5, hw5⟩ := hW1
  have hz5 : w5.heap.size = w.heap.size + 5 := by rw [← hw5]; simp
  have hbel5 : Below w.heap.size w w5 := by
    rw [← hw5]
    exact ((((((Below.refl _ w).alloc (Nat.le_refl _) _).alloc (by simp) _).alloc (by simp; omega) _).alloc (by simp; omega) _).alloc (by simp; omega) _)
  have hb2 : Boxed w5 (w.heap.size + 1) 9 (.string ⟨#[]⟩) := by
    rw [← hw5]
    have := Boxed.new (w.alloc (.cells #[.string nm, .slice A n c, .slice K k kc] 25)) 9 (.string ⟨#[]⟩)
    rw [World.size_alloc] at this
    exact ((this.alloc _).alloc _).alloc _
  have hbl : Boxed w5 (w.heap.size + 1 + 1) 46 (.slice none 0 0) := by
    rw [← hw5]
    have := Boxed.new ((w.alloc (.cells #[.string nm, .slice A n c, .slice K k kc] 25)).alloc (.cells #[.string ⟨#[]⟩] 9)) 46 (.slice none 0 0)
    rw [World.size_alloc, World.size_alloc] at this
    exact (this.alloc _).alloc _
  have hBc : C3 w5 (w.heap.size + 1 + 1 + 1) nm A n c K k kc := by
    rw [← hw5]
    have := (C3.new (((w.alloc (.cells #[.string nm, .slice A n c, .slice K k kc] 25)).alloc (.cells #[.string ⟨#[]⟩] 9)).alloc (.cells #[.slice none 0 0] 46)) nm A n c K k kc).step ((Below.refl _ _).alloc (Nat.le_refl _) (.cells #[.int .i64 12] 3))
    simpa using this
  have hBd : w5.heap[w.heap.size + 1 + 1 + 1 + 1]? = some (.cells #[.int .i64 ((12 : Nat) : Int)] 3 (0, 0)) := by
    rw [← hw5]
    have := heap_alloc_new ((((w.alloc (.cells #[.string nm, .slice A n c, .slice K k kc] 25)).alloc (.cells #[.string ⟨#[]⟩] 9)).alloc (.cells #[.slice none 0 0] 46)).alloc (.cells #[.string nm, .slice A n c, .slice K k kc] 25)) (.cells #[.int .i64 12] 3)
    simpa using this
  rw [hw5]
  have SQ := Lib.hid (HI.out nm A n c qs K k kc cs w5 (w.heap.size + 1 + 1 + 1 + 1) (w.heap.size + 1 + 1 + 1) HM.out HC.out hbel5 hBd hBc)
  have P0 := Lib.hid (show PnI w [] w5 from ⟨_, ⟨hb2, hbl, own_nil, hbel5⟩, Nat.zero_le _, by simp [lnT]⟩)
  have HZ5 := Lib.hid hz5
  clear hw5 hbel5 hb2 hbl hBc hBd hz5
  refine rangeFunc_rec rfl (enters_of Tryz.func44 (by kernel_rfl) rfl) SQ.out KpC.trans (fun W o o' h1 h2 => kpC_put (by have := HZ5.out; omega) W o o' h1 h2) (Below.refl _ _) (fun _ => rfl)
    (PnI w) (PnX w) ?own1 ?own2 P0.out (fun x => { tmps := #[.agg #[.string nm, .slice A n c, .slice K k kc], .pointer (some ⟨w.heap.size, 0, none⟩), .pointer (some ⟨w.heap.size + 1, 0, none⟩), .pointer (some ⟨w.heap.size + 1 + 1, 0, none⟩), .string x.1, undef, .agg #[.string nm, .slice A n c, .slice K k kc], .func (.func 44) #[] #[.pointer (some ⟨w.heap.size + 1 + 1 + 1 + 1, 0, none⟩), .pointer (some ⟨w.heap.size + 1 + 1 + 1, 0, none⟩)], .string x.1, undef, undef, undef, undef, undef, undef, undef, undef, undef, undef, undef, undef, undef, undef, undef, undef, undef], defers := [] }) ?assign ?body ?done ?stop
  case own1 =>
    rintro pre X1 X2 row ⟨v, h1, h2, h3⟩ hg hr
    exact ⟨v, h1.own HZ5.out hg hr, h2, h3⟩
  case own2 =>
    rintro cc pre X1 X2 row ⟨h1, h2, h3, h4⟩ hg hr
    exact ⟨h1, h2, h3.kept hg (fun e => by have := (hr _ e.symm).1; have := HZ5.out; omega), h4.grown hg h4.size (fun b e => by have := (hr b e).1; have := HZ5.out; omega)⟩
  case assign =>
    intro l2 x W K2 hK2
    gi_wp2
    exact hK2
  case body =>
    rintro l2 pre x W ⟨v, hP, hl, hne⟩
    have HP := Lib.hid hP
    have HNE := Lib.hid hne
    obtain ⟨xs, hxs⟩ : ∃ xs, x.1 = xs := ⟨_, rfl⟩
    have HXS := Lib.hid hxs
    have hx2 := x.2
    rw [hxs] at hx2 ⊢
    have cb := hP.b2.cell
    have fb := hP.b2.frozen
    have cl := hP.bl.cell
    obtain ⟨R, C, rfl, _⟩ := own_slice hP.row
    have fx := strEqL xs ⟨#[]⟩
    have t1 : (⟨#[]⟩ : ByteArray).toList = [] := by simp
    have t2 : (⟨#[]⟩ : ByteArray).data.toList = [] := rfl
    rw [t1, t2] at fx
    clear hP hne hxs t1 t2
    by_cases hx0 : xs.data.toList = []
    · have HX0 := Lib.hid hx0
      rw [decide_eq_true hx0] at fx
      clear hx0
      gi_wp2
      exact ⟨(KeepsOthers.setCell _ _ _).from _, rfl, .inl (by rw [lnT_app]; refine List.mem_append_right _ ?_; show [] ∈ [x.1.data.toList]; rw [HXS.out, HX0.out]; simp), HP.out.b2.set _, HP.out.bel.setCell (p := ⟨w.heap.size + 1, 0, none⟩) (by show w.heap.size ≤ w.heap.size + 1; omega) _⟩
    · rw [decide_eq_false hx0] at fx
      have HX0 := Lib.hid hx0
      clear hx0
      by_cases h4 : pre.length = 400
      · have k4 : ((pre.length : Int) == 400) = true := by rw [beq_iff_eq]; omega
        have H4 := Lib.hid h4
        clear h4
        gi_wp2
        exact ⟨(KeepsOthers.setCell _ _ _).from _, rfl, .inr (by rw [List.length_append, H4.out]; simp), HP.out.b2.set _, HP.out.bel.setCell (p := ⟨w.heap.size + 1, 0, none⟩) (by show w.heap.size ≤ w.heap.size + 1; omega) _⟩
      · have k4 : ((pre.length : Int) == 400) = false := by rw [beq_eq_false_iff_ne]; omega
        have H4 := Lib.hid h4
        clear h4
        obtain ⟨i0, hi0, hy0, hy1, hy2⟩ := info_parts infoStr
        have hrow := HP.out.row
        have hzW : w.heap.size + 3 ≤ W.heap.size := by have := HP.out.bl.lt; omega
        gi_wp2_with (gi_at_builtin; refine wpListIn_append_own _ rfl (.tmp 16) (.tmp 18) 46 rfl (w.heap.size + 3) 9 i0 (.string ⟨#[]⟩) 1 16 Tryz.underlying46 hi0 hy0 hy1 hy2 rfl (by decide) _ _ _ rfl (hrow.alloc _) ⟨W.heap.size, 0, none⟩ 1 1 [.string xs] rfl rfl (cell_one_new _ _ _) (by simp [Value.oneCell']) (by unfold maxLen; omega) (by omega) (by simp; omega) ?_; intro v' w2 hown' hgrow _; obtain ⟨g', cap', rfl⟩ := ownsRow_succ hown'; obtain ⟨hU2, hk2, hb2, hv1⟩ := HP.out.append (x := xs) (by rw [encS_snoc]; exact hown') hgrow; have hc1 := hv1.cell; have hf1 := hv1.frozen)
        exact ⟨hk2.from _, hb2, _, by rw [List.length_append, List.length_singleton, List.map_append, List.map_singleton, HXS.out]; exact hU2, by rw [List.length_append, List.length_singleton]; have := H4.out; omega, by rw [lnT_app]; intro hm; rcases List.mem_append.1 hm with hm | hm; exact HNE.out hm; exact HX0.out (by have := List.mem_singleton.1 (show [] ∈ [x.1.data.toList] from hm); rw [HXS.out] at this; exact this.symm)⟩
  case stop =>
    rintro D cc pre W hD hSp ⟨rfl, h1, h2, h3⟩ hK
    have HE := Lib.hid (prn_bad hSp (by rw [lnT_len]; exact h1))
    have HD := Lib.hid (show w.heap.size + 1 < D by have := HZ5.out; omega)
    have HX := Lib.hid (And.intro h2 (And.intro h3 hK))
    clear h1 h2 h3 hK hSp hD
    gi_wp2
    refine ⟨by simp, .inl ⟨_, _, rfl, run_takeDeferred HX.out.2.2, ?_⟩⟩
    refine ⟨_, results_one rfl _ rfl (load_st (g := w.heap.size + 1) ((World.putObj_heap_other (by have := HD.out; omega)).trans HX.out.1)), by rw [HE.out], HX.out.2.1.trans (belowD_put (by have := HD.out; omega) (Array.getElem?_eq_some_iff.1 HX.out.2.2).1)⟩
  case done =>
    rintro D ys W hD hys ⟨v, hP, hl, hne⟩ hK
    obtain ⟨R, C, rfl, hRC, hCm⟩ := own_slice hP.row
    have HD := Lib.hid (show w.heap.size + 1 < D by have := HZ5.out; omega)
    have HE := Lib.hid (prn_good hys hne (by rw [lnT_len]; exact hl))
    have hvs : vsize (ys.map fun x => x.1) ≤ 1048576 := by
      have key : ∀ l : List Ln, vsize (l.map fun x => x.1) ≤ 2001 * l.length := by
        intro l
        induction l with
        | nil => simp [vsize]
        | cons x l ih =>
          have := x.2
          unfold vsize at ih ⊢
          simp only [List.map_cons, List.sum_cons, List.length_cons] at ih ⊢
          omega
      have := key ys
      omega
    have cf := pFold_x R ys.length C (ys.map fun x => x.1) W (Reads.of_own hP.row) hRC hCm hvs
    have hmm : ((ys.map fun x => x.1).map fun b => b.data.toList) = lnT ys := by rw [List.map_map]; rfl
    rw [hmm] at cf
    have cl := hP.bl.cell
    have HP := Lib.hid hP
    have HK := Lib.hid hK
    clear hP hK hRC hCm hvs hmm hne hys hD
    gi_wp2_with fail
    refine ⟨trivial, (callsIn_wide.2 cf).mono ?_⟩
    rintro e w6 ⟨rfl, hb6⟩
    have B6 := Lib.hid (show Boxed w6 (w.heap.size + 1) 9 (.string ⟨#[]⟩) from (hb6.block _ HP.out.b2.lt).trans HP.out.b2)
    have HK6 := Lib.hid ((hb6.block D (Array.getElem?_eq_some_iff.1 HK.out).1).trans HK.out)
    have HB6 := Lib.hid (bstep HP.out.bel hb6)
    have cb := B6.out.cell
    have fb := B6.out.frozen
    have hsz : (⟨(foldL (lnT ys)).toArray⟩ : ByteArray).size = (foldL (lnT ys)).length := by show (foldL (lnT ys)).toArray.size = _; simp
    obtain ⟨z, hz⟩ : ∃ z, foldL (lnT ys) = z := ⟨_, rfl⟩
    rw [hz] at hsz HE ⊢
    clear cf hb6 hz cl
    by_cases h8 : 8192 < z.length
    · have h8i : (8192 : Int) < ((⟨z.toArray⟩ : ByteArray).size : Int) := by rw [hsz]; omega
      have h8j : (8192 : Int) < (z.length : Int) := by omega
      have HE2 := Lib.hid (HE.out.2.trans (if_pos h8))
      clear hsz h8
      gi_wp2
      refine ⟨by simp, .inl ⟨_, _, rfl, run_takeDeferred ((Below.heap_setCell w6 ⟨w.heap.size + 1, 0, none⟩ _ D (by have := HD.out; show D ≠ w.heap.size + 1; omega)).trans HK6.out), ?_⟩⟩
      refine ⟨_, results_one rfl _ rfl (load_st (g := w.heap.size + 1) ((World.putObj_heap_other (by have := HD.out; omega)).trans (B6.out.set _))), by rw [HE2.out], (HB6.out.setCell (p := ⟨w.heap.size + 1, 0, none⟩) (by show w.heap.size ≤ w.heap.size + 1; omega) _).trans (belowD_put (by have := HD.out; omega) (by have := (Array.getElem?_eq_some_iff.1 HK6.out).1; simpa using this))⟩
    · have h8i : ¬ (8192 : Int) < ((⟨z.toArray⟩ : ByteArray).size : Int) := by rw [hsz]; omega
      have h8j : ¬ (8192 : Int) < (z.length : Int) := by omega
      have HE2 := Lib.hid (HE.out.2.trans (if_neg h8))
      clear hsz h8
      gi_wp2
      refine ⟨by simp, .inl ⟨_, _, rfl, run_takeDeferred ((Below.heap_setCell w6 ⟨w.heap.size + 1, 0, none⟩ _ D (by have := HD.out; show D ≠ w.heap.size + 1; omega)).trans HK6.out), ?_⟩⟩
      refine ⟨_, results_one rfl _ rfl (load_st (g := w.heap.size + 1) ((World.putObj_heap_other (by have := HD.out; omega)).trans (B6.out.set _))), by rw [HE2.out], (HB6.out.setCell (p := ⟨w.heap.size + 1, 0, none⟩) (by show w.heap.size ≤ w.heap.size + 1; omega) _).trans (belowD_put (by have := HD.out; omega) (by have := (Array.getElem?_eq_some_iff.1 HK6.out).1; simpa using this))⟩
set_option maxRecDepth 100000 in
theorem cFit_x (r : CR) (w : World) (hM : csize r ≤ 1048576) (hC : COk w w.heap.size r) (hf : Forms w) : Calls Tryz.prog 11 #[.agg #[(fC r).1, (fC r).2.1, (fC r).2.2]] w fun e w' => e = .returned (.bool (fitT (compOf r))) ∧ Below w.heap.size w w' := by
  have hb1 : ∀ nm A n c K k kc, Below w.heap.size w (w.alloc (.cells #[.string nm, .slice A n c, .slice K k kc] 25)) := fun nm A n c K k kc => (Below.refl _ w).alloc (Nat.le_refl _) _
  obtain ⟨nm, A, n, c, qs, K, k, kc, cs⟩ := r
  have cp := cPrint_x (.mk nm A n c qs K k kc cs) _ hM (hC.step (hb1 nm A n c K k kc)) (hf.step (hb1 nm A n c K k kc))
  have HB := Lib.hid (hb1 nm A n c K k kc)
  obtain ⟨x0, x1, x2⟩ := (C3.new w nm A n c K k kc).cells
  have HT := Lib.hid (fit_prn (compOf (.mk nm A n c qs K k kc cs)))
  generalize prnC (compOf (.mk nm A n c qs K k kc cs)) = z at cp HT
  obtain ⟨b, hb⟩ : ∃ b, fitT (compOf (.mk nm A n c qs K k kc cs)) = b := ⟨_, rfl⟩
  rw [hb] at HT ⊢
  have HZ := Lib.hid (show (!z.isEmpty) = b by have := HT.out; cases z <;> cases b <;> simp_all)
  clear hM hC hf hb1 hb
  simp only [fC] at cp
  show Calls Tryz.prog 11 #[.agg #[.string nm, .slice A n c, .slice K k kc]] w _
  go_enter Tryz.func11, Tryz.ntmps11
  go_wp2_with (go_at_call 13; refine cp.mono ?_; rintro e w2 ⟨rfl, hb2⟩)
  go_ret
  exact ⟨by rw [← HZ.out]; rfl, bstep HB.out hb2⟩
end Go.Proofs.YtlfhhnjdfpgadaaGreatDoor

/-
  The program's functions of layer 11: lists of texts, parameters, and properties, that are the same.
-/
namespace Go.Proofs.YtlfhhnjdfpgadaaGreatDoor
open Go.RowKit

set_option maxRecDepth 100000 in
set_option maxHeartbeats 2000000 in
theorem pEqual_any (A A' : Option Addr) (n c m c' : Nat) (a b : List ByteArray) (w : World) (ha : Reads w w.heap.size 1 A n (encS a)) (hb : Reads w w.heap.size 1 A' m (encS b)) (hn : n ≤ 9223372036854775807) (hm : m ≤ 9223372036854775807) :
    Calls Tryz.prog 71 #[.slice A n c, .slice A' m c'] w fun e w' => e = .returned (.bool (decide (a = b))) ∧ ∃ q, w' = w.drewN q := by
  have HA := Lib.hid ha
  have HB := Lib.hid hb
  have HL := Lib.hid (And.intro ha.lenS hb.lenS)
  clear ha hb
  by_cases hnm : n = m
  · subst hnm
    have ht : ((n : Int) != (n : Int)) = false := by simp
    obtain ⟨r, hr⟩ : ∃ r, r = decide (a = b) := ⟨_, rfl⟩
    rw [← hr]
    have HR := Lib.hid hr
    clear hr
    go_enter Tryz.func71, Tryz.ntmps71
    go_wp2
    go_loopg [13] n (fun g s5 wr => ∃ i q : Nat, i ≤ n ∧ n - i ≤ g ∧ s5 = .int .i64 i ∧ w.drewN q = wr ∧ Hid (∀ k, k < i → blk a k = blk b k))
    case atStart => exact ⟨0, 0, Nat.zero_le _, by omega, rfl, rfl, Lib.hid fun k hk => absurd hk (Nat.not_lt_zero _)⟩
    case round =>
      obtain ⟨i, q, hi, hg, rfl, rfl, J⟩ := hrel
      by_cases hlt : i < n
      · have hin : (i : Int) < (n : Int) := by omega
        obtain ⟨b1, o1, rfl, _, g1⟩ := HA.out.str hlt
        obtain ⟨b2, o2, rfl, _, g2⟩ := HB.out.str hlt
        have hx := strNe (blk a i) (blk b i)
        have hx2 := strEqL (blk a i) (blk b i)
        by_cases hxy : blk a i = blk b i
        · have JN : Hid (∀ k, k < i + 1 → blk a k = blk b k) := Lib.hid fun k hk => by
            by_cases e : k = i
            · rw [e]; exact hxy
            · exact J.out k (by omega)
          rw [decide_eq_true (by rw [hxy]), Bool.not_true, ← hxy] at hx
          rw [decide_eq_true (by rw [hxy]), ← hxy] at hx2
          rw [← hxy] at g2
          generalize blk a i = x at g1 g2 hx hx2
          clear hxy
          go_wp2_with fail
          go_quiet (fail)
          go_wp2
          go_roundg (n - (i + 1))
          case measure => omega
          case rel => exact ⟨i + 1, q + nq, by omega, by omega, by go_num, rfl, JN⟩
        · have HE : Hid (r = false) := Lib.hid (HR.out.trans (decide_eq_false (fun e => hxy (by rw [e]))))
          rw [decide_eq_false (fun e => hxy (ByteArray.ext (Array.toList_inj.1 e))), Bool.not_false] at hx
          rw [decide_eq_false (fun e => hxy (ByteArray.ext (Array.toList_inj.1 e)))] at hx2
          generalize blk a i = x at g1 hx hx2
          generalize blk b i = y at g2 hx hx2
          clear hxy
          go_wp2_with fail
          go_quiet (fail)
          go_wp2
          go_ret
          rw [HE.out]
          exact ⟨rfl, q + nq, World.drewN_drewN _ _ _⟩
      · have : i = n := by omega
        subst this
        have HE : Hid (r = true) := Lib.hid (HR.out.trans (decide_eq_true (by
          refine List.ext_getElem? fun k => ?_
          by_cases hk : k < i
          · have := J.out k hk
            unfold blk at this
            rw [List.getD_eq_getElem?_getD, List.getD_eq_getElem?_getD] at this
            rw [List.getElem?_eq_getElem (by rw [HL.out.1]; exact hk), List.getElem?_eq_getElem (by rw [HL.out.2]; exact hk)] at this ⊢
            simpa using this
          · rw [List.getElem?_eq_none (by rw [HL.out.1]; omega), List.getElem?_eq_none (by rw [HL.out.2]; omega)])))
        go_wp2
        go_ret
        rw [HE.out]
        exact ⟨rfl, q, rfl⟩
  · have ht : ((n : Int) != (m : Int)) = true := by simp only [bne_iff_ne, ne_eq]; omega
    have HD : Hid (decide (a = b) = false) := Lib.hid (decide_eq_false (fun e => hnm (by rw [← HL.out.1, ← HL.out.2, e])))
    rw [HD.out]
    clear HA HB HL HD
    go_enter Tryz.func71, Tryz.ntmps71
    go_wp2
    go_ret
    exact ⟨rfl, 0, rfl⟩

set_option maxRecDepth 100000 in
set_option maxHeartbeats 2000000 in
theorem sameParam_any (r q : PR) (w : World) (h1 : POk w w.heap.size r) (h2 : POk w w.heap.size q) :
    Calls Tryz.prog 52 #[.agg #[.string r.name, .slice r.K r.k r.kc], .agg #[.string q.name, .slice q.K q.k q.kc]] w fun e w' => e = .returned (.bool (decide (parOf r = parOf q))) ∧ Below w.heap.size w w' := by
  have hb1 : Below w.heap.size w (w.alloc (.cells #[.string r.name, .slice r.K r.k r.kc] 56)) := (Below.refl _ w).alloc (Nat.le_refl _) _
  have hb2 := (Below.refl _ (w.alloc (.cells #[.string r.name, .slice r.K r.k r.kc] 56))).alloc (Nat.le_refl _) (.cells #[.string q.name, .slice q.K q.k q.kc] 56)
  have HB := Lib.hid (bstep hb1 hb2)
  have HR := Lib.hid (h1.step (bstep hb1 hb2)).rd
  have HQ := Lib.hid (h2.step (bstep hb1 hb2)).rd
  have hk1 : r.k ≤ 9223372036854775807 := by have := h1.le; have := h1.cap; unfold maxLen at this; omega
  have hk2 : q.k ≤ 9223372036854775807 := by have := h2.le; have := h2.cap; unfold maxLen at this; omega
  have f1 := strEqL r.name q.name
  have HE := Lib.hid (parOf_eq r q)
  clear h1 h2 hb1 hb2
  go_enter Tryz.func52, Tryz.ntmps52
  by_cases hn : r.name.data.toList = q.name.data.toList
  · rw [decide_eq_true hn] at f1
    have E := Lib.hid (show decide (parOf r = parOf q) = decide (r.vs = q.vs) from decide_eq_decide.2 ⟨fun h => (HE.out.1 h).2, fun h => HE.out.2 ⟨hn, h⟩⟩)
    rw [E.out]
    have ct := pEqual_any r.K q.K r.k r.kc q.k q.kc r.vs q.vs _ HR.out HQ.out hk1 hk2
    generalize decide (r.vs = q.vs) = z at *
    clear hn
    go_wp2_with fail
    refine ct.mono ?_
    rintro e w2 ⟨rfl, m, rfl⟩
    go_wp2
    go_ret
    exact ⟨rfl, below_dr HB.out m⟩
  · rw [decide_eq_false hn] at f1
    have E := Lib.hid (show decide (parOf r = parOf q) = false from decide_eq_false (fun h => hn (HE.out.1 h).1))
    rw [E.out]
    clear hn
    go_wp2
    go_ret
    exact ⟨rfl, HB.out⟩
set_option maxRecDepth 100000 in
set_option maxHeartbeats 4000000 in
theorem equalFunc_any (L L2 : Option Addr) (n c n2 c2 : Nat) (l l2 : List PR) (w : World) (hR : Reads w w.heap.size 2 L n (encP l)) (hP : ∀ r ∈ l, POk w w.heap.size r) (hn : n ≤ 9223372036854775807)
    (hR2 : Reads w w.heap.size 2 L2 n2 (encP l2)) (hP2 : ∀ r ∈ l2, POk w w.heap.size r) (hn2 : n2 ≤ 9223372036854775807) :
    Calls Tryz.prog 51 #[.slice L n c, .slice L2 n2 c2, .func (.func 52) #[] #[]] w fun e w' => e = .returned (.bool (decide (l.map parOf = l2.map parOf))) ∧ Below w.heap.size w w' := by
  have HR := Lib.hid hR
  have HR2 := Lib.hid hR2
  have HP := Lib.hid hP
  have HP2 := Lib.hid hP2
  have HL : Hid (l.length = n ∧ l2.length = n2) := Lib.hid ⟨by have := hR.1; rw [encP_length] at this; omega, by have := hR2.1; rw [encP_length] at this; omega⟩
  clear hR hP hR2 hP2
  obtain ⟨z, hz⟩ : ∃ z, z = decide (l.map parOf = l2.map parOf) := ⟨_, rfl⟩
  rw [← hz]
  have HZ := Lib.hid hz
  clear hz
  by_cases hnm : n = n2
  · subst hnm
    have ht : ((n : Int) != (n : Int)) = false := by simp
    go_enter Tryz.func51, Tryz.ntmps51
    go_wp2
    clear ht
    go_loopg [17] n (fun g s5 wr => ∃ i : Nat, i ≤ n ∧ n - i ≤ g ∧ s5 = .int .i64 i ∧ Hid (Below w.heap.size w wr) ∧ Hid (∀ (k : Nat) (r q : PR), k < i → l[k]? = some r → l2[k]? = some q → parOf r = parOf q))
    case atStart => exact ⟨0, Nat.zero_le _, by omega, rfl, Lib.hid (Below.refl _ _), Lib.hid fun k r q hk => absurd hk (Nat.not_lt_zero _)⟩
    case round =>
      obtain ⟨i, hi, hg, rfl, HB, J⟩ := hrel
      by_cases hlt : i < n
      · obtain ⟨r, hr⟩ : ∃ r, l[i]? = some r := ⟨l[i]'(by have := HL.out.1; omega), List.getElem?_eq_getElem (by have := HL.out.1; omega)⟩
        obtain ⟨q, hq⟩ : ∃ q, l2[i]? = some q := ⟨l2[i]'(by have := HL.out.2; omega), List.getElem?_eq_getElem (by have := HL.out.2; omega)⟩
        obtain ⟨b, o, rfl, _, p0, p1⟩ := (HR.out.step HB.out).par hr
        obtain ⟨b2, o2, rfl, _, q0, q1⟩ := (HR2.out.step HB.out).par hq
        have hb1 : Below wr.heap.size wr (wr.alloc (.cells #[.string r.name, .slice r.K r.k r.kc] 56)) := (Below.refl _ wr).alloc (Nat.le_refl _) _
        have hb2 := (Below.refl _ (wr.alloc (.cells #[.string r.name, .slice r.K r.k r.kc] 56))).alloc (Nat.le_refl _) (.cells #[.string q.name, .slice q.K q.k q.kc] 56)
        have HBB := Lib.hid (bstep HB.out (bstep hb1 hb2))
        have ct := sameParam_any r q _ ((HP.out r (List.mem_of_getElem? hr)).step HBB.out) ((HP2.out q (List.mem_of_getElem? hq)).step HBB.out)
        have q0' := Lib.cell?_alloc_some (.cells #[.string r.name, .slice r.K r.k r.kc] 56) q0
        have q1' := Lib.cell?_alloc_some (.cells #[.string r.name, .slice r.K r.k r.kc] 56) q1
        by_cases hpq : parOf r = parOf q
        · have J2 : Hid (∀ (k : Nat) (r q : PR), k < i + 1 → l[k]? = some r → l2[k]? = some q → parOf r = parOf q) := Lib.hid fun k r' q' hk h1 h2 => by
            by_cases e : k = i
            · subst e
              have a1 := Option.some.inj (hr.symm.trans h1)
              have a2 := Option.some.inj (hq.symm.trans h2)
              subst a1 a2
              exact hpq
            · exact J.out k r' q' (by omega) h1 h2
          rw [decide_eq_true hpq] at ct
          clear hr hq hpq J hb1 hb2 HB
          go_wp2_with fail
          refine ct.mono ?_
          rintro e w3 ⟨rfl, hb3⟩
          have HB3 := Lib.hid (bstep HBB.out hb3)
          clear ct hb3 HBB p0 p1 q0 q1 q0' q1'
          go_wp2
          go_roundg (n - (i + 1))
          case measure => omega
          case rel => exact ⟨i + 1, by omega, by omega, by go_num, HB3, J2⟩
        · have E : Hid (z = false) := Lib.hid (HZ.out.trans (decide_eq_false (fun e => hpq (by
            have := congrArg (·[i]?) e
            simp only [List.getElem?_map, hr, hq, Option.map_some, Option.some.injEq] at this
            exact this))))
          rw [decide_eq_false hpq] at ct
          clear hr hq hpq J hb1 hb2 HB
          go_wp2_with fail
          refine ct.mono ?_
          rintro e w3 ⟨rfl, hb3⟩
          have HB3 := Lib.hid (bstep HBB.out hb3)
          clear ct hb3 HBB p0 p1 q0 q1 q0' q1'
          go_wp2
          go_ret
          rw [E.out]
          exact ⟨rfl, HB3.out⟩
      · obtain rfl : i = n := by omega
        have E : Hid (z = true) := Lib.hid (HZ.out.trans (decide_eq_true (by
          refine List.ext_getElem? fun k => ?_
          rw [List.getElem?_map, List.getElem?_map]
          by_cases hk : k < l.length
          · rw [List.getElem?_eq_getElem hk, List.getElem?_eq_getElem (by rw [HL.out.2, ← HL.out.1]; exact hk), Option.map_some, Option.map_some, J.out k _ _ (by rw [← HL.out.1]; exact hk) (List.getElem?_eq_getElem hk) (List.getElem?_eq_getElem (by rw [HL.out.2, ← HL.out.1]; exact hk))]
          · rw [List.getElem?_eq_none (by omega), List.getElem?_eq_none (by rw [HL.out.2, ← HL.out.1]; omega)])))
        go_wp2
        go_ret
        rw [E.out]
        exact ⟨rfl, HB.out⟩
  · have ht : ((n : Int) != (n2 : Int)) = true := by simp only [bne_iff_ne, ne_eq]; omega
    have E : Hid (z = false) := Lib.hid (HZ.out.trans (decide_eq_false (fun e => hnm (by
      have := congrArg List.length e
      simp only [List.length_map] at this
      rw [← HL.out.1, ← HL.out.2, this]))))
    go_enter Tryz.func51, Tryz.ntmps51
    go_wp2
    go_ret
    rw [E.out]
    exact ⟨rfl, Below.refl _ _⟩
set_option maxRecDepth 100000 in
set_option maxHeartbeats 4000000 in
theorem pSame_x (nm vl nm2 vl2 : ByteArray) (L L2 : Option Addr) (n c n2 c2 : Nat) (l l2 : List PR) (w : World) (hR : Reads w w.heap.size 2 L n (encP l)) (hP : ∀ r ∈ l, POk w w.heap.size r) (hn : n ≤ c) (hc : c ≤ maxLen)
    (hR2 : Reads w w.heap.size 2 L2 n2 (encP l2)) (hP2 : ∀ r ∈ l2, POk w w.heap.size r) (hn2 : n2 ≤ c2) (hc2 : c2 ≤ maxLen) :
    Calls Tryz.prog 30 #[.agg #[.string nm, .slice L n c, .string vl], .agg #[.string nm2, .slice L2 n2 c2, .string vl2]] w fun e w' => e = .returned (.bool (decide (proOf nm l vl = proOf nm2 l2 vl2))) ∧ Below w.heap.size w w' := by
  have hb1 : Below w.heap.size w (w.alloc (.cells #[.string nm, .slice L n c, .string vl] 30)) := (Below.refl _ w).alloc (Nat.le_refl _) _
  have hb2 := (Below.refl _ (w.alloc (.cells #[.string nm, .slice L n c, .string vl] 30))).alloc (Nat.le_refl _) (.cells #[.string nm2, .slice L2 n2 c2, .string vl2] 30)
  have hb := bstep hb1 hb2
  have hnm : n ≤ 9223372036854775807 := by have := hc; unfold maxLen at this; omega
  have hnm2 : n2 ≤ 9223372036854775807 := by have := hc2; unfold maxLen at this; omega
  have ct := equalFunc_any L L2 n c n2 c2 l l2 _ (hR.step hb) (fun r hr => (hP r hr).step hb) hnm (hR2.step hb) (fun r hr => (hP2 r hr).step hb) hnm2
  have HB := Lib.hid hb
  have f1 := strEqL nm nm2
  have f2 := strEqL vl vl2
  have E : decide (proOf nm l vl = proOf nm2 l2 vl2) = ((decide (nm.data.toList = nm2.data.toList) && decide (vl.data.toList = vl2.data.toList)) && decide (l.map parOf = l2.map parOf)) := by
    unfold proOf
    rw [Bool.eq_iff_iff]
    simp only [Pro.mk.injEq, Bool.and_eq_true, decide_eq_true_eq]
    exact ⟨fun h => ⟨⟨h.1, h.2.2⟩, h.2.1⟩, fun h => ⟨h.1.1, h.2, h.1.2⟩⟩
  rw [E]
  generalize decide (nm.data.toList = nm2.data.toList) = x1 at *
  generalize decide (vl.data.toList = vl2.data.toList) = x2 at *
  generalize decide (l.map parOf = l2.map parOf) = x3 at *
  clear hR hP hn hc hR2 hP2 hn2 hc2 hb1 hb2 hb E
  cases x1
  · go_enter Tryz.func30, Tryz.ntmps30
    go_wp2
    go_ret
    exact ⟨rfl, HB.out⟩
  cases x2
  · go_enter Tryz.func30, Tryz.ntmps30
    go_wp2
    go_ret
    exact ⟨rfl, HB.out⟩
  · go_enter Tryz.func30, Tryz.ntmps30
    go_wp2_with fail
    refine ct.mono ?_
    rintro e w3 ⟨rfl, hb3⟩
    have HB3 := Lib.hid (bstep HB.out hb3)
    clear ct hb3 HB
    cases x3
    all_goals
      (go_wp2
       go_ret
       exact ⟨rfl, HB3.out⟩)
end Go.Proofs.YtlfhhnjdfpgadaaGreatDoor
