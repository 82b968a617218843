/-
  The program's functions of layer 11: lines unfolded.
-/
import Derived.Test.YtlfhhnjdfpgadaaGreatDoorG23
import Derived.Test.YtlfhhnjdfpgadaaGreatDoorG24
import Derived.Test.YtlfhhnjdfpgadaaGreatDoorG09
namespace Go.Proofs.YtlfhhnjdfpgadaaGreatDoor
open Go.RowKit Go.Shelf
attribute [local go_sem] Oper.semAt_some

/-- Between two lines: the answer's two variables, the lines so far. -/
structure Un (w W : World) (v : Value) (n : Nat) (out : List ByteArray) : Prop where
  b2 : Boxed W w.heap.size 46 (.slice none 0 0)
  b3 : Boxed W (w.heap.size + 1) 40 (.int .i64 0)
  bl : Boxed W (w.heap.size + 1 + 1) 46 v
  row : W.ownsRow (w.heap.size + 4) 9 1 v n (encS out)
  bel : Below w.heap.size w W
theorem own_set {w : World} {base g cap n i : Nat} {e : TypeId} {xs : List Value} {u : Value} (h : w.ownsRow base e 1 (.slice (some ⟨g, 0, none⟩) n cap) n xs) (_hi : i < n) : (w.setCell ⟨g, i, none⟩ u).ownsRow base e 1 (.slice (some ⟨g, 0, none⟩) n cap) n (xs.set i u) := by
  refine ⟨by rw [List.length_set]; exact h.1, ?_⟩
  rcases h.2 with ⟨e0, _⟩ | ⟨g', cap', cur, e0, hb, hg, hn, hm, hs, ht⟩
  · cases e0
  · injection e0 with e1 _ e3
    injection e1 with e1
    injection e1 with e1
    subst e1; subst e3
    refine .inr ⟨g, cap, cur.setIfInBounds i u, rfl, hb, ?_, hn, hm, by simpa using hs, ?_⟩
    · simp [World.setCell, Array.getElem?_modify, hg]
    · rw [← ht, Array.toList_setIfInBounds, List.take_set]
section
variable {w W W' w1 : World} {v v' : Value} {n : Nat} {out : List ByteArray}
theorem Un.cells (h : Un w W v n out) (hk : ∀ (k : Nat) (o : Obj), W.heap[k]? = some o → o.isCells = true → W'.heap[k]? = some o) (hb : Below w.heap.size W W') : Un w W' v n out := by
  refine ⟨hk _ _ h.b2 rfl, hk _ _ h.b3 rfl, hk _ _ h.bl rfl, ⟨h.row.1, ?_⟩, h.bel.trans hb⟩
  rcases h.row.2 with h0 | ⟨g, cap, cur, e, h1, h2, h3⟩
  · exact .inl h0
  · exact .inr ⟨g, cap, cur, e, h1, hk _ _ h2 rfl, h3⟩
theorem Un.below (h : Un w W v n out) (hb : Below W.heap.size W W') : Un w W' v n out :=
  h.cells (fun k _o hk _ => (hb.block k (Array.getElem?_eq_some_iff.1 hk).1).trans hk) (hb.mono h.bel.size)
/-- A line more. -/
theorem Un.append {tmp : Obj} {x : ByteArray} (h : Un w W v n out) (hown' : w1.ownsRow (w.heap.size + 4) 9 1 v' (n + 1) (encS (out ++ [x]))) (hgrow : (W.alloc tmp).grownBy w1 v.ownBlock) :
    Un w (w1.setCell ⟨w.heap.size + 1 + 1, 0, none⟩ v') v' (n + 1) (out ++ [x]) ∧ KeepsOthers W (w1.setCell ⟨w.heap.size + 1 + 1, 0, none⟩ v') ∧ Below w.heap.size W (w1.setCell ⟨w.heap.size + 1 + 1, 0, none⟩ v') ∧ (∀ X, X < W.heap.size → X < w.heap.size + 4 → X ≠ w.heap.size + 1 + 1 → (w1.setCell ⟨w.heap.size + 1 + 1, 0, none⟩ v').heap[X]? = W.heap[X]?) ∧ Boxed w1 (w.heap.size + 1 + 1) 46 v := by
  have hge := own_row_ge h.row
  have b2 := (h.b2.alloc tmp).kept hgrow (h.b2.not_row (by decide) h.row)
  have b3 := (h.b3.alloc tmp).kept hgrow (h.b3.not_row (by decide) h.row)
  have bl := (h.bl.alloc tmp).kept hgrow (h.bl.not_row (by decide) h.row)
  have hb1 : Below w.heap.size W w1 := ((Below.refl _ W).alloc h.bel.size tmp).grown hgrow (by have := h.bel.size; simp; omega) (fun k e => by have := hge k e; omega)
  have hset : ∀ k, k ≠ w.heap.size + 1 + 1 → (w1.setCell ⟨w.heap.size + 1 + 1, 0, none⟩ v').heap[k]? = w1.heap[k]? := fun k hk => Below.heap_setCell w1 ⟨w.heap.size + 1 + 1, 0, none⟩ v' k hk
  refine ⟨⟨(hset _ (by omega)).trans b2, (hset _ (by omega)).trans b3, bl.set v', hown'.kept (grownBy_setCell' w1 _ v') (.inr (bl.not_row (by decide) hown').symm), h.bel.trans (hb1.setCell (p := ⟨w.heap.size + 1 + 1, 0, none⟩) (by show w.heap.size ≤ w.heap.size + 1 + 1; omega) v')⟩, ?_, hb1.setCell (p := ⟨w.heap.size + 1 + 1, 0, none⟩) (by show w.heap.size ≤ w.heap.size + 1 + 1; omega) v', fun X hX hX4 hX2 => ?_, bl⟩
  · refine ((KeepsOthers.alloc W tmp).trans (KeepsOthers.of_grownBy hgrow fun j o ej hj => ?_)).trans (KeepsOthers.setCell _ _ _)
    rcases (own_alloc h.row tmp).2 with ⟨rfl, _⟩ | ⟨g, cap, cur, rfl, _, hgb, _⟩
    · simp [Value.ownBlock] at ej
    · obtain rfl : j = g := by simpa [Value.ownBlock] using ej.symm
      rw [hj] at hgb
      injection hgb with hgb
      rw [hgb]; rfl
  · rw [hset X hX2, hgrow.block X (by simp; omega) (fun e => by have := hge X e.symm; omega), @heap_alloc_old W tmp X hX]
end
/-- The lines that have come, joined. -/
structure InvU (w w4 : World) (X : Nat) (pre : List Lin) (W : World) : Prop where
  ex : ∃ (A : Option Addr) (n c : Nat) (out : List ByteArray), Un w W (.slice A n c) n out ∧ joinP (pre.map fun x => x.1.data.toList) [] = some (out.map fun b => b.data.toList) ∧ (∀ b ∈ out, b.size ≤ 8192 * pre.length) ∧ n ≤ pre.length
  box : W.heap[X]? = w4.heap[X]?
/-- The first line goes on with none. -/
structure OutU (w : World) (cc : Code) (pre : List Lin) (W : World) : Prop where
  cc : cc = .ret
  no : joinP (pre.map fun x => x.1.data.toList) [] = none
  b2 : Boxed W w.heap.size 46 (.slice none 0 0)
  b3 : Boxed W (w.heap.size + 1) 40 (.int .i64 10)
  bel : Below w.heap.size w W
theorem invU_own {w w4 : World} {X : Nat} (hw : w.heap.size ≤ w4.heap.size) (hX : X < w4.heap.size) : OwnFrom w4.heap.size (InvU w w4 X) := by
  rintro pre A B row ⟨⟨A1, n, c, out, h1, h2, h3, h4⟩, h5⟩ hg hr
  have hcell : ∀ (k : Nat) (o : Obj), A.heap[k]? = some o → o.isCells = true → B.heap[k]? = some o := fun k o ho hc => by
    refine (hg.block k (Array.getElem?_eq_some_iff.1 ho).1 (fun e => ?_)).trans ho
    obtain ⟨_, o', ho', hc'⟩ := hr k e.symm
    rw [ho] at ho'
    injection ho' with ho'
    subst ho'
    rw [hc] at hc'
    cases hc'
  have hbel : Below w.heap.size A B := (Below.refl _ A).grown hg h1.bel.size (fun k e => by obtain ⟨h, _⟩ := hr k e; omega)
  have hXA : X < A.heap.size := by
    rcases Nat.lt_or_ge X A.heap.size with h | h
    · exact h
    · rw [Array.getElem?_eq_none h, Array.getElem?_eq_getElem hX] at h5; cases h5
  exact ⟨⟨A1, n, c, out, h1.cells hcell hbel, h2, h3, h4⟩, (hg.block X hXA (fun e => by obtain ⟨h, _⟩ := hr X e.symm; omega)).trans h5⟩
theorem outU_own {w w4 : World} (hw : w.heap.size ≤ w4.heap.size) (cc : Code) : OwnFrom w4.heap.size (OutU w cc) := by
  rintro pre A B row ⟨h1, h2, h3, h4, h5⟩ hg hr
  have hcell : ∀ (k : Nat) (o : Obj), A.heap[k]? = some o → o.isCells = true → B.heap[k]? = some o := fun k o ho hc => by
    refine (hg.block k (Array.getElem?_eq_some_iff.1 ho).1 (fun e => ?_)).trans ho
    obtain ⟨_, o', ho', hc'⟩ := hr k e.symm
    rw [ho] at ho'
    injection ho' with ho'
    subst ho'
    rw [hc] at hc'
    cases hc'
  exact ⟨h1, h2, hcell _ _ h3 rfl, hcell _ _ h4 rfl, h5.trans ((Below.refl _ A).grown hg h5.size (fun k e => by obtain ⟨h, _⟩ := hr k e; omega))⟩
theorem results_cc {P : Program} {fn : Func} {t u : Tmp} {T V : TypeId} (h : fn.results = #[.cell t T, .cell u V]) (tmps : Array Value) {w : World} {a b : Addr} {v v2 : Value} (ht : tmps.getD t undef = .pointer (some a)) (hu : tmps.getD u undef = .pointer (some b)) (hv : (Go.loadVar T a).run P w = .ok v w) (hv2 : (Go.loadVar V b).run P w = .ok v2 w) :
    (results fn tmps).run P w = .ok (.tuple #[v, v2]) w := by
  have ht2 : tmps[t]?.getD undef = .pointer (some a) := by rw [← Array.getD_eq_getD_getElem?]; exact ht
  have hu2 : tmps[u]?.getD undef = .pointer (some b) := by rw [← Array.getD_eq_getD_getElem?]; exact hu
  simp [results, h, ht2, hu2, asAddr, hv, hv2]
theorem load_ss {w : World} {g : Nat} {v : Value} (h : Boxed w g 46 v) : (Go.loadVar 46 ⟨g, 0, none⟩).run Tryz.prog w = .ok v w := by
  have a0 := h.cell
  unfold loadVar
  go_simp
theorem load_er {w : World} {g : Nat} {v : Value} (h : Boxed w g 40 v) : (Go.loadVar 40 ⟨g, 0, none⟩).run Tryz.prog w = .ok v w := by
  have a0 := h.cell
  unfold loadVar
  go_simp
/-- Whether a line goes on with the one ahead, as the program asks. -/
theorem goes_ix (xs : ByteArray) : (goesL xs.data.toList = false ∧ (!xs.toList.isEmpty) = false) ∨ (∃ h : 0 < xs.size, (!xs.toList.isEmpty) = true ∧ goesL xs.data.toList = decide (0 ≤ Lib.indexByte [32, 9] (xs[0]'h))) := by
  rw [Lib.toList_data]
  by_cases h : 0 < xs.size
  · refine .inr ⟨h, ?_, ?_⟩
    · have : xs.data.toList ≠ [] := List.length_pos_iff.1 (by rw [← bsize]; exact h)
      simpa using this
    · have e : xs.data.toList = (xs[0]'h) :: xs.data.toList.drop 1 := by
        have := List.drop_eq_getElem_cons (l := xs.data.toList) (i := 0) (by rw [← bsize]; exact h)
        rw [List.drop_zero] at this
        exact this
      have hd : ∀ c : UInt8, (some c == some 32 || some c == some 9) = decide (0 ≤ Lib.indexByte [32, 9] c) := fun c => by
        have : ∀ y : Fin 256, (some (UInt8.ofNat y.val) == some 32 || some (UInt8.ofNat y.val) == some 9) = decide (0 ≤ Lib.indexByte [32, 9] (UInt8.ofNat y.val)) := by decide +kernel
        simpa using this ⟨c.toNat, c.toNat_lt⟩
      unfold goesL
      rw [e, List.head?_cons]
      exact hd _
  · have e : xs.data.toList = [] := List.eq_nil_of_length_eq_zero (by rw [← bsize]; omega)
    rw [e]
    exact .inl ⟨rfl, rfl⟩
theorem own_strs {w : World} {base n c : Nat} {A : Option Addr} {out : List ByteArray} (h : w.ownsRow base 9 1 (.slice A n c) n (encS out)) (hn : 0 < n) :
    ∃ g, A = some ⟨g, 0, none⟩ ∧ base ≤ g ∧ (∀ i, i < n → w.cell? ⟨g, i, none⟩ = some (.string (blk out i))) ∧ (∀ i, w.frozen? ⟨g, i, none⟩ = false) ∧ (∃ cur, w.heap[g]? = some (.cells cur 9 (0, 0))) ∧ g < w.heap.size := by
  have hr := Reads.of_own h
  have hl : out.length = n := by have := h.1; rw [encS_length] at this; omega
  rcases h.2 with ⟨e0, _⟩ | ⟨g, cap, cur, e0, hb, hg, hcn, hm, hs, ht⟩
  · injection e0 with _ e2 _; omega
  · injection e0 with e1 _ _
    refine ⟨g, e1, hb, fun i hi => ?_, fun i => by simp [World.frozen?, hg], ⟨cur, hg⟩, (Array.getElem?_eq_some_iff.1 hg).1⟩
    obtain ⟨b1, o1, e, _, hc⟩ := hr.str hi
    rw [e1] at e
    injection e with e
    injection e with e2 e3
    subst e2; subst e3
    simpa using hc
/-- The last line goes on. -/
theorem un_turn {w W : World} {g n c X : Nat} {out : List ByteArray} (h : Un w W (.slice (some ⟨g, 0, none⟩) n c) n out) (hn : 0 < n) (u : ByteArray) (hX : X < w.heap.size + 4) (hg : w.heap.size + 4 ≤ g) :
    Un w (W.drew.setCell ⟨g, n - 1, none⟩ (.string u)) (.slice (some ⟨g, 0, none⟩) n c) n (out.set (n - 1) u) ∧ KpL w.heap.size X W (W.drew.setCell ⟨g, n - 1, none⟩ (.string u)) := by
  have hset : ∀ k, k ≠ g → (W.drew.setCell ⟨g, n - 1, none⟩ (.string u)).heap[k]? = W.heap[k]? := fun k hk => Below.heap_setCell W.drew ⟨g, n - 1, none⟩ _ k hk
  have hb : Below w.heap.size W (W.drew.setCell ⟨g, n - 1, none⟩ (.string u)) := ((Below.refl _ W).drew).setCell (p := ⟨g, n - 1, none⟩) (by show w.heap.size ≤ g; omega) _
  refine ⟨⟨(hset _ (by omega)).trans h.b2, (hset _ (by omega)).trans h.b3, (hset _ (by omega)).trans h.bl, ?_, h.bel.trans hb⟩, ⟨hb, hset X (by omega)⟩⟩
  have := own_set (u := .string u) (show W.drew.ownsRow (w.heap.size + 4) 9 1 (.slice (some ⟨g, 0, none⟩) n c) n (encS out) from h.row) (show n - 1 < n by omega)
  rw [show encS (out.set (n - 1) u) = (encS out).set (n - 1) (.string u) by simp [encS, List.map_set]]
  exact this
theorem set_last {out : List ByteArray} {n : Nat} (hl : out.length = n) (hn : 0 < n) {u : ByteArray} {tail : List UInt8} (hu : u.data.toList = (blk out (n - 1)).data.toList ++ tail) :
    ((out.set (n - 1) u).map fun b => b.data.toList) = (out.map fun b => b.data.toList).dropLast ++ [(out.map fun b => b.data.toList).getLastD [] ++ tail] := by
  rcases List.eq_nil_or_concat out with rfl | ⟨f, z, rfl⟩
  · simp at hl; omega
  · rw [List.concat_eq_append] at hl hu ⊢
    rw [List.length_append, List.length_singleton] at hl
    have e : n - 1 = f.length := by omega
    rw [e] at hu ⊢
    have hz : blk (f ++ [z]) f.length = z := by unfold blk; simp
    rw [hz] at hu
    simp [hu]
theorem own_sliceU {w : World} {base : Nat} {e : TypeId} {size n c : Nat} {A : Option Addr} {xs : List Value} (h : w.ownsRow base e size (.slice A n c) n xs) : n ≤ c ∧ c ≤ maxLen := by
  rcases h.2 with ⟨e, h0⟩ | ⟨g, cap, cur, e, _, _, h1, h2, _⟩
  · injection e with _ e2 e3; subst e2; subst e3; exact ⟨Nat.le_refl _, by unfold maxLen; omega⟩
  · injection e with _ _ e3; subst e3; exact ⟨h1, h2⟩
/-- The answer is an error. -/
theorem unf_err {w W : World} {v : Value} {n D : Nat} {out : List ByteArray} (h : Un w W v n out) (hD : W.heap[D]? = some (.deferred (some []))) (hge : w.heap.size + 4 ≤ D) (k : Int) :
    ((W.setCell ⟨w.heap.size, 0, none⟩ (.slice none 0 0)).setCell ⟨w.heap.size + 1, 0, none⟩ (.int .i64 k)).heap[D]? = some (.deferred (some [])) ∧
    (Go.loadVar 46 ⟨w.heap.size, 0, none⟩).run Tryz.prog (((W.setCell ⟨w.heap.size, 0, none⟩ (.slice none 0 0)).setCell ⟨w.heap.size + 1, 0, none⟩ (.int .i64 k)).putObj D (.deferred none)) = .ok (.slice none 0 0) (((W.setCell ⟨w.heap.size, 0, none⟩ (.slice none 0 0)).setCell ⟨w.heap.size + 1, 0, none⟩ (.int .i64 k)).putObj D (.deferred none)) ∧
    (Go.loadVar 40 ⟨w.heap.size + 1, 0, none⟩).run Tryz.prog (((W.setCell ⟨w.heap.size, 0, none⟩ (.slice none 0 0)).setCell ⟨w.heap.size + 1, 0, none⟩ (.int .i64 k)).putObj D (.deferred none)) = .ok (.int .i64 k) (((W.setCell ⟨w.heap.size, 0, none⟩ (.slice none 0 0)).setCell ⟨w.heap.size + 1, 0, none⟩ (.int .i64 k)).putObj D (.deferred none)) ∧
    Below w.heap.size w (((W.setCell ⟨w.heap.size, 0, none⟩ (.slice none 0 0)).setCell ⟨w.heap.size + 1, 0, none⟩ (.int .i64 k)).putObj D (.deferred none)) := by
  have b2 := (h.b2.set (.slice none 0 0)).kept (grownBy_setCell' _ (w.heap.size + 1) (.int .i64 k)) (by simp)
  have b3 := (h.b3.kept (grownBy_setCell' W w.heap.size (.slice none 0 0)) (by simp)).set (.int .i64 k)
  have hD1 : (W.setCell ⟨w.heap.size, 0, none⟩ (.slice none 0 0)).heap[D]? = _ := (Below.heap_setCell W ⟨w.heap.size, 0, none⟩ (.slice none 0 0) D (by show D ≠ w.heap.size; omega)).trans hD
  have hD2 := (Below.heap_setCell (W.setCell ⟨w.heap.size, 0, none⟩ (.slice none 0 0)) ⟨w.heap.size + 1, 0, none⟩ (.int .i64 k) D (by show D ≠ w.heap.size + 1; omega)).trans hD1
  have hb := (h.bel.setCell (p := ⟨w.heap.size, 0, none⟩) (Nat.le_refl _) (.slice none 0 0)).setCell (p := ⟨w.heap.size + 1, 0, none⟩) (by show w.heap.size ≤ w.heap.size + 1; omega) (.int .i64 k)
  have hlt := (Array.getElem?_eq_some_iff.1 hD2).1
  exact ⟨hD2, load_ss ((World.putObj_heap_other (by omega)).trans b2), load_er ((World.putObj_heap_other (by omega)).trans b3), hb.trans (belowD_put (by omega) hlt)⟩
/-- The answer is the lines. -/
theorem unf_okay {w W : World} {A : Option Addr} {n c D : Nat} {out : List ByteArray} (h : Un w W (.slice A n c) n out) (hD : W.heap[D]? = some (.deferred (some []))) (hge : w.heap.size + 4 ≤ D) :
    ((W.setCell ⟨w.heap.size, 0, none⟩ (.slice A n c)).setCell ⟨w.heap.size + 1, 0, none⟩ (.int .i64 0)).heap[D]? = some (.deferred (some [])) ∧
    (Go.loadVar 46 ⟨w.heap.size, 0, none⟩).run Tryz.prog (((W.setCell ⟨w.heap.size, 0, none⟩ (.slice A n c)).setCell ⟨w.heap.size + 1, 0, none⟩ (.int .i64 0)).putObj D (.deferred none)) = .ok (.slice A n c) (((W.setCell ⟨w.heap.size, 0, none⟩ (.slice A n c)).setCell ⟨w.heap.size + 1, 0, none⟩ (.int .i64 0)).putObj D (.deferred none)) ∧
    (Go.loadVar 40 ⟨w.heap.size + 1, 0, none⟩).run Tryz.prog (((W.setCell ⟨w.heap.size, 0, none⟩ (.slice A n c)).setCell ⟨w.heap.size + 1, 0, none⟩ (.int .i64 0)).putObj D (.deferred none)) = .ok (.int .i64 0) (((W.setCell ⟨w.heap.size, 0, none⟩ (.slice A n c)).setCell ⟨w.heap.size + 1, 0, none⟩ (.int .i64 0)).putObj D (.deferred none)) ∧
    Reads (((W.setCell ⟨w.heap.size, 0, none⟩ (.slice A n c)).setCell ⟨w.heap.size + 1, 0, none⟩ (.int .i64 0)).putObj D (.deferred none)) (((W.setCell ⟨w.heap.size, 0, none⟩ (.slice A n c)).setCell ⟨w.heap.size + 1, 0, none⟩ (.int .i64 0)).putObj D (.deferred none)).heap.size 1 A n (encS out) ∧
    Below w.heap.size w (((W.setCell ⟨w.heap.size, 0, none⟩ (.slice A n c)).setCell ⟨w.heap.size + 1, 0, none⟩ (.int .i64 0)).putObj D (.deferred none)) := by
  have b2 := (h.b2.set (.slice A n c)).kept (grownBy_setCell' _ (w.heap.size + 1) (.int .i64 0)) (by simp)
  have b3 := (h.b3.kept (grownBy_setCell' W w.heap.size (.slice A n c)) (by simp)).set (.int .i64 0)
  have hD1 : (W.setCell ⟨w.heap.size, 0, none⟩ (.slice A n c)).heap[D]? = _ := (Below.heap_setCell W ⟨w.heap.size, 0, none⟩ (.slice A n c) D (by show D ≠ w.heap.size; omega)).trans hD
  have hD2 := (Below.heap_setCell (W.setCell ⟨w.heap.size, 0, none⟩ (.slice A n c)) ⟨w.heap.size + 1, 0, none⟩ (.int .i64 0) D (by show D ≠ w.heap.size + 1; omega)).trans hD1
  have hb := (h.bel.setCell (p := ⟨w.heap.size, 0, none⟩) (Nat.le_refl _) (.slice A n c)).setCell (p := ⟨w.heap.size + 1, 0, none⟩) (by show w.heap.size ≤ w.heap.size + 1; omega) (.int .i64 0)
  have hlt := (Array.getElem?_eq_some_iff.1 hD2).1
  have r1 := h.row.kept (grownBy_setCell' W w.heap.size (.slice A n c)) (.inr (h.b2.not_row (by decide) h.row).symm)
  have r2 := r1.kept (grownBy_setCell' _ (w.heap.size + 1) (.int .i64 0)) (.inr ((h.b3.kept (grownBy_setCell' W w.heap.size (.slice A n c)) (by simp)).not_row (by decide) r1).symm)
  have r3 := r2.kept (grownBy_putObj' _ D (.deferred none)) (.inr (fun e => by
    rcases r2.2 with ⟨e0, _⟩ | ⟨g, cap, cur, e0, _, hg, _⟩
    · rw [e0] at e; simp [Value.ownBlock] at e
    · rw [e0] at e
      have : g = D := by simpa [Value.ownBlock] using e
      subst this
      rw [hD2] at hg; cases hg))
  exact ⟨hD2, load_ss ((World.putObj_heap_other (by omega)).trans b2), load_er ((World.putObj_heap_other (by omega)).trans b3), Reads.of_own r3, hb.trans (belowD_put (by omega) hlt)⟩
set_option maxRecDepth 100000 in
set_option maxHeartbeats 8000000 in
theorem pUnfold_x (s : ByteArray) (hs : s.size ≤ 16777216) (w : World) (hM : MaxLn w) : Calls Tryz.prog 32 #[.string s] w fun e w' =>
    ∃ (A : Option Addr) (n c : Nat) (bs : List ByteArray), e = .returned (.tuple #[.slice A n c, .int .i64 (unfQ s.data.toList).2]) ∧ (bs.map fun b => b.data.toList) = (unfQ s.data.toList).1 ∧ Reads w' w'.heap.size 1 A n (encS bs) ∧ n ≤ c ∧ c ≤ maxLen ∧ Below w.heap.size w w' := by
  refine (callsIn_wide (n := 3)).1 ?_
  refine callsIn_of_wp_marks Tryz.func32 rfl trivial ?_ rfl
  refine wpIn_wide.2 ?_
  simp only [Tryz.ntmps32, List.size_toArray, List.length_cons, List.length_nil, Nat.reduceAdd, Nat.reduceSub, Array.replicate_succ, Array.replicate_zero, List.push_toArray, List.append_toArray, List.nil_append, List.cons_append]
  have hlen := Lib.hid (bsize s)
  have HM := Lib.hid hM
  have HML := Lib.hid hM.lt
  have HU := Lib.hid (show unfQ s.data.toList = if 8192 < s.data.toList.length then ([], 12) else match joinP (rawG s.data.toList []) [] with | none => ([], 10) | some l => if chkP 0 l = 0 then (l, 0) else ([], chkP 0 l) from rfl)
  obtain ⟨U, hU⟩ : ∃ U, unfQ s.data.toList = U := ⟨_, rfl⟩
  rw [hU] at HU ⊢
  clear hU hM
  by_cases h1 : 8192 < s.size
  · have h1i : (8192 : Int) < (s.size : Int) := by omega
    rw [if_pos (by rw [← hlen.out]; exact h1)] at HU
    have b2 := (Boxed.new w 46 (.slice none 0 0)).alloc (.cells #[.int .i64 12] 40)
    have b3 := Boxed.new (w.alloc (.cells #[.slice none 0 0] 46)) 40 (.int .i64 12)
    rw [World.size_alloc] at b3
    have HB := Lib.hid (bstep ((Below.refl _ w).alloc (Nat.le_refl _) _) ((Below.refl _ (w.alloc (.cells #[.slice none 0 0] 46))).alloc (Nat.le_refl _) (.cells #[.int .i64 12] 40)))
    have L2 := Lib.hid (load_ss b2)
    have L3 := Lib.hid (load_er b3)
    clear b2 b3
    go_wp2
    exact ⟨_, results_cc rfl _ rfl rfl L2.out L3.out, none, 0, 0, [], by rw [HU.out], by rw [HU.out]; rfl, Reads.nil, Nat.le_refl _, by unfold maxLen; omega, HB.out⟩
  · have h1i : ¬ (8192 : Int) < (s.size : Int) := by omega
    rw [if_neg (by rw [← hlen.out]; exact h1)] at HU
    have b2 := ((Boxed.new w 46 (.slice none 0 0)).alloc (.cells #[.int .i64 0] 40)).alloc (.cells #[.slice none 0 0] 46)
    have b3 := (Boxed.new (w.alloc (.cells #[.slice none 0 0] 46)) 40 (.int .i64 0)).alloc (.cells #[.slice none 0 0] 46)
    have bl := Boxed.new ((w.alloc (.cells #[.slice none 0 0] 46)).alloc (.cells #[.int .i64 0] 40)) 46 (.slice none 0 0)
    have hbx := Boxed.new (((w.alloc (.cells #[.slice none 0 0] 46)).alloc (.cells #[.int .i64 0] 40)).alloc (.cells #[.slice none 0 0] 46)) 9 (.string s)
    simp only [World.size_alloc] at b2 b3 bl hbx
    have hb3 := bstep (bstep ((Below.refl _ w).alloc (Nat.le_refl _) _) ((Below.refl _ (w.alloc (.cells #[.slice none 0 0] 46))).alloc (Nat.le_refl _) (.cells #[.int .i64 0] 40))) ((Below.refl _ ((w.alloc (.cells #[.slice none 0 0] 46)).alloc (.cells #[.int .i64 0] 40))).alloc (Nat.le_refl _) (.cells #[.slice none 0 0] 46))
    have hb4 := (Below.refl _ (((w.alloc (.cells #[.slice none 0 0] 46)).alloc (.cells #[.int .i64 0] 40)).alloc (.cells #[.slice none 0 0] 46))).alloc (Nat.le_refl _) (.cells #[.string s] 9)
    have U0 : Un w ((((w.alloc (.cells #[.slice none 0 0] 46)).alloc (.cells #[.int .i64 0] 40)).alloc (.cells #[.slice none 0 0] 46)).alloc (.cells #[.string s] 9)) (.slice none 0 0) 0 [] := ⟨b2.alloc _, b3.alloc _, bl.alloc _, own_nil, bstep hb3 hb4⟩
    have hz4 : ((((w.alloc (.cells #[.slice none 0 0] 46)).alloc (.cells #[.int .i64 0] 40)).alloc (.cells #[.slice none 0 0] 46)).alloc (.cells #[.string s] 9)).heap.size = w.heap.size + 4 := by simp
    clear b2 b3 bl hb3 hb4
    go_wp2_with (go_at_call 53; refine ((callsIn_wide (n := 2)).1 (linFn_in 2 _ _)).mono ?_; rintro e w' ⟨rfl, rfl⟩)
    refine (wpIn_wide (n := 3)).1 ?_
    generalize (((w.alloc (.cells #[.slice none 0 0] 46)).alloc (.cells #[.int .i64 0] 40)).alloc (.cells #[.slice none 0 0] 46)).alloc (.cells #[.string s] 9) = w4 at U0 hbx hz4 ⊢
    have HU0 := Lib.hid U0
    have HZ4 := Lib.hid hz4
    have HBX := Lib.hid hbx
    clear U0
    refine wpIn_rangeFunc_ownG rfl (by omega) (gf := 72) (lb := #[.pointer (some ⟨w.heap.size + 1 + 1 + 1, 0, none⟩)]) rfl trivial (enters_of Tryz.func72 (by kernel_rfl) rfl)
      (lin_stops 2 (by omega) (w.heap.size + 1 + 1 + 1) w.heap.size s (by omega) w4 (by omega) hbx.cell HML.out (by omega) (HM.out.step HU0.out.bel)) KpL.trans (kpL_put (by omega) (by omega)) (Below.refl _ _) (fun _ => rfl)
      (InvU w w4 (w.heap.size + 1 + 1 + 1)) (OutU w) (invU_own (by omega) (by omega)) (outU_own (by omega)) ⟨⟨none, 0, 0, [], HU0.out, rfl, (fun b hb => by cases hb), Nat.le_refl _⟩, rfl⟩
      (fun x => { tmps := #[.string s, undef, .pointer (some ⟨w.heap.size, 0, none⟩), .pointer (some ⟨w.heap.size + 1, 0, none⟩), .pointer (some ⟨w.heap.size + 1 + 1, 0, none⟩), .string x.1, undef, undef, undef, .string s, .int .i64 s.size, .bool false, .string s, .func (.func 72) #[] #[.pointer (some ⟨w.heap.size + 1 + 1 + 1, 0, none⟩)], .string x.1, undef, undef, undef, undef, undef, undef, undef, undef, undef, undef, undef, undef, undef, undef, undef, undef, undef, undef, undef, undef, undef, undef, undef, undef, undef, undef, undef, undef, undef, undef, undef, undef, undef, undef, undef, undef, undef, undef, undef, undef, undef, undef, undef, undef, undef, undef, undef, undef], defers := [] }) ?assign ?body ?done ?stop
    case assign =>
      intro l x W K hK
      gi_wp2
      exact hK
    case body =>
      rintro l pre x W ⟨⟨A, n, c, out, hU1, hj, hsz, hnp⟩, hbox⟩ hlN
      obtain ⟨xs, hxs⟩ : ∃ xs, x.1 = xs := ⟨_, rfl⟩
      have hx8 : xs.size ≤ 8192 := by rw [← hxs]; exact x.2
      rw [hxs]
      have HXS := Lib.hid hxs
      have hnx := goes_ix xs
      have HJ := Lib.hid (show joinP ((pre ++ [x]).map fun x => x.1.data.toList) [] = (if goesL xs.data.toList = false then some ((out.map fun b => b.data.toList) ++ [xs.data.toList]) else if (out.map fun b => b.data.toList) = [] then none else some ((out.map fun b => b.data.toList).dropLast ++ [(out.map fun b => b.data.toList).getLastD [] ++ xs.data.toList.drop 1])) by
        rw [List.map_append, List.map_cons, List.map_nil, joinP_app, hj, hxs]
        rfl)
      have HBX2 := Lib.hid hbox
      have HW := Lib.hid hU1
      have hszW : w.heap.size ≤ W.heap.size := hU1.bel.size
      have hzW4 : w.heap.size + 4 ≤ W.heap.size := by
        have h5 : w.heap.size + 1 + 1 + 1 < w4.heap.size := by have := HZ4.out; omega
        rcases Nat.lt_or_ge (w.heap.size + 1 + 1 + 1) W.heap.size with h | h
        · omega
        · rw [Array.getElem?_eq_none h, Array.getElem?_eq_getElem h5] at hbox; cases hbox
      have HSZ := Lib.hid hsz
      have HLN := Lib.hid (And.intro hlN hnp)
      have hlo : out.length = n := by have := hU1.row.1; rw [encS_length] at this; omega
      have HLO := Lib.hid hlo
      clear hj hbox hsz hlo hxs hU1
      generalize hgx : goesL xs.data.toList = gx at *
      have HGX := Lib.hid hgx
      clear hgx
      cases gx
      · -- a line of its own
        obtain ⟨i0, hi0, hy0, hy1, hy2⟩ := info_parts (show (Tryz.prog.info? 9).map (fun i => (i.zero, i.size, i.bytes)) = some (some (.string ⟨#[]⟩), 1, 16) by kernel_rfl)
        have hrow := HW.out.row
        have cl := HW.out.bl.cell
        have hn8 : n ≤ 8193 := by omega
        have hW4 : w.heap.size + 4 ≤ W.heap.size := hzW4
        rcases hnx with ⟨_, hE⟩ | ⟨h0, hE, hgo⟩
        · clear hlN hnp
          gi_wp2
          refine ⟨trivial, ?_⟩
          gi_wp2_with (gi_at_builtin; refine wpListIn_append_own _ rfl (.tmp 36) (.tmp 38) 46 rfl (w.heap.size + 4) 9 i0 (.string ⟨#[]⟩) 1 16 Tryz.underlying46 hi0 hy0 hy1 hy2 rfl (by decide) _ _ _ rfl (hrow.alloc _) ⟨W.heap.size, 0, none⟩ 1 1 [.string xs] rfl rfl (cell_one_new _ _ _) (by simp [Value.oneCell']) (by unfold maxLen; omega) (by omega) (by simp; omega) ?_; intro v' w2 hown' hgrow _; obtain ⟨g', cap', rfl⟩ := ownsRow_succ hown'; obtain ⟨hU2, hk2, hb2, hx2, hv1⟩ := HW.out.append (by rw [encS_snoc]; exact hown') hgrow; have hc1 := hv1.cell; have hf1 := hv1.frozen)
          exact ⟨hk2.from _, ⟨hb2, hx2 _ (by omega) (by omega) (by omega)⟩, ⟨⟨_, _, _, _, hU2, by rw [HJ.out]; simp, fun b hb => (by
              rcases List.mem_append.1 hb with hb | hb
              · have := HSZ.out b hb; rw [List.length_append]; omega
              · obtain rfl : b = xs := by simpa using hb
                rw [List.length_append, List.length_singleton]; omega), by rw [List.length_append, List.length_singleton]; have := HLN.out.2; omega⟩, (hx2 _ (by omega) (by omega) (by omega)).trans HBX2.out⟩⟩
        · have ci := fun W => Tryz.strings_IndexByte ⟨#[32, 9]⟩ (xs[0].toNat : Int) W
          rw [show ((xs[0].toNat : Int)).toNat.toUInt8 = xs[0] from by simp, show (⟨#[32, 9]⟩ : ByteArray).data.toList = [32, 9] from rfl] at ci
          generalize Lib.indexByte [32, 9] xs[0] = ix at *
          have hgo2 : decide ((0 : Int) ≤ ix) = false := by simpa using hgo.symm
          clear hlN hnp hgo
          gi_wp2_with (first
            | (refine ⟨trivial, ?_⟩; gi_at_call 54; refine (callsIn_wide.2 (ci _)).mono ?_; rintro e w' ⟨rfl, hw⟩; subst w')
            | (gi_at_builtin; refine wpListIn_append_own _ rfl (.tmp 36) (.tmp 38) 46 rfl (w.heap.size + 4) 9 i0 (.string ⟨#[]⟩) 1 16 Tryz.underlying46 hi0 hy0 hy1 hy2 rfl (by decide) _ _ _ rfl (hrow.alloc _) ⟨W.heap.size, 0, none⟩ 1 1 [.string xs] rfl rfl (cell_one_new _ _ _) (by simp [Value.oneCell']) (by unfold maxLen; omega) (by omega) (by simp; omega) ?_; intro v' w2 hown' hgrow _; obtain ⟨g', cap', rfl⟩ := ownsRow_succ hown'; obtain ⟨hU2, hk2, hb2, hx2, hv1⟩ := HW.out.append (by rw [encS_snoc]; exact hown') hgrow; have hc1 := hv1.cell; have hf1 := hv1.frozen))
          exact ⟨hk2.from _, ⟨hb2, hx2 _ (by omega) (by omega) (by omega)⟩, ⟨⟨_, _, _, _, hU2, by rw [HJ.out]; simp, fun b hb => (by
              rcases List.mem_append.1 hb with hb | hb
              · have := HSZ.out b hb; rw [List.length_append]; omega
              · obtain rfl : b = xs := by simpa using hb
                rw [List.length_append, List.length_singleton]; omega), by rw [List.length_append, List.length_singleton]; have := HLN.out.2; omega⟩, (hx2 _ (by omega) (by omega) (by omega)).trans HBX2.out⟩⟩
      · rcases hnx with ⟨hno, _⟩ | ⟨hx0, hE, hgo⟩
        · cases hno
        have ci := fun W => Tryz.strings_IndexByte ⟨#[32, 9]⟩ (xs[0].toNat : Int) W
        rw [show ((xs[0].toNat : Int)).toNat.toUInt8 = xs[0] from by simp, show (⟨#[32, 9]⟩ : ByteArray).data.toList = [32, 9] from rfl] at ci
        generalize Lib.indexByte [32, 9] xs[0] = ix at *
        have hgo2 : decide ((0 : Int) ≤ ix) = true := by simpa using hgo.symm
        have cl := HW.out.bl.cell
        clear hgo
        by_cases h0 : n = 0
        · have k0 : ((n : Int) == 0) = true := by rw [beq_iff_eq]; omega
          have c2 := HW.out.b2.cell
          have f2 := HW.out.b2.frozen
          have c3 := HW.out.b3.cell
          have f3 := HW.out.b3.frozen
          have ho0 : out = [] := List.eq_nil_of_length_eq_zero (by rw [HLO.out]; exact h0)
          have HO0 := Lib.hid ho0
          clear ho0 h0 hlN hnp
          gi_wp2_with (refine ⟨trivial, ?_⟩; gi_at_call 54; refine (callsIn_wide.2 (ci _)).mono ?_; rintro e w' ⟨rfl, hw⟩; subst w')
          refine ⟨((KeepsOthers.setCell _ _ _).trans (KeepsOthers.setCell _ _ _)).from _, ⟨rfl, by rw [HJ.out, HO0.out]; simp, ?_, ?_, ?_⟩⟩
          · exact (HW.out.b2.set (.slice none 0 0)).kept (grownBy_setCell' _ _ _) (by simp)
          · exact (HW.out.b3.kept (grownBy_setCell' W w.heap.size (.slice none 0 0)) (by simp)).set (.int .i64 10)
          · exact (HW.out.bel.setCell (p := ⟨w.heap.size, 0, none⟩) (Nat.le_refl _) _).setCell (p := ⟨w.heap.size + 1, 0, none⟩) (by show w.heap.size ≤ w.heap.size + 1; omega) _
        · have k0 : ((n : Int) == 0) = false := by rw [beq_eq_false_iff_ne]; omega
          gi_wp2_with (refine ⟨trivial, ?_⟩; gi_at_call 54; refine (callsIn_wide.2 (ci _)).mono ?_; rintro e w' ⟨rfl, hw⟩; subst w')
          obtain ⟨g, hA, hg4, hcells, hfz, hgrow, hgl⟩ := own_strs HW.out.row (by omega)
          subst hA
          have hni : n - 1 < n := by omega
          obtain ⟨last, hlast⟩ : ∃ last, blk out (n - 1) = last := ⟨_, rfl⟩
          have cr := hcells (n - 1) hni
          rw [hlast] at cr
          have fr := hfz (n - 1)
          have hls : last.size ≤ 67125248 := by
            have hm : last ∈ out := by
              rw [← hlast]; unfold blk
              rw [List.getD_eq_getElem?_getD, List.getElem?_eq_getElem (by rw [HLO.out]; omega)]
              simp
            have := HSZ.out last hm
            omega
          have hxt : (xs.extract 1 xs.size).data.toList = xs.data.toList.drop 1 := by
            rw [ByteArray.data_extract]; simp [List.take_of_length_le]
          have hxz : (xs.extract 1 xs.size).size = xs.size - 1 := by rw [bsize, hxt, List.length_drop, ← bsize]
          have hmx : Tryz.prog.follows .mixedOrders = true := by kernel_rfl
          have hbl2 : w.heap.size + 1 + 1 ≠ g := by omega
          have HLS := Lib.hid (And.intro hlast hxt)
          clear hcells hfz hlast hxt cl
          have HD := un_turn (g := g) (X := w.heap.size + 1 + 1 + 1) HW.out (show 0 < n by omega) (last ++ xs.extract 1 xs.size) (by omega) (by omega)
          have HFIN : Hid (KeepsFrom w4.heap.size W (W.drew.setCell ⟨g, n - 1, none⟩ (.string (last ++ xs.extract 1 xs.size))) ∧ KpL w.heap.size (w.heap.size + 1 + 1 + 1) W (W.drew.setCell ⟨g, n - 1, none⟩ (.string (last ++ xs.extract 1 xs.size))) ∧ InvU w w4 (w.heap.size + 1 + 1 + 1) (pre ++ [x]) (W.drew.setCell ⟨g, n - 1, none⟩ (.string (last ++ xs.extract 1 xs.size)))) := Lib.hid (by
            refine ⟨(⟨(KeepsOthers.setCell W.drew ⟨g, n - 1, none⟩ (.string (last ++ xs.extract 1 xs.size))).size, (KeepsOthers.setCell W.drew ⟨g, n - 1, none⟩ (.string (last ++ xs.extract 1 xs.size))).same⟩ : KeepsOthers W _).from _, HD.2, ⟨⟨_, _, _, _, HD.1, ?_, ?_, by rw [List.length_append]; have := HLN.out.2; omega⟩, HD.2.box.trans HBX2.out⟩⟩
            · rw [HJ.out, set_last (tail := xs.data.toList.drop 1) HLO.out (by omega) (by rw [HLS.out.1, ← HLS.out.2]; simp)]
              have hne : out ≠ [] := fun e => by have := HLO.out; rw [e] at this; simp at this; omega
              simp [hne]
            · intro b hb
              rw [List.length_append, List.length_singleton]
              rcases List.mem_or_eq_of_mem_set hb with hb | rfl
              · have := HSZ.out b hb; omega
              · rw [ByteArray.size_append, hxz]
                have hm : last ∈ out := by
                  rw [← HLS.out.1]; unfold blk
                  rw [List.getD_eq_getElem?_getD, List.getElem?_eq_getElem (by rw [HLO.out]; omega)]
                  simp
                have := HSZ.out last hm
                omega)
          have no1 : ¬ 9223372036854775807 < last.size + (xs.extract 1 xs.size).size := by omega
          have h1x : (1 : Int) ≤ (xs.size : Int) := by omega
          have hsub : (n : Int) - 1 = ((n - 1 : Nat) : Int) := by omega
          have hn8 : n ≤ 8193 := by omega
          have hwrp : IntKind.i64.wrap ((n - 1 : Nat) : Int) = ((n - 1 : Nat) : Int) := by rw [IntKind.wrap_i64]; omega
          have hcl : W.cell? ⟨w.heap.size + 1 + 1, 0, none⟩ = some (.slice (some ⟨g, 0, none⟩) n c) := HW.out.bl.cell
          clear HD ci HSZ HLN hlN hnp
          refine wpIn_mono (Q := fun e a' w' => e = .normal ∧ w' = W.drew.setCell ⟨g, n - 1, none⟩ (.string (last ++ xs.extract 1 xs.size))) ?_ ?_
          · refine wpIn_region_till (fun w' => w'.cell? ⟨w.heap.size + 1 + 1, 0, none⟩ = some (.slice (some ⟨g, 0, none⟩) n c) ∧ w'.cell? ⟨g, n - 1, none⟩ = some (.string last)) 10 11 hmx (by kernel_rfl) (fun ⟨_, _, h⟩ => by cases h.1) (by kernel_rfl) ?_
            have HS0 : (W.drew).cell? ⟨w.heap.size + 1 + 1, 0, none⟩ = some (.slice (some ⟨g, 0, none⟩) n c) ∧ (W.drew).cell? ⟨g, n - 1, none⟩ = some (.string last) := ⟨hcl, cr⟩
            refine till_take (i := 0) _ (.slice (some ⟨g, 0, none⟩) n c) [0] rfl (by kernel_rfl) (by kernel_rfl) (by kernel_rfl) (by kernel_rfl) (fun _ _ _ h => h) (.inl ⟨by rfl, fun w' hS => ?_⟩) HS0 ?_
            · obtain ⟨s1, s2⟩ := hS
              go_simp
              all_goals first | omega | (rw [IntKind.wrap_i64]; omega)
            try simp only [Act.put, List.setIfInBounds_toArray]
            refine till_take (i := 1) _ (.slice (some ⟨g, 0, none⟩) n c) [1] rfl (by kernel_rfl) (by kernel_rfl) (by kernel_rfl) (by kernel_rfl) (fun _ _ _ h => h) (.inl ⟨by rfl, fun w' hS => ?_⟩) HS0 ?_
            · obtain ⟨s1, s2⟩ := hS
              go_simp
              all_goals first | omega | (rw [IntKind.wrap_i64]; omega)
            try simp only [Act.put]
            refine till_take (i := 2) _ (.int .i64 n) [2] rfl (by kernel_rfl) (by kernel_rfl) (by kernel_rfl) (by kernel_rfl) (fun _ _ _ h => h) (.inl ⟨by rfl, fun w' hS => ?_⟩) HS0 ?_
            · obtain ⟨s1, s2⟩ := hS
              go_simp
              all_goals first | omega | (rw [IntKind.wrap_i64]; omega)
            try simp only [Act.put]
            refine till_take (i := 3) _ (.int .i64 ((n - 1 : Nat) : Int)) [3] rfl (by kernel_rfl) (by kernel_rfl) (by kernel_rfl) (by kernel_rfl) (fun _ _ _ h => h) (.inl ⟨by rfl, fun w' hS => ?_⟩) HS0 ?_
            · obtain ⟨s1, s2⟩ := hS
              go_simp
              all_goals first | omega | (rw [IntKind.wrap_i64]; omega)
            try simp only [Act.put]
            refine till_take (i := 4) _ (.pointer (some ⟨g, n - 1, none⟩)) [4] rfl (by kernel_rfl) (by kernel_rfl) (by kernel_rfl) (by kernel_rfl) (fun _ _ _ h => h) (.inl ⟨by rfl, fun w' hS => ?_⟩) HS0 ?_
            · obtain ⟨s1, s2⟩ := hS
              go_simp
              all_goals first | omega | (rw [IntKind.wrap_i64]; omega)
            try simp only [Act.put]
            refine till_take (i := 5) _ (.string last) [5] rfl (by kernel_rfl) (by kernel_rfl) (by kernel_rfl) (by kernel_rfl) (fun _ _ _ h => h) (.inl ⟨by rfl, fun w' hS => ?_⟩) HS0 ?_
            · obtain ⟨s1, s2⟩ := hS
              go_simp
              all_goals first | omega | (rw [IntKind.wrap_i64]; omega)
            try simp only [Act.put]
            refine till_take (i := 6) _ (.string xs) [6] rfl (by kernel_rfl) (by kernel_rfl) (by kernel_rfl) (by kernel_rfl) (fun _ _ _ h => h) (.inl ⟨by rfl, fun w' hS => ?_⟩) HS0 ?_
            · obtain ⟨s1, s2⟩ := hS
              go_simp
              all_goals first | omega | (rw [IntKind.wrap_i64]; omega)
            try simp only [Act.put]
            refine till_take (i := 7) _ (.string (xs.extract 1 xs.size)) [7] rfl (by kernel_rfl) (by kernel_rfl) (by kernel_rfl) (by kernel_rfl) (fun _ _ _ h => h) (.inl ⟨by rfl, fun w' hS => ?_⟩) HS0 ?_
            · obtain ⟨s1, s2⟩ := hS
              go_simp
              all_goals first | omega | (rw [IntKind.wrap_i64]; omega)
            try simp only [Act.put]
            refine till_take (i := 8) _ (.string (last ++ xs.extract 1 xs.size)) [8] rfl (by kernel_rfl) (by kernel_rfl) (by kernel_rfl) (by kernel_rfl) (fun _ _ _ h => h) (.inl ⟨by rfl, fun w' hS => ?_⟩) HS0 ?_
            · obtain ⟨s1, s2⟩ := hS
              go_simp
              all_goals first | omega | (rw [IntKind.wrap_i64]; omega)
            try simp only [Act.put]
            refine till_take (i := 9) _ (.pointer (some ⟨g, n - 1, none⟩)) [9] rfl (by kernel_rfl) (by kernel_rfl) (by kernel_rfl) (by kernel_rfl) (fun _ _ _ h => h) (.inl ⟨by rfl, fun w' hS => ?_⟩) HS0 ?_
            · obtain ⟨s1, s2⟩ := hS
              go_simp
              all_goals first | omega | (rw [IntKind.wrap_i64]; omega)
            try simp only [Act.put]
            refine till_one (i := 10) _ (by kernel_rfl) rfl rfl (fun K hK => ?_)
            go_simp
            refine hK.out _ _ (fun h => absurd rfl h) ?_
            try simp only [Act.put, List.setIfInBounds_toArray, List.set_cons_zero, List.set_cons_succ]
            clear hK K
            refine till_done (by kernel_rfl) ?_
            exact ⟨rfl, rfl⟩
          · rintro e a' w' ⟨rfl, rfl⟩
            exact HFIN.out
    case stop =>
      rintro D cc pre W hD ⟨post, hpost⟩ ⟨hcc, hno, b2, b3, bel⟩ hK
      subst hcc
      have hnone : joinP (rawG s.data.toList []) [] = none := by rw [← hpost, joinP_app, hno]
      rw [hnone] at HU
      have HK := Lib.hid hK
      have HDW := Lib.hid hD
      have hDl : D < W.heap.size := (Array.getElem?_eq_some_iff.1 hK).1
      have L2 : Boxed (W.putObj D (.deferred none)) w.heap.size 46 (.slice none 0 0) := (World.putObj_heap_other (by have := HZ4.out; omega)).trans b2
      have L3 : Boxed (W.putObj D (.deferred none)) (w.heap.size + 1) 40 (.int .i64 10) := (World.putObj_heap_other (by have := HZ4.out; omega)).trans b3
      have HB := Lib.hid (bel.trans (belowD_put (o := .deferred none) (show w.heap.size ≤ D by have := HZ4.out; omega) hDl))
      have HL := Lib.hid (And.intro (load_ss L2) (load_er L3))
      clear hpost hno b2 b3 bel hnone hK L2 L3 hDl
      gi_wp2
      refine ⟨by simp, .inl ⟨_, _, rfl, run_takeDeferred HK.out, ?_⟩⟩
      exact ⟨_, results_cc rfl _ rfl rfl HL.out.1 HL.out.2, none, 0, 0, by rw [HU.out], [], by rw [HU.out]; rfl, Reads.nil, Nat.le_refl _, by unfold maxLen; omega, HB.out⟩
    case done =>
      rintro D ys W hD hys ⟨⟨A, n, c, out, hU1, hj, _, hnp⟩, _⟩ hK
      rw [hys] at hj
      rw [hj] at HU
      have HUX := Lib.hid (show U = if chkP 0 (out.map fun b => b.data.toList) = 0 then (out.map fun b => b.data.toList, 0) else ([], chkP 0 (out.map fun b => b.data.toList)) from HU.out)
      have hDw : w4.heap.size ≤ D := hD
      have HD := Lib.hid (And.intro hK hDw)
      have HW := Lib.hid hU1
      have hlo : out.length = n := by have := hU1.row.1; rw [encS_length] at this; omega
      have cl := hU1.bl.cell
      have hys8 : n ≤ 9223372036854775807 := by
        obtain ⟨hcn, hcm⟩ := own_sliceU hU1.row
        unfold maxLen at hcm; omega
      have c2 := hU1.b2.cell
      have f2 := hU1.b2.frozen
      have c3 := hU1.b3.cell
      have f3 := hU1.b3.frozen
      have HLO := Lib.hid hlo
      clear hys hj HU hU1 hnp hK hD hDw hlo
      go_wp2
      go_loopg [46] n (fun gg q wr => ∃ i : Nat, q = .int .i64 i ∧ i ≤ n ∧ n - i ≤ gg ∧ wr = W ∧ Hid (chkP 0 (out.map fun b => b.data.toList) = chkP i ((out.map fun b => b.data.toList).drop i)))
      case atStart => exact ⟨0, rfl, Nat.zero_le _, by omega, rfl, Lib.hid (by simp)⟩
      case round =>
        obtain ⟨i, rfl, hi, hg, hw0, HC⟩ := hrel
        have hw1 := hw0.symm
        subst hw1
        by_cases hlt : i < n
        · obtain ⟨g, hA, hg4, hcells, hfz, hgrow, hgl⟩ := own_strs HW.out.row (by omega)
          subst hA
          have ci := hcells i hlt
          obtain ⟨x, hx⟩ : ∃ x, blk out i = x := ⟨_, rfl⟩
          rw [hx] at ci
          have hstep : chkP i ((out.map fun b => b.data.toList).drop i) = if x.data.toList = [] then 10 else if i = 400 then 27 else if 1024 < x.data.toList.length then 12 else chkP (i + 1) ((out.map fun b => b.data.toList).drop (i + 1)) := by
            have hil : i < out.length := by rw [HLO.out]; exact hlt
            have he : out[i] = x := by
              rw [← hx]; unfold blk
              rw [List.getD_eq_getElem?_getD, List.getElem?_eq_getElem hil]; rfl
            rw [List.drop_eq_getElem_cons (by rw [List.length_map]; exact hil), List.getElem_map, he, chkP]
          have hxe : (x.toList == (⟨#[]⟩ : ByteArray).toList) = decide (x.data.toList = []) := by
            rw [strEqL] <;> rfl
          have hxe2 : x.toList.isEmpty = decide (x.data.toList = []) := by
            rw [Lib.toList_data]; cases x.data.toList <;> rfl
          have hxl : x.data.toList.length = x.size := (bsize x).symm
          rw [hxl] at hstep
          clear hcells hfz hgrow hx hxl
          by_cases h0 : x.data.toList = []
          · rw [decide_eq_true h0] at hxe hxe2
            rw [if_pos h0] at hstep
            have HE : Hid (U = ([], 10)) := Lib.hid (by rw [HUX.out, HC.out, hstep, if_neg (by decide)])
            clear h0 hstep
            have HV := Lib.hid (unf_err (W := W) HW.out HD.out.1 (by have := HD.out.2; have := HZ4.out; omega) 10)
            go_wp2
            refine ⟨by simp, .inl ⟨_, _, rfl, run_takeDeferred HV.out.1, ?_⟩⟩
            exact ⟨_, results_cc rfl _ rfl rfl HV.out.2.1 HV.out.2.2.1, none, 0, 0, by rw [HE.out], [], by rw [HE.out]; rfl, Reads.nil, Nat.le_refl _, by unfold maxLen; omega, HV.out.2.2.2⟩
          rw [decide_eq_false h0] at hxe hxe2
          rw [if_neg h0] at hstep
          clear h0
          by_cases h4 : i = 400
          · rw [if_pos h4] at hstep
            have k4 : ((i : Int) == 400) = true := by rw [beq_iff_eq]; omega
            have HE : Hid (U = ([], 27)) := Lib.hid (by rw [HUX.out, HC.out, hstep, if_neg (by decide)])
            clear h4 hstep
            have HV := Lib.hid (unf_err (W := W) HW.out HD.out.1 (by have := HD.out.2; have := HZ4.out; omega) 27)
            go_wp2
            refine ⟨by simp, .inl ⟨_, _, rfl, run_takeDeferred HV.out.1, ?_⟩⟩
            exact ⟨_, results_cc rfl _ rfl rfl HV.out.2.1 HV.out.2.2.1, none, 0, 0, by rw [HE.out], [], by rw [HE.out]; rfl, Reads.nil, Nat.le_refl _, by unfold maxLen; omega, HV.out.2.2.2⟩
          rw [if_neg h4] at hstep
          have k4 : ((i : Int) == 400) = false := by rw [beq_eq_false_iff_ne]; omega
          by_cases h5 : 1024 < x.size
          · rw [if_pos h5] at hstep
            have HE : Hid (U = ([], 12)) := Lib.hid (by rw [HUX.out, HC.out, hstep, if_neg (by decide)])
            have k5 : (1024 : Int) < (x.size : Int) := by omega
            clear h5 hstep h4
            have HV := Lib.hid (unf_err (W := W) HW.out HD.out.1 (by have := HD.out.2; have := HZ4.out; omega) 12)
            go_wp2
            refine ⟨by simp, .inl ⟨_, _, rfl, run_takeDeferred HV.out.1, ?_⟩⟩
            exact ⟨_, results_cc rfl _ rfl rfl HV.out.2.1 HV.out.2.2.1, none, 0, 0, by rw [HE.out], [], by rw [HE.out]; rfl, Reads.nil, Nat.le_refl _, by unfold maxLen; omega, HV.out.2.2.2⟩
          · rw [if_neg h5] at hstep
            have k5 : ¬ (1024 : Int) < (x.size : Int) := by omega
            have HC2 := Lib.hid (HC.out.trans hstep)
            clear h5 h4 hstep
            go_wp2
            go_roundg (n - (i + 1))
            case measure => omega
            case rel => exact ⟨i + 1, by go_num, by omega, by omega, rfl, HC2⟩
        · obtain rfl : i = n := by omega
          have HE : Hid (U = (out.map fun b => b.data.toList, 0)) := Lib.hid (by
            rw [HUX.out, if_pos]
            rw [HC.out, List.drop_eq_nil_of_le (by rw [List.length_map, HLO.out]; exact Nat.le_refl _)]
            rfl)
          have HV := Lib.hid (unf_okay (W := W) HW.out HD.out.1 (by have := HD.out.2; have := HZ4.out; omega))
          obtain ⟨hcn, hcm⟩ := own_sliceU HW.out.row
          have HCN := Lib.hid (And.intro hcn hcm)
          clear hcn hcm
          go_wp2
          refine ⟨by simp, .inl ⟨_, _, rfl, run_takeDeferred HV.out.1, ?_⟩⟩
          exact ⟨_, results_cc rfl _ rfl rfl HV.out.2.1 HV.out.2.2.1, A, _, c, by rw [HE.out], out, by rw [HE.out], HV.out.2.2.2.1, HCN.out.1, HCN.out.2, HV.out.2.2.2.2⟩
end Go.Proofs.YtlfhhnjdfpgadaaGreatDoor
