/-
  The program's Flush: for all devices whose cache has at most 4096 writes.
-/
import Derived.Test.YtlpijikhbjkmfaaG11
namespace Go.Proofs.Ytlpijikhbjkmfaa
open Go.RowKit

/-- A device and a number are told. -/
def Tells2 (w w' : World) (d : D) (x : Int) (e : Ending) : Prop :=
  ∃ A n c A' m c', e = .returned (.tuple #[.agg #[.slice A n c, .slice A' m c', .int .i64 d.left, .bool d.dead], .int .i64 x]) ∧ Dv w' w'.heap.size A n A' m d ∧ Below w.heap.size w w'
theorem own_lt {w : World} {base n size : Nat} {e : TypeId} {v : Value} {xs : List Value} (h : w.ownsRow base e size v n xs) : ∀ g, v.ownBlock = some g → g < w.heap.size := by
  intro g hg
  rcases h.2 with ⟨h, _⟩ | ⟨g', cap, cur, h, _, hh, _⟩
  · rw [h] at hg; cases hg
  · rw [h] at hg
    obtain rfl : g' = g := by simpa [Value.ownBlock] using hg
    rcases Nat.lt_or_ge g' w.heap.size with hlt | hge
    · exact hlt
    · rw [Array.getElem?_eq_none hge] at hh; cases hh
theorem Own.set2 {w : World} {base : Nat} {A : Option Addr} {n c : Nat} {A' : Option Addr} {m c' : Nat} {bs : List ByteArray} {cs : List (Int × ByteArray)} (h : Own w base A n c A' m c' bs cs) {w' : World} (h' : Own w' base A n c A' m c' bs cs) {a : Addr} (ha : w.heap.size ≤ a.block) (u : Value) : Own (w'.setCell a u) base A n c A' m c' bs cs :=
  ⟨own_far h'.bs (fun e => by have := own_lt h.bs _ e; omega) u, own_far h'.cs (fun e => by have := own_lt h.cs _ e; omega) u⟩
theorem Own.setB {w : World} {base : Nat} {A : Option Addr} {n c : Nat} {A' : Option Addr} {m c' : Nat} {bs : List ByteArray} {cs : List (Int × ByteArray)} (h : Own w base A n c A' m c' bs cs) (B : Nat) (hB : B < base) (i : Nat) (u : Value) : Own (w.setCell ⟨B, i, none⟩ u) base A n c A' m c' bs cs := h.set (a := ⟨B, i, none⟩) hB u
theorem Own.set2B {w : World} {base : Nat} {A : Option Addr} {n c : Nat} {A' : Option Addr} {m c' : Nat} {bs : List ByteArray} {cs : List (Int × ByteArray)} (h : Own w base A n c A' m c' bs cs) {w' : World} (h' : Own w' base A n c A' m c' bs cs) (B : Nat) (hB : w.heap.size ≤ B) (i : Nat) (u : Value) : Own (w'.setCell ⟨B, i, none⟩ u) base A n c A' m c' bs cs := h.set2 h' (a := ⟨B, i, none⟩) hB u
theorem own_setB {w : World} {base : Nat} {e : TypeId} {size n : Nat} {v : Value} {xs : List Value} (h : w.ownsRow base e size v n xs) (B : Nat) (hB : B < base) (i : Nat) (u : Value) : (w.setCell ⟨B, i, none⟩ u).ownsRow base e size v n xs := ownsRow_setCell_below h (a := ⟨B, i, none⟩) hB u
theorem own_slice' {w : World} {base : Nat} {e : TypeId} {size n c : Nat} {A : Option Addr} {xs : List Value} (h : w.ownsRow base e size (.slice A n c) n xs) : n ≤ c ∧ c ≤ maxLen := by
  obtain ⟨A2, c2, hv, h1, h2⟩ := own_slice h
  injection hv with _ _ e3
  subst e3
  exact ⟨h1, h2⟩
theorem far_of {w : World} {base base' : Nat} {e e' : TypeId} {size size' n c k kc : Nat} {A K : Option Addr} {xs ys : List Value} (h : w.ownsRow base e size (.slice A n c) n xs) (h' : w.ownsRow base' e' size' (.slice K k kc) k ys) (hne : e ≠ e') : 0 < k → ∀ ad, K = some ad → (Value.slice A n c).ownBlock ≠ some ad.block := by
  intro _ ad hk e
  subst hk
  exact own_apart h h' hne _ e rfl
theorem encB_rep (N : Nat) : List.replicate N (Value.bool true) = encB (List.replicate N true) := by simp [encB]

set_option maxRecDepth 100000 in
set_option maxHeartbeats 2000000 in
theorem flush_dead (A A' : Option Addr) (n c m c' : Nat) (d : D) (w : World) (h : Dv w w.heap.size A n A' m d) :
    Calls Try.prog 58 #[.agg #[.slice A n c, .slice A' m c', .int .i64 d.left, .bool true]] w fun e w' => Tells2 w w' { d with dead := true } 17 e := by
  have H := Lib.hid h; clear h
  have hn := Lib.hid (And.intro H.out.hn H.out.hm)
  go_enter Try.func58, Try.ntmps58
  go_wp2_with fail
  refine (copied_any A A' n c m c' d d.left true _ ((H.out.alloc _).alloc _)).mono ?_
  rintro e w1 ⟨A2, c2, A2', c2', rfl, ho1, hb1⟩
  have k1 := ((B4.new w (.slice A n c) (.slice A' m c') (.int .i64 d.left) (.bool true)).alloc (.cells #[.slice none 0 0, .slice none 0 0, .int .i64 0, .bool false] 25)).step hb1
  have r1 := (B4.new (w.alloc (.cells #[.slice A n c, .slice A' m c', .int .i64 d.left, .bool true] 25)) (.slice none 0 0) (.slice none 0 0) (.int .i64 0) (.bool false)).step hb1
  simp only [World.size_alloc] at k1 r1
  have hz : w.heap.size + 1 < w1.heap.size := r1.lt
  have hy : w.heap.size < w1.heap.size := by omega
  have HB1 : Hid (Below w.heap.size w w1) := Lib.hid ((alloc2_below w _ _).trans (hb1.mono (by simp; omega)))
  have O := Lib.hid (ho1.base (base' := w.heap.size + 2) (by simp))
  obtain ⟨x0, x1, x2, x3, xf⟩ := k1.cells
  obtain ⟨y0, y1, y2, y3, yf⟩ := r1.cells
  clear k1 r1 ho1 hb1
  go_wp2
  refine bodyPost_ret (v := .tuple #[.agg #[.slice A2 n c2, .slice A2' m c2', .int .i64 d.left, .bool true], .int .i64 17]) (by simp [results, Try.results58, go_sem, y0, y1, y2, y3, hz]) rfl ?_
  refine ⟨A2, n, c2, A2', m, c2', rfl, Own.dv (base := w.heap.size + 2) (c := c2) (c' := c2') (d := { d with dead := true }) ?_ hn.out.1 hn.out.2, ?_⟩
  · repeat (first | (with_reducible refine Own.set ?_ (by simp) _) | (with_reducible refine Own.alloc ?_ _))
    exact O.out
  · repeat (first | (with_reducible refine Below.setCell ?_ (by simp; try omega) _) | (with_reducible refine Below.alloc ?_ (by simp; omega) _))
    exact HB1.out

set_option maxRecDepth 100000 in
set_option maxHeartbeats 2000000 in
theorem flush_no (A A' : Option Addr) (n c m c' : Nat) (d : D) (w : World) (h : Dv w w.heap.size A n A' m d) :
    Calls Try.prog 58 #[.agg #[.slice A n c, .slice A' m c', .int .i64 0, .bool false]] w fun e w' => Tells2 w w' ⟨d.bs, d.cs, 0, true⟩ 16 e := by
  have H := Lib.hid h; clear h
  have hn := Lib.hid (And.intro H.out.hn H.out.hm)
  go_enter Try.func58, Try.ntmps58
  go_wp2_with fail
  refine (copied_any A A' n c m c' d 0 false _ ((H.out.alloc _).alloc _)).mono ?_
  rintro e w1 ⟨A2, c2, A2', c2', rfl, ho1, hb1⟩
  have k1 := ((B4.new w (.slice A n c) (.slice A' m c') (.int .i64 0) (.bool false)).alloc (.cells #[.slice none 0 0, .slice none 0 0, .int .i64 0, .bool false] 25)).step hb1
  have r1 := (B4.new (w.alloc (.cells #[.slice A n c, .slice A' m c', .int .i64 0, .bool false] 25)) (.slice none 0 0) (.slice none 0 0) (.int .i64 0) (.bool false)).step hb1
  simp only [World.size_alloc] at k1 r1
  have hz : w.heap.size + 1 < w1.heap.size := r1.lt
  have hy : w.heap.size < w1.heap.size := by omega
  have HB1 : Hid (Below w.heap.size w w1) := Lib.hid ((alloc2_below w _ _).trans (hb1.mono (by simp; omega)))
  have O := Lib.hid (ho1.base (base' := w.heap.size + 2) (by simp))
  have R1 := Lib.hid r1
  obtain ⟨x0, x1, x2, x3, xf⟩ := k1.cells
  clear k1 r1 ho1 hb1
  go_wp2_with fail
  refine (spend_no A2 A2' n c2 m c2' false _).mono ?_
  rintro e w2 ⟨rfl, hb2⟩
  have r2 := (R1.out.alloc (.cells #[.slice A2 n c2, .slice A2' m c2', .int .i64 0, .bool false] 25)).step hb2
  have o2 := (B4.new w1 (.slice A2 n c2) (.slice A2' m c2') (.int .i64 0) (.bool false)).step hb2
  have hz2 : w.heap.size + 1 < w2.heap.size := r2.lt
  have HB2 : Hid (Below w.heap.size w w2) := Lib.hid ((HB1.out.alloc (by omega) _).trans (hb2.mono (by simp; omega)))
  have O1 := Lib.hid O.out
  have O2 := Lib.hid ((O.out.alloc (.cells #[.slice A2 n c2, .slice A2' m c2', .int .i64 0, .bool false] 25)).below hb2)
  obtain ⟨y0, y1, y2, y3, yf⟩ := r2.cells
  obtain ⟨z0, z1, z2, z3, zf⟩ := o2.cells
  clear r2 o2 hb2 O R1 x0 x1 x2 x3 xf
  go_wp2
  refine bodyPost_ret (v := .tuple #[.agg #[.slice A2 n c2, .slice A2' m c2', .int .i64 0, .bool true], .int .i64 16]) (by simp [results, Try.results58, go_sem, y0, y1, y2, y3]) rfl ?_
  refine ⟨A2, n, c2, A2', m, c2', rfl, Own.dv (base := w.heap.size + 2) (c := c2) (c' := c2') (d := ⟨d.bs, d.cs, 0, true⟩) ?_ hn.out.1 hn.out.2, ?_⟩
  · have hlt2 : w.heap.size + 1 < w.heap.size + 2 := by omega
    repeat (first | (with_reducible refine Own.setB ?_ (w.heap.size + 1) hlt2 _ _) | (with_reducible refine Own.set2B O1.out ?_ w1.heap.size (Nat.le_refl _) _ _))
    exact O2.out
  · repeat (first | (with_reducible refine Below.setCell ?_ (by simp; try omega) _) | (with_reducible refine Below.alloc ?_ (by simp; omega) _))
    exact HB2.out

set_option maxRecDepth 100000 in
set_option maxHeartbeats 4000000 in
theorem flush_yes (A A' : Option Addr) (n c m c' : Nat) (d : D) (l : Int) (w : World) (h : Dv w w.heap.size A n A' m d) (h0 : l ≠ 0) (hl : l ≤ 9223372036854775807) (hm : m ≤ 4096) :
    Calls Try.prog 58 #[.agg #[.slice A n c, .slice A' m c', .int .i64 l, .bool false]] w fun e w' => Tells2 w w' ⟨allL d.bs d.cs, [], spL l, false⟩ 0 e := by
  have H := Lib.hid h; clear h
  have hn := Lib.hid (And.intro H.out.hn H.out.hm)
  have hlc := Lib.hid H.out.cs.lenW
  have H0 := Lib.hid h0; clear h0
  have HL := Lib.hid hl; clear hl
  go_enter Try.func58, Try.ntmps58
  go_wp2_with fail
  refine (copied_any A A' n c m c' d l false _ ((H.out.alloc _).alloc _)).mono ?_
  rintro e w1 ⟨A2, c2, A2', c2', rfl, ho1, hb1⟩
  have k1 := ((B4.new w (.slice A n c) (.slice A' m c') (.int .i64 l) (.bool false)).alloc (.cells #[.slice none 0 0, .slice none 0 0, .int .i64 0, .bool false] 25)).step hb1
  have r1 := (B4.new (w.alloc (.cells #[.slice A n c, .slice A' m c', .int .i64 l, .bool false] 25)) (.slice none 0 0) (.slice none 0 0) (.int .i64 0) (.bool false)).step hb1
  simp only [World.size_alloc] at k1 r1
  have hz : w.heap.size + 1 < w1.heap.size := r1.lt
  have hy : w.heap.size < w1.heap.size := by omega
  have HB1 : Hid (Below w.heap.size w w1) := Lib.hid ((alloc2_below w _ _).trans (hb1.mono (by simp; omega)))
  have O := Lib.hid (ho1.base (base' := w.heap.size + 2) (by simp))
  have R1 := Lib.hid r1
  have K1 := Lib.hid k1
  obtain ⟨x0, x1, x2, x3, xf⟩ := k1.cells
  clear k1 r1 ho1 hb1
  go_wp2_with fail
  refine (spend_yes A2 A2' n c2 m c2' l false _ H0.out HL.out).mono ?_
  rintro e w2 ⟨rfl, hb2⟩
  have r2 := (R1.out.alloc (.cells #[.slice A2 n c2, .slice A2' m c2', .int .i64 l, .bool false] 25)).step hb2
  have k2 := (K1.out.alloc (.cells #[.slice A2 n c2, .slice A2' m c2', .int .i64 l, .bool false] 25)).step hb2
  have o2 := (B4.new w1 (.slice A2 n c2) (.slice A2' m c2') (.int .i64 l) (.bool false)).step hb2
  have hz2 : w.heap.size + 1 < w2.heap.size := r2.lt
  have hzo : w1.heap.size < w2.heap.size := o2.lt
  have hB2 : Below w.heap.size w w2 := (HB1.out.alloc (by omega) _).trans (hb2.mono (by simp; omega))
  have O2 := (O.out.alloc (.cells #[.slice A2 n c2, .slice A2' m c2', .int .i64 l, .bool false] 25)).below hb2
  have P := Lib.hid (And.intro
    (((((r2.far (p := ⟨w1.heap.size, 0, none⟩) (by simp; omega) (.slice A2 n c2)).far (p := ⟨w1.heap.size, 1, none⟩) (by simp; omega) (.slice A2' m c2')).far (p := ⟨w1.heap.size, 2, none⟩) (by simp; omega) (.int .i64 (spL l))).far (p := ⟨w1.heap.size, 3, none⟩) (by simp; omega) (.bool false)))
    (And.intro ((((k2.far (p := ⟨w1.heap.size, 0, none⟩) (by simp; omega) (.slice A2 n c2)).far (p := ⟨w1.heap.size, 1, none⟩) (by simp; omega) (.slice A2' m c2')).far (p := ⟨w1.heap.size, 2, none⟩) (by simp; omega) (.int .i64 (spL l))).far (p := ⟨w1.heap.size, 3, none⟩) (by simp; omega) (.bool false))
    (And.intro ((((o2.set0 (.slice A2 n c2)).set1 (.slice A2' m c2')).set2 (.int .i64 (spL l))).set3 (.bool false))
    (And.intro (O.out.set2 (O.out.set2 (O.out.set2 (O.out.set2 O2 (a := ⟨w1.heap.size, 0, none⟩) (by simp) (.slice A2 n c2)) (a := ⟨w1.heap.size, 1, none⟩) (by simp) (.slice A2' m c2')) (a := ⟨w1.heap.size, 2, none⟩) (by simp) (.int .i64 (spL l))) (a := ⟨w1.heap.size, 3, none⟩) (by simp) (.bool false))
      ((((hB2.setCell (p := ⟨w1.heap.size, 0, none⟩) (by simp; omega) (.slice A2 n c2)).setCell (p := ⟨w1.heap.size, 1, none⟩) (by simp; omega) (.slice A2' m c2')).setCell (p := ⟨w1.heap.size, 2, none⟩) (by simp; omega) (.int .i64 (spL l))).setCell (p := ⟨w1.heap.size, 3, none⟩) (by simp; omega) (.bool false))))))
  obtain ⟨z0, z1, z2, z3, zf⟩ := o2.cells
  clear r2 o2 k2 hb2 hB2 O2 R1 K1 x0 x1 x2 x3 xf
  go_wp2_with fail
  generalize (((w2.setCell ⟨w1.heap.size, 0, none⟩ (.slice A2 n c2)).setCell ⟨w1.heap.size, 1, none⟩ (.slice A2' m c2')).setCell ⟨w1.heap.size, 2, none⟩ (.int .i64 (spL l))).setCell ⟨w1.heap.size, 3, none⟩ (.bool false) = w3 at P ⊢
  clear z0 z1 z2 z3 zf
  obtain ⟨y0, y1, y2, y3, yf⟩ := P.out.1.cells
  obtain ⟨x0, x1, x2, x3, xf⟩ := P.out.2.1.cells
  obtain ⟨z0, z1, z2, z3, zf⟩ := P.out.2.2.1.cells
  have hz3 : w.heap.size + 1 < w3.heap.size := P.out.1.lt
  have hy3 : w.heap.size < w3.heap.size := P.out.2.1.lt
  have ho3 : w1.heap.size < w3.heap.size := P.out.2.2.1.lt
  have hm31 : m ≤ maxLen := by simp only [maxLen]; omega
  go_region_law (first | (go_simp; go_at_call 77; refine (repeatB_any w3.heap.size (.bool true) m (w3.alloc (.cells #[.bool true] 4)).drew (by simp) (cell_of_row (w3.alloc (.cells #[.bool true] 4)) w3.heap.size 0 #[.bool true] 4 (0, 0) (heap_alloc_new w3 _)) rfl (by omega)).mono ?_; rintro e w5 ⟨K5, k5, rfl, ho5, hb5⟩; have hc5 : Below w3.heap.size w3 w5 := (((alloc_below0 w3 (.cells #[.bool true] 4)).drew).trans (hb5.mono (by simp))); have P5 := Lib.hid (And.intro (P.out.1.step hc5) (And.intro (P.out.2.1.step hc5) (And.intro (P.out.2.2.1.step hc5) (And.intro (P.out.2.2.2.1.below hc5) (And.intro (P.out.2.2.2.2.trans (hc5.mono (by omega))) (own_eq_vals ho5 (encB_rep m))))))); obtain ⟨a0, a1, a2, a3, af⟩ := P5.out.2.1.cells; obtain ⟨b0, b1, b2, b3, bf⟩ := P5.out.2.2.1.cells; clear ho5 hb5) | (go_simp; go_at_call 48; refine (settle_any A2 A2' K5 n c2 m c2' m k5 (spL l) false d.bs d.cs (List.replicate m true) (w.heap.size + 2) _ (by have := P5.out.1.lt; omega) P5.out.2.2.2.1 (Reads.of_own P5.out.2.2.2.2.2) (own_slice' P5.out.2.2.2.2.2).1 (own_slice' P5.out.2.2.2.2.2).2 (far_of P5.out.2.2.2.1.bs P5.out.2.2.2.2.2 (by decide))).mono ?_; rintro e w6 ⟨rfl, ho6, hb6, hq6⟩; have P6 := Lib.hid (And.intro (P5.out.1.below hb6 (by omega)) (And.intro ((hq6 w1.heap.size P5.out.2.2.1.lt (fun e => by have := own_lt O.out.bs _ e; omega)).trans P5.out.2.2.1) (And.intro ho6 (P5.out.2.2.2.2.1.trans (hb6.mono (by omega)))))); obtain ⟨e0, e1, e2, e3, ef⟩ := B4.cells P6.out.2.1; obtain ⟨d0, d1, d2, d3, df⟩ := P6.out.1.cells; have hz6 : w.heap.size + 1 < w6.heap.size := P6.out.1.lt; clear ho6 hb6 hq6))
  all_goals
    clear a0 a1 a2 a3 af b0 b1 b2 b3 bf y0 y1 y2 y3 yf x0 x1 x2 x3 xf z0 z1 z2 z3 zf
    go_wp2
    refine bodyPost_ret (v := .tuple #[.agg #[.slice A2 n c2, .slice none 0 0, .int .i64 (spL l), .bool false], .int .i64 0]) (by simp [results, Try.results58, go_sem, d0, d1, d2, d3]) rfl ?_
    refine ⟨A2, n, c2, none, 0, 0, rfl, ⟨.of_own (c := c2) (e := 9) (base := w.heap.size + 2) ?_, Reads.nil, hn.out.1, by omega⟩, ?_⟩
    · have hlt2 : w.heap.size + 1 < w.heap.size + 2 := by omega
      have hlo : (Value.slice A2 n c2).ownBlock ≠ some w1.heap.size := fun e => by have := own_lt O.out.bs _ e; omega
      repeat (first | (with_reducible refine own_setB ?_ (w.heap.size + 1) hlt2 _ _) | (with_reducible refine own_farB ?_ w1.heap.size hlo _ _))
      rw [allL, hlc.out]
      exact P6.out.2.2.1
    · repeat (first | (with_reducible refine Below.setCell ?_ (by simp; try omega) _))
      exact P6.out.2.2.2

end Go.Proofs.Ytlpijikhbjkmfaa
