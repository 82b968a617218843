/-
  The document's own Crash and Flush: for the devices whose cache's places are blocks.
-/
import Derived.Test.YtmkhffopmohdhaaDevRefWrite
import Derived.RegionTactic
import Derived.BigRegion
import Derived.StillTailTactics
namespace Go.Proofs.Ytmkhffopmohdhaa
open Go.RowKit

/-- All the cache's places are blocks. -/
def InP (d : D) : Prop := ∀ k, k < d.cs.length → 0 ≤ wAt d.cs k ∧ wAt d.cs k < (d.bs.length : Int)
theorem in_of_fit {d : D} (h : FitP d) : InP d := fun k hk => by
  have := h.2.2 _ (List.mem_of_getElem? (wr_get hk))
  exact ⟨this.1, this.2.1⟩
/-- What the document's loops keep from round to round: the result's block, the copy's variable (block t), the copy's lists. -/
structure Rt (w wr : World) (t : Nat) (A2 : Option Addr) (n c2 : Nat) (A2' : Option Addr) (m c2' : Nat) (l : Int) (b : Bool) (now : List ByteArray) (cs : List (Int × ByteArray)) : Prop where
  res : B4 wr (w.heap.size + 1) (.slice none 0 0) (.slice none 0 0) (.int .i64 0) (.bool false)
  box : B4 wr t (.slice A2 n c2) (.slice A2' m c2') (.int .i64 l) (.bool b)
  own : Own wr (w.heap.size + 2) A2 n c2 A2' m c2' now cs
  below : Below w.heap.size w wr
theorem Rt.put {w wr : World} {t g n c2 m c2' : Nat} {A2' : Option Addr} {l : Int} {b : Bool} {now : List ByteArray} {cs : List (Int × ByteArray)} (h : Rt w wr t (some ⟨g, 0, none⟩) n c2 A2' m c2' l b now cs) (j : Nat) (s : ByteArray) (hg : w.heap.size + 2 ≤ g) :
    Rt w (wr.setCell ⟨g, j, none⟩ (.string s)) t (some ⟨g, 0, none⟩) n c2 A2' m c2' l b (now.set j s) cs := by
  have hst := h.own.bs.stored j (.string s)
  have hne := own_ne_b4 h.own.bs h.box (by decide)
  refine ⟨h.res.far (by simp; omega) _, h.box.far (fun e => hne (by rw [e]; rfl)) _, ⟨by rw [← encS_set]; exact hst.1, own_grown h.own.cs hst.2 fun g' hg' e => ?_⟩, h.below.setCell (by simp; omega) _⟩
  obtain rfl : g = g' := by injection e
  exact own_apart h.own.bs h.own.cs (by decide) g rfl hg'
theorem Rt.drew {w wr : World} {t n c2 m c2' : Nat} {A2 A2' : Option Addr} {l : Int} {b : Bool} {now : List ByteArray} {cs : List (Int × ByteArray)} (h : Rt w wr t A2 n c2 A2' m c2' l b now cs) : Rt w wr.drew t A2 n c2 A2' m c2' l b now cs := ⟨h.res, h.box, ⟨h.own.bs, h.own.cs⟩, h.below.drew⟩

set_option maxRecDepth 100000 in
set_option maxHeartbeats 4000000 in
theorem refCrash_any (A A' K : Option Addr) (n c m c' k kc : Nat) (d : D) (ks : List Bool) (w : World) (h : Dv w w.heap.size A n A' m d) (hin : InP d) (hK : Reads w w.heap.size 1 K k (encB ks)) (hkm : k ≤ maxLen) :
    Calls Try.prog 19 #[.agg #[.slice A n c, .slice A' m c', .int .i64 d.left, .bool d.dead], .slice K k kc] w fun e w' => Tells w w' (crashD d ks) e := by
  have H := Lib.hid h; clear h
  have HK := Lib.hid hK; clear hK
  have HI := Lib.hid hin; clear hin
  have hn16 := H.out.hn
  have hm63 : m ≤ 9223372036854775807 := by have := H.out.hm; omega
  unfold maxLen at hkm
  go_enter Try.func19, Try.ntmps19
  go_wp2_with fail
  refine (refCopy_any A A' n c m c' d d.left d.dead _ ((H.out.alloc _).alloc _)).mono ?_
  rintro e w1 ⟨A2, c2, A2', c2', rfl, ho1, hb1⟩
  have k1 := ((B4.new w (.slice A n c) (.slice A' m c') (.int .i64 d.left) (.bool d.dead)).alloc (.cells #[.slice none 0 0, .slice none 0 0, .int .i64 0, .bool false] 26)).step hb1
  have r1 := (B4.new (w.alloc (.cells #[.slice A n c, .slice A' m c', .int .i64 d.left, .bool d.dead] 26)) (.slice none 0 0) (.slice none 0 0) (.int .i64 0) (.bool false)).step hb1
  simp only [World.size_alloc] at k1 r1
  have hz : w.heap.size + 1 < w1.heap.size := r1.lt
  have HB1 : Hid (Below w.heap.size w w1) := Lib.hid ((alloc2_below w _ _).trans (hb1.mono (by simp; omega)))
  have O := Lib.hid (ho1.base (base' := w.heap.size + 2) (by simp))
  have W0 := Lib.hid (And.intro (k1.alloc (.cells #[.slice A2 n c2, .slice A2' m c2', .int .i64 d.left, .bool d.dead] 26)) (And.intro (r1.alloc (.cells #[.slice A2 n c2, .slice A2' m c2', .int .i64 d.left, .bool d.dead] 26)) (And.intro (B4.new w1 (.slice A2 n c2) (.slice A2' m c2') (.int .i64 d.left) (.bool d.dead)) (And.intro (O.out.alloc (.cells #[.slice A2 n c2, .slice A2' m c2', .int .i64 d.left, .bool d.dead] 26)) (HB1.out.alloc (by omega) (.cells #[.slice A2 n c2, .slice A2' m c2', .int .i64 d.left, .bool d.dead] 26))))))
  have HSZ : Hid ((w1.alloc (.cells #[.slice A2 n c2, .slice A2' m c2', .int .i64 d.left, .bool d.dead] 26)).heap.size = w1.heap.size + 1) := Lib.hid (by simp)
  have KB := Lib.hid k1.cells
  clear k1 r1 ho1 hb1
  go_wp2
  go_loopg [6] (min m k) (fun g s6 wr => ∃ i : Nat, i ≤ min m k ∧ min m k - i ≤ g ∧ s6 = .int .i64 i ∧ Hid (B4 wr w.heap.size (.slice A n c) (.slice A' m c') (.int .i64 d.left) (.bool d.dead) ∧ Rt w wr w1.heap.size A2 n c2 A2' m c2' d.left d.dead (settleL d.bs (d.cs.take i) (ks.take i)) d.cs))
  case atStart => exact ⟨0, Nat.zero_le _, by omega, rfl, Lib.hid ⟨W0.out.1, W0.out.2.1, W0.out.2.2.1, by rw [List.take_zero, settleL_nil]; exact W0.out.2.2.2.1, W0.out.2.2.2.2⟩⟩
  case round =>
    obtain ⟨i, hi, hg, rfl, J⟩ := hrel
    obtain ⟨x0, x1, x2, x3, xf⟩ := J.out.1.cells
    obtain ⟨z0, z1, z2, z3, zf⟩ := J.out.2.box.cells
    by_cases hlt : i < min m k
    · have him : i < m := by omega
      have hik : i < k := by omega
      have him2 : (i : Int) < (m : Int) := by omega
      have hik2 : (i : Int) < (k : Int) := by omega
      obtain ⟨b1, o1, rfl, _, g1⟩ := (HK.out.below J.out.2.below).bool hik
      obtain ⟨b2, o2, rfl, _, g2, f2⟩ := (H.out.cs.below J.out.2.below).wr him
      have hwin := HI.out i (by rw [H.out.cs.lenW]; exact him)
      rw [H.out.bs.lenS] at hwin
      have Wk := Lib.hid (wr_get (cs := d.cs) (k := i) (by rw [H.out.cs.lenW]; exact him))
      have Kk := Lib.hid (b_get (ks := ks) (k := i) (by rw [HK.out.lenB]; exact hik))
      generalize wAt d.cs i = x at g2 Wk hwin
      generalize wDat d.cs i = s at f2 Wk
      generalize bAt ks i = kb at g1 Kk
      cases kb
      · have JN : Hid (B4 wr w.heap.size (.slice A n c) (.slice (some ⟨b2, o2, none⟩) m c') (.int .i64 d.left) (.bool d.dead) ∧ Rt w wr w1.heap.size A2 n c2 A2' m c2' d.left d.dead (settleL d.bs (d.cs.take (i + 1)) (ks.take (i + 1))) d.cs) := Lib.hid (by rw [settleL_step d.cs ks d.bs i (x, s) false Wk.out Kk.out, if_neg Bool.false_ne_true]; exact J.out)
        clear hwin
        go_wp2
        go_roundg (min m k - (i + 1))
        case measure => omega
        case rel => exact ⟨i + 1, by omega, by omega, by go_num, JN⟩
      · have hl : (settleL d.bs (d.cs.take i) (ks.take i)).length = n := (Reads.of_own J.out.2.own.bs).lenS
        obtain ⟨j, rfl⟩ : ∃ j : Nat, x = j := ⟨x.toNat, by omega⟩
        have hj : j < n := by omega
        obtain ⟨gb, rfl, hgb, hgl, _, _⟩ := own_cells J.out.2.own.bs (by omega)
        have hjn : (j : Int) < (n : Int) := by omega
        have HX : Hid (settleL d.bs (d.cs.take (i + 1)) (ks.take (i + 1)) = (settleL d.bs (d.cs.take i) (ks.take i)).set j s) := Lib.hid (by
          rw [settleL_step d.cs ks d.bs i ((j : Int), s) true Wk.out Kk.out, if_pos rfl, put_yes ⟨by omega, by rw [hl]; omega⟩]
          rfl)
        have hcj := J.out.2.own.bs.cellAt j (by omega)
        rw [encS_get (by rw [hl]; exact hj)] at hcj
        have hfj := J.out.2.own.bs.frozenAt j
        have JN : Hid (B4 (wr.setCell ⟨gb, j, none⟩ (.string s)).drew w.heap.size (.slice A n c) (.slice (some ⟨b2, o2, none⟩) m c') (.int .i64 d.left) (.bool d.dead) ∧ Rt w (wr.setCell ⟨gb, j, none⟩ (.string s)).drew w1.heap.size (some ⟨gb, 0, none⟩) n c2 A2' m c2' d.left d.dead (settleL d.bs (d.cs.take (i + 1)) (ks.take (i + 1))) d.cs) := Lib.hid ⟨B4.far (w := wr) J.out.1 (by simp; omega) _, by rw [HX.out]; exact (J.out.2.put j s hgb).drew⟩
        clear hwin hl
        go_wp2_with fail
        go_still_tail 15, (by kernel_rfl)
        change wpList _ _ _ _ _ wr.drew
        go_wp2
        go_roundg (min m k - (i + 1))
        case measure => omega
        case rel => exact ⟨i + 1, by omega, by omega, by go_num, JN⟩
    · have hend : i = min m k := by omega
      have HX := Lib.hid (settleL_cut d.cs ks d.bs i (by rw [H.out.cs.lenW, HK.out.lenB]; omega))
      obtain ⟨y0, y1, y2, y3, yf⟩ := J.out.2.res.cells
      have hz2 : w.heap.size + 1 < wr.heap.size := J.out.2.res.lt
      have hzt : w1.heap.size < wr.heap.size := J.out.2.box.lt
      have Q := Lib.hid (And.intro (own_eq_vals J.out.2.own.bs (congrArg encS HX.out)) J.out.2.below)
      have hn1 := Lib.hid (own_ne_b4 J.out.2.own.bs J.out.2.box (by decide))
      have hcase : i = m ∨ (i < m ∧ i = k) := by omega
      clear hend J HX
      rcases hcase with hcase | ⟨hcm, hcase⟩
      · have hf1 : decide (i < m) = false := by simp; omega
        clear hcase
        go_wp2
        refine bodyPost_ret (v := .agg #[.slice A2 n c2, .slice none 0 0, .int .i64 (-1), .bool false]) (by simp [results, Try.results19, go_sem, y0, y1, y2, y3, hz2]) rfl ?_
        refine ⟨A2, n, c2, none, 0, 0, rfl, ⟨.of_own (c := c2) (e := 9) (base := w.heap.size + 2) ?_, Reads.nil, hn16, by omega⟩, ?_⟩
        · have hlt2 : w.heap.size + 1 < w.heap.size + 2 := by omega
          have hn2 := hn1.out
          repeat (first | (with_reducible refine own_setB ?_ (w.heap.size + 1) hlt2 _ _) | (with_reducible refine own_farB ?_ w1.heap.size hn2 _ _))
          exact Q.out.1
        · repeat (with_reducible refine Below.setCell ?_ (by simp; try omega) _)
          exact Q.out.2
      · have hf1 : (i : Int) < (m : Int) := by omega
        have hf2 : decide (i < k) = false := by simp; omega
        clear hcase
        go_wp2
        refine bodyPost_ret (v := .agg #[.slice A2 n c2, .slice none 0 0, .int .i64 (-1), .bool false]) (by simp [results, Try.results19, go_sem, y0, y1, y2, y3, hz2]) rfl ?_
        refine ⟨A2, n, c2, none, 0, 0, rfl, ⟨.of_own (c := c2) (e := 9) (base := w.heap.size + 2) ?_, Reads.nil, hn16, by omega⟩, ?_⟩
        · have hlt2 : w.heap.size + 1 < w.heap.size + 2 := by omega
          have hn2 := hn1.out
          repeat (first | (with_reducible refine own_setB ?_ (w.heap.size + 1) hlt2 _ _) | (with_reducible refine own_farB ?_ w1.heap.size hn2 _ _))
          exact Q.out.1
        · repeat (with_reducible refine Below.setCell ?_ (by simp; try omega) _)
          exact Q.out.2

end Go.Proofs.Ytmkhffopmohdhaa
