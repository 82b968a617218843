/-
  The document's own Flush: for the devices whose cache's places are blocks.
-/
import Derived.Test.YtlpijikhbjkmfaaG13
namespace Go.Proofs.Ytlpijikhbjkmfaa
open Go.RowKit

theorem rep_get {m i : Nat} (h : i < m) : (List.replicate m true)[i]? = some true := by rw [List.getElem?_replicate, if_pos h]

set_option maxRecDepth 100000 in
set_option maxHeartbeats 4000000 in
theorem refFlush_dead (A A' : Option Addr) (n c m c' : Nat) (d : D) (l : Int) (w : World) (h : Dv w w.heap.size A n A' m d) :
    Calls Try.prog 63 #[.agg #[.slice A n c, .slice A' m c', .int .i64 l, .bool true]] w fun e w' => Tells2 w w' ⟨d.bs, d.cs, l, true⟩ 17 e := by
  have H := Lib.hid h; clear h
  have hn := Lib.hid (And.intro H.out.hn H.out.hm)
  go_enter Try.func63, Try.ntmps63
  go_wp2_with fail
  refine (refCopy_any A A' n c m c' d l true _ ((H.out.alloc _).alloc _)).mono ?_
  rintro e w1 ⟨A2, c2, A2', c2', rfl, ho1, hb1⟩
  have r1 := (B4.new (w.alloc (.cells #[.slice A n c, .slice A' m c', .int .i64 l, .bool true] 25)) (.slice none 0 0) (.slice none 0 0) (.int .i64 0) (.bool false)).step hb1
  simp only [World.size_alloc] at r1
  have hz : w.heap.size + 1 < w1.heap.size := r1.lt
  have HB1 : Hid (Below w.heap.size w w1) := Lib.hid ((alloc2_below w _ _).trans (hb1.mono (by simp; omega)))
  have O := Lib.hid (ho1.base (base' := w.heap.size + 2) (by simp))
  have R1 := Lib.hid r1
  obtain ⟨y0, y1, y2, y3, yf⟩ := r1.cells
  clear r1 ho1 hb1
  go_wp2
  refine bodyPost_ret (v := .tuple #[.agg #[.slice A2 n c2, .slice A2' m c2', .int .i64 l, .bool true], .int .i64 17]) (by simp [results, Try.results63, go_sem, y0, y1, y2, y3]) rfl ?_
  refine ⟨A2, n, c2, A2', m, c2', rfl, Own.dv (base := w.heap.size + 2) (c := c2) (c' := c2') (d := ⟨d.bs, d.cs, l, true⟩) ?_ hn.out.1 hn.out.2, ?_⟩
  · have hlt2 : w.heap.size + 1 < w.heap.size + 2 := by omega
    repeat (first | (with_reducible refine Own.setB ?_ (w.heap.size + 1) hlt2 _ _) | (with_reducible refine Own.alloc ?_ _))
    exact O.out
  · repeat (first | (with_reducible refine Below.setCell ?_ (by simp; try omega) _) | (with_reducible refine Below.alloc ?_ (by simp; omega) _))
    exact HB1.out

set_option maxRecDepth 100000 in
set_option maxHeartbeats 4000000 in
theorem refFlush_no (A A' : Option Addr) (n c m c' : Nat) (d : D) (w : World) (h : Dv w w.heap.size A n A' m d) :
    Calls Try.prog 63 #[.agg #[.slice A n c, .slice A' m c', .int .i64 0, .bool false]] w fun e w' => Tells2 w w' ⟨d.bs, d.cs, 0, true⟩ 16 e := by
  have H := Lib.hid h; clear h
  have hn := Lib.hid (And.intro H.out.hn H.out.hm)
  go_enter Try.func63, Try.ntmps63
  go_wp2_with fail
  refine (refSpend_no A A' n c m c' d false _ ((H.out.alloc _).alloc _)).mono ?_
  rintro e w1 ⟨A2, c2, A2', c2', rfl, ho1, hb1⟩
  have r1 := (B4.new (w.alloc (.cells #[.slice A n c, .slice A' m c', .int .i64 0, .bool false] 25)) (.slice none 0 0) (.slice none 0 0) (.int .i64 0) (.bool false)).step hb1
  simp only [World.size_alloc] at r1
  have hz : w.heap.size + 1 < w1.heap.size := r1.lt
  have HB1 : Hid (Below w.heap.size w w1) := Lib.hid ((alloc2_below w _ _).trans (hb1.mono (by simp; omega)))
  have O := Lib.hid (ho1.base (base' := w.heap.size + 2) (by simp))
  have R1 := Lib.hid r1
  obtain ⟨y0, y1, y2, y3, yf⟩ := r1.cells
  clear r1 ho1 hb1
  go_wp2
  refine bodyPost_ret (v := .tuple #[.agg #[.slice A2 n c2, .slice A2' m c2', .int .i64 0, .bool true], .int .i64 16]) (by simp [results, Try.results63, go_sem, y0, y1, y2, y3, hz]) rfl ?_
  refine ⟨A2, n, c2, A2', m, c2', rfl, Own.dv (base := w.heap.size + 2) (c := c2) (c' := c2') (d := ⟨d.bs, d.cs, 0, true⟩) ?_ hn.out.1 hn.out.2, ?_⟩
  · have hlt2 : w.heap.size + 1 < w.heap.size + 2 := by omega
    repeat (first | (with_reducible refine Own.setB ?_ (w.heap.size + 1) hlt2 _ _) | (with_reducible refine Own.alloc ?_ _))
    exact O.out
  · repeat (first | (with_reducible refine Below.setCell ?_ (by simp; try omega) _) | (with_reducible refine Below.alloc ?_ (by simp; omega) _))
    exact HB1.out

set_option maxRecDepth 100000 in
set_option maxHeartbeats 4000000 in
theorem refFlush_yes (A A' : Option Addr) (n c m c' : Nat) (d : D) (l : Int) (w : World) (h : Dv w w.heap.size A n A' m d) (hin : InP d) (hl0 : l ≠ 0) (hl : l ≤ 9223372036854775807) :
    Calls Try.prog 63 #[.agg #[.slice A n c, .slice A' m c', .int .i64 l, .bool false]] w fun e w' => Tells2 w w' ⟨allL d.bs d.cs, [], spL l, false⟩ 0 e := by
  have H := Lib.hid h; clear h
  have hn := Lib.hid (And.intro H.out.hn H.out.hm)
  have HS := Lib.hid (And.intro hl0 hl); clear hl0 hl
  have HI := Lib.hid hin; clear hin
  have hm63 : m ≤ 9223372036854775807 := by have := hn.out.2; omega
  go_enter Try.func63, Try.ntmps63
  go_wp2_with fail
  refine (refSpend_yes A A' n c m c' d l false _ ((H.out.alloc _).alloc _) HS.out.1 HS.out.2).mono ?_
  rintro e w1 ⟨A2, c2, A2', c2', rfl, ho1, hb1⟩
  have r1 := (B4.new (w.alloc (.cells #[.slice A n c, .slice A' m c', .int .i64 l, .bool false] 25)) (.slice none 0 0) (.slice none 0 0) (.int .i64 0) (.bool false)).step hb1
  simp only [World.size_alloc] at r1
  have hz : w.heap.size + 1 < w1.heap.size := r1.lt
  have HB1 : Hid (Below w.heap.size w w1) := Lib.hid ((alloc2_below w _ _).trans (hb1.mono (by simp; omega)))
  have O := Lib.hid (ho1.base (base' := w.heap.size + 2) (by simp))
  have R1 := Lib.hid r1
  obtain ⟨y0, y1, y2, y3, yf⟩ := r1.cells
  clear r1 ho1 hb1
  have W0 := Lib.hid (Rt.mk (R1.out.alloc (.cells #[.slice A2 n c2, .slice A2' m c2', .int .i64 (spL l), .bool false] 25)) (B4.new w1 (.slice A2 n c2) (.slice A2' m c2') (.int .i64 (spL l)) (.bool false)) (O.out.alloc (.cells #[.slice A2 n c2, .slice A2' m c2', .int .i64 (spL l), .bool false] 25)) (HB1.out.alloc (by omega) (.cells #[.slice A2 n c2, .slice A2' m c2', .int .i64 (spL l), .bool false] 25)))
  clear y0 y1 y2 y3 yf
  go_wp2
  go_loopg [6] m (fun g s6 wr => ∃ i : Nat, i ≤ m ∧ m - i ≤ g ∧ s6 = .int .i64 i ∧ Hid (Rt w wr w1.heap.size A2 n c2 A2' m c2' (spL l) false (settleL d.bs (d.cs.take i) ((List.replicate m true).take i)) d.cs))
  case atStart => exact ⟨0, Nat.zero_le _, by omega, rfl, Lib.hid (by rw [List.take_zero, settleL_nil]; exact W0.out)⟩
  case round =>
    obtain ⟨i, hi, hg, rfl, J⟩ := hrel
    obtain ⟨z0, z1, z2, z3, zf⟩ := J.out.box.cells
    by_cases him : i < m
    · have him2 : (i : Int) < (m : Int) := by omega
      have hwin := HI.out i (by rw [H.out.cs.lenW]; exact him)
      rw [H.out.bs.lenS] at hwin
      obtain ⟨b2, o2, rfl, _, g2, f2⟩ := (Reads.of_own J.out.own.cs).wr him
      have Wk := Lib.hid (wr_get (cs := d.cs) (k := i) (by rw [H.out.cs.lenW]; exact him))
      generalize wAt d.cs i = x at g2 Wk hwin
      generalize wDat d.cs i = s at f2 Wk
      have hl : (settleL d.bs (d.cs.take i) ((List.replicate m true).take i)).length = n := (Reads.of_own J.out.own.bs).lenS
      obtain ⟨j, rfl⟩ : ∃ j : Nat, x = j := ⟨x.toNat, by omega⟩
      have hj : j < n := by omega
      obtain ⟨gb, rfl, hgb, hgl, _, _⟩ := own_cells J.out.own.bs (by omega)
      have hjn : (j : Int) < (n : Int) := by omega
      have HX : Hid (settleL d.bs (d.cs.take (i + 1)) ((List.replicate m true).take (i + 1)) = (settleL d.bs (d.cs.take i) ((List.replicate m true).take i)).set j s) := Lib.hid (by
        rw [settleL_step d.cs (List.replicate m true) d.bs i ((j : Int), s) true Wk.out (rep_get him), if_pos rfl, put_yes ⟨by omega, by rw [hl]; omega⟩]
        rfl)
      have hcj := J.out.own.bs.cellAt j (by omega)
      rw [encS_get (by rw [hl]; exact hj)] at hcj
      have hfj := J.out.own.bs.frozenAt j
      have JN : Hid (Rt w (wr.setCell ⟨gb, j, none⟩ (.string s)).drew w1.heap.size (some ⟨gb, 0, none⟩) n c2 (some ⟨b2, o2, none⟩) m c2' (spL l) false (settleL d.bs (d.cs.take (i + 1)) ((List.replicate m true).take (i + 1))) d.cs) := Lib.hid (by rw [HX.out]; exact (J.out.put j s hgb).drew)
      clear hwin hl
      go_wp2_with fail
      go_still_tail 15, (by kernel_rfl)
      change wpList _ _ _ _ _ wr.drew
      go_wp2
      go_roundg (m - (i + 1))
      case measure => omega
      case rel => exact ⟨i + 1, by omega, by omega, by go_num, JN⟩
    · have hend : i = m := by omega
      have HX : Hid (settleL d.bs (d.cs.take i) ((List.replicate m true).take i) = allL d.bs d.cs) := Lib.hid (by
        rw [settleL_cut d.cs (List.replicate m true) d.bs i (by rw [H.out.cs.lenW, List.length_replicate]; omega), allL, H.out.cs.lenW])
      obtain ⟨y0, y1, y2, y3, yf⟩ := J.out.res.cells
      have hz2 : w.heap.size + 1 < wr.heap.size := J.out.res.lt
      have hzt : w1.heap.size < wr.heap.size := J.out.box.lt
      have Q := Lib.hid (And.intro (own_eq_vals J.out.own.bs (congrArg encS HX.out)) J.out.below)
      have hn1 := Lib.hid (own_ne_b4 J.out.own.bs J.out.box (by decide))
      have hf1 : decide (i < m) = false := by simp; omega
      clear hend J HX
      go_wp2
      refine bodyPost_ret (v := .tuple #[.agg #[.slice A2 n c2, .slice none 0 0, .int .i64 (spL l), .bool false], .int .i64 0]) (by simp [results, Try.results63, go_sem, y0, y1, y2, y3]) rfl ?_
      refine ⟨A2, n, c2, none, 0, 0, rfl, ⟨.of_own (c := c2) (e := 9) (base := w.heap.size + 2) ?_, Reads.nil, hn.out.1, by omega⟩, ?_⟩
      · have hlt2 : w.heap.size + 1 < w.heap.size + 2 := by omega
        have hn2 := hn1.out
        repeat (first | (with_reducible refine own_setB ?_ (w.heap.size + 1) hlt2 _ _) | (with_reducible refine own_farB ?_ w1.heap.size hn2 _ _))
        exact Q.out.1
      · repeat (with_reducible refine Below.setCell ?_ (by simp; try omega) _)
        exact Q.out.2

theorem flush_any (A A' : Option Addr) (n c m c' : Nat) (d : D) (w : World) (h : Dv w w.heap.size A n A' m d) (hl : d.left ≤ 9223372036854775807) (hm : m ≤ 4096) :
    Calls Try.prog 58 #[.agg #[.slice A n c, .slice A' m c', .int .i64 d.left, .bool d.dead]] w fun e w' => Tells2 w w' (flushD d).1 (flushD d).2 e := by
  obtain ⟨bs, cs, l, b⟩ := d
  dsimp only at hl ⊢
  cases b
  case true => exact flush_dead A A' n c m c' ⟨bs, cs, l, true⟩ w h
  by_cases h0 : l = 0
  case pos =>
    subst h0
    have e : flushD ⟨bs, cs, 0, false⟩ = (⟨bs, cs, 0, true⟩, 16) := by
      unfold flushD
      rw [if_neg Bool.false_ne_true, if_pos rfl]
    rw [e]
    exact flush_no A A' n c m c' ⟨bs, cs, 0, false⟩ w h
  have e : flushD ⟨bs, cs, l, false⟩ = (⟨allL bs cs, [], spL l, false⟩, 0) := by
    unfold flushD
    rw [if_neg Bool.false_ne_true, if_neg h0]
    rfl
  rw [e]
  exact flush_yes A A' n c m c' ⟨bs, cs, l, false⟩ l w h h0 hl hm

theorem refFlush_any (A A' : Option Addr) (n c m c' : Nat) (d : D) (w : World) (h : Dv w w.heap.size A n A' m d) (hl : d.left ≤ 9223372036854775807) (hin : InP d) :
    Calls Try.prog 63 #[.agg #[.slice A n c, .slice A' m c', .int .i64 d.left, .bool d.dead]] w fun e w' => Tells2 w w' (flushD d).1 (flushD d).2 e := by
  obtain ⟨bs, cs, l, b⟩ := d
  dsimp only at hl ⊢
  cases b
  case true => exact refFlush_dead A A' n c m c' ⟨bs, cs, l, true⟩ l w h
  by_cases h0 : l = 0
  case pos =>
    subst h0
    have e : flushD ⟨bs, cs, 0, false⟩ = (⟨bs, cs, 0, true⟩, 16) := by
      unfold flushD
      rw [if_neg Bool.false_ne_true, if_pos rfl]
    rw [e]
    exact refFlush_no A A' n c m c' ⟨bs, cs, 0, false⟩ w h
  have e : flushD ⟨bs, cs, l, false⟩ = (⟨allL bs cs, [], spL l, false⟩, 0) := by
    unfold flushD
    rw [if_neg Bool.false_ne_true, if_neg h0]
    rfl
  rw [e]
  exact refFlush_yes A A' n c m c' ⟨bs, cs, l, false⟩ l w h hin h0 hl

end Go.Proofs.Ytlpijikhbjkmfaa

/-
  The document's own Read: for every device that memory can hold, every place.
-/
namespace Go.Proofs.Ytlpijikhbjkmfaa
open Go.RowKit

theorem lastTo_step {cs : List (Int × ByteArray)} {k : Nat} (hk : k < cs.length) (i : Int) (s : ByteArray) : lastTo (cs.take (k + 1)) i s = if wAt cs k = i then wDat cs k else lastTo (cs.take k) i s := by
  have h : cs.take (k + 1) = cs.take k ++ [(wAt cs k, wDat cs k)] := by
    rw [List.take_add_one, wr_get hk]
    rfl
  rw [h, lastTo_snoc]

set_option maxRecDepth 100000 in
set_option maxHeartbeats 2000000 in
theorem refRead_dead (A A' : Option Addr) (n c m c' : Nat) (l : Int) (i : Int) (w : World) :
    Calls Try.prog 35 #[.agg #[.slice A n c, .slice A' m c', .int .i64 l, .bool true], .int .i64 i] w fun e w' => e = .returned (.tuple #[.string ⟨#[]⟩, .int .i64 17]) ∧ Below w.heap.size w w' := by
  go_enter Try.func35, Try.ntmps35
  go_wp2
  go_ret2
  exact ⟨rfl, alloc_below0 _ _⟩

set_option maxRecDepth 100000 in
set_option maxHeartbeats 2000000 in
theorem refRead_place (A A' : Option Addr) (n c m c' : Nat) (l : Int) (i : Int) (w : World) (h : ¬ (0 ≤ i ∧ i < (n : Int))) :
    Calls Try.prog 35 #[.agg #[.slice A n c, .slice A' m c', .int .i64 l, .bool false], .int .i64 i] w fun e w' => e = .returned (.tuple #[.string ⟨#[]⟩, .int .i64 15]) ∧ Below w.heap.size w w' := by
  by_cases h0 : i < 0
  · clear h
    go_enter Try.func35, Try.ntmps35
    go_wp2
    go_ret2
    exact ⟨rfl, alloc_below0 _ _⟩
  · have h1 : (n : Int) ≤ i := by omega
    have hd : decide (i < 0) = false := by simp; omega
    clear h h0
    go_enter Try.func35, Try.ntmps35
    go_wp2
    go_ret2
    exact ⟨rfl, alloc_below0 _ _⟩

set_option maxRecDepth 100000 in
set_option maxHeartbeats 2000000 in
theorem refRead_yes (A A' : Option Addr) (n c m c' : Nat) (d : D) (l : Int) (j : Nat) (w : World) (h : Dv w w.heap.size A n A' m d) (hj : j < n) :
    Calls Try.prog 35 #[.agg #[.slice A n c, .slice A' m c', .int .i64 l, .bool false], .int .i64 j] w fun e w' => e = .returned (.tuple #[.string (lastTo d.cs (j : Int) (blk d.bs j)), .int .i64 0]) ∧ Below w.heap.size w w' := by
  have hm63 : m ≤ 9223372036854775807 := by have := h.hm; omega
  have H := Lib.hid (h.alloc (.cells #[.slice A n c, .slice A' m c', .int .i64 l, .bool false] 25))
  have LC := Lib.hid h.cs.lenW
  have hd : decide ((j : Int) < 0) = false := by simp
  have hd1 : decide (n ≤ j) = false := by simp; omega
  have hjn : (j : Int) < (n : Int) := by omega
  obtain ⟨b0, o0, rfl, _, g0⟩ := H.out.bs.str hj
  clear h
  generalize hs0 : blk d.bs j = s0 at g0
  have S0 := Lib.hid hs0; clear hs0
  go_enter Try.func35, Try.ntmps35
  go_wp2
  go_loopg [6, 7] m (fun g s6 s7 wr => ∃ k : Nat, k ≤ m ∧ m - k ≤ g ∧ s7 = .int .i64 k ∧ s6 = .string (lastTo (d.cs.take k) (j : Int) s0) ∧ wr = w.alloc (.cells #[.slice (some ⟨b0, o0, none⟩) n c, .slice A' m c', .int .i64 l, .bool false] 25))
  case atStart => exact ⟨0, Nat.zero_le _, by omega, rfl, rfl, rfl⟩
  case round =>
    obtain ⟨k, hk, hg, rfl, rfl, rfl⟩ := hrel
    by_cases hlt : k < m
    · have hk1 : (k : Int) < (m : Int) := by omega
      obtain ⟨b2, o2, rfl, _, g2, f2⟩ := H.out.cs.wr hlt
      have HX := Lib.hid (lastTo_step (cs := d.cs) (k := k) (by rw [LC.out]; exact hlt) (j : Int) s0)
      generalize wAt d.cs k = x at g2 HX
      generalize wDat d.cs k = s at f2 HX
      generalize lastTo (d.cs.take k) (j : Int) s0 = old at HX ⊢
      by_cases hx : x = (j : Int)
      · have ht : (x == (j : Int)) = true := by simpa using hx
        have HX2 : Hid (lastTo (d.cs.take (k + 1)) (j : Int) s0 = s) := Lib.hid (by rw [HX.out, if_pos hx])
        clear hx HX
        go_wp2
        go_roundg (m - (k + 1))
        case measure => omega
        case rel => exact ⟨k + 1, by omega, by omega, by go_num, by rw [HX2.out], rfl⟩
      · have ht : (x == (j : Int)) = false := by rw [beq_eq_false_iff_ne]; exact hx
        have HX2 : Hid (lastTo (d.cs.take (k + 1)) (j : Int) s0 = old) := Lib.hid (by rw [HX.out, if_neg hx])
        clear hx HX
        go_wp2
        go_roundg (m - (k + 1))
        case measure => omega
        case rel => exact ⟨k + 1, by omega, by omega, by go_num, by rw [HX2.out], rfl⟩
    · have : k = m := by omega
      subst this
      have HX : Hid (d.cs.take k = d.cs) := Lib.hid (List.take_of_length_le (by rw [LC.out]; exact Nat.le_refl _))
      clear hg hk
      go_wp2
      go_ret2
      exact ⟨by rw [HX.out]; rfl, alloc_below0 _ _⟩

end Go.Proofs.Ytlpijikhbjkmfaa
