/-
  The program's Write: for every device that memory can hold, every place, every text.
-/
import Derived.Test.YtlpijikhbjkmfaaG12
import Derived.RegionTactic
import Derived.BigRegion
import Derived.StillTailTactics
namespace Go.Proofs.Ytlpijikhbjkmfaa
open Go.RowKit

theorem reads_new_at (w : World) (vs : Array Value) (e : TypeId) (n size : Nat) (h : vs.size = n * size) (g : Nat) (hg : w.heap.size = g) : Reads (w.alloc (.cells vs e)) (w.alloc (.cells vs e)).heap.size size (some ⟨g, 0, none⟩) n vs.toList := by
  subst hg
  exact reads_new w vs e n size h
theorem own_ne_b4 {w : World} {base : Nat} {e : TypeId} {size n : Nat} {v : Value} {xs : List Value} (h : w.ownsRow base e size v n xs) {g : Nat} {a b c d : Value} (hb : B4 w g a b c d) (hne : e ≠ 25) : v.ownBlock ≠ some g := by
  intro he
  rcases h.2 with ⟨rfl, _⟩ | ⟨g', cap, cur, rfl, _, hh, _⟩
  · cases he
  · obtain rfl : g' = g := by simpa [Value.ownBlock] using he
    unfold B4 at hb
    rw [hh] at hb
    injection hb with hb
    injection hb with _ ht
    exact hne ht
theorem Own.farB {w : World} {base : Nat} {A : Option Addr} {n c : Nat} {A' : Option Addr} {m c' : Nat} {bs : List ByteArray} {cs : List (Int × ByteArray)} (h : Own w base A n c A' m c' bs cs) (B : Nat) (h1 : (Value.slice A n c).ownBlock ≠ some B) (h2 : (Value.slice A' m c').ownBlock ≠ some B) (i : Nat) (u : Value) : Own (w.setCell ⟨B, i, none⟩ u) base A n c A' m c' bs cs := ⟨own_farB h.bs B h1 i u, own_farB h.cs B h2 i u⟩
theorem wr_cells (i : Int) (s : ByteArray) : (#[Value.int .i64 i, Value.string s] : Array Value).toList = encW [(i, s)] := rfl
theorem encW_snoc (cs : List (Int × ByteArray)) (i : Int) (s : ByteArray) : encW cs ++ encW [(i, s)] = encW (cs ++ [(i, s)]) := (encW_app cs [(i, s)]).symm
theorem own_eq_valsW {w : World} {base n : Nat} {e : TypeId} {v : Value} {xs ys : List Value} (h : w.ownsRow base e 2 v n xs) (he : xs = ys) : w.ownsRow base e 2 v n ys := he ▸ h

set_option maxRecDepth 100000 in
set_option maxHeartbeats 2000000 in
theorem write_dead (A A' : Option Addr) (n c m c' : Nat) (d : D) (l : Int) (i : Int) (s : ByteArray) (w : World) (h : Dv w w.heap.size A n A' m d) :
    Calls Try.prog 72 #[.agg #[.slice A n c, .slice A' m c', .int .i64 l, .bool true], .int .i64 i, .string s] w fun e w' => Tells2 w w' ⟨d.bs, d.cs, l, true⟩ 17 e := by
  have H := Lib.hid h; clear h
  have hn := Lib.hid (And.intro H.out.hn H.out.hm)
  go_enter Try.func72, Try.ntmps72
  go_wp2_with fail
  refine (copied_any A A' n c m c' d l true _ ((H.out.alloc _).alloc _)).mono ?_
  rintro e w1 ⟨A2, c2, A2', c2', rfl, ho1, hb1⟩
  have k1 := ((B4.new w (.slice A n c) (.slice A' m c') (.int .i64 l) (.bool true)).alloc (.cells #[.slice none 0 0, .slice none 0 0, .int .i64 0, .bool false] 25)).step hb1
  have r1 := (B4.new (w.alloc (.cells #[.slice A n c, .slice A' m c', .int .i64 l, .bool true] 25)) (.slice none 0 0) (.slice none 0 0) (.int .i64 0) (.bool false)).step hb1
  simp only [World.size_alloc] at k1 r1
  have hz : w.heap.size + 1 < w1.heap.size := r1.lt
  have hy : w.heap.size < w1.heap.size := by omega
  have HB1 : Hid (Below w.heap.size w w1) := Lib.hid ((alloc2_below w _ _).trans (hb1.mono (by simp; omega)))
  have O := Lib.hid (ho1.base (base' := w.heap.size + 2) (by simp))
  have R1 := Lib.hid r1
  have K1 := Lib.hid k1
  obtain ⟨x0, x1, x2, x3, xf⟩ := k1.cells
  obtain ⟨y0, y1, y2, y3, yf⟩ := r1.cells
  clear k1 r1 ho1 hb1
  go_wp2
  refine bodyPost_ret (v := .tuple #[.agg #[.slice A2 n c2, .slice A2' m c2', .int .i64 l, .bool true], .int .i64 17]) (by simp [results, Try.results72, go_sem, y0, y1, y2, y3, hz]) rfl ?_
  refine ⟨A2, n, c2, A2', m, c2', rfl, Own.dv (base := w.heap.size + 2) (c := c2) (c' := c2') (d := ⟨d.bs, d.cs, l, true⟩) ?_ hn.out.1 hn.out.2, ?_⟩
  · have hlt2 : w.heap.size + 1 < w.heap.size + 2 := by omega
    repeat (first | (with_reducible refine Own.setB ?_ (w.heap.size + 1) hlt2 _ _) | (with_reducible refine Own.set2B O.out ?_ w1.heap.size (Nat.le_refl _) _ _) | (with_reducible refine Own.alloc ?_ _))
    exact O.out
  · repeat (first | (with_reducible refine Below.setCell ?_ (by simp; try omega) _) | (with_reducible refine Below.alloc ?_ (by simp; omega) _))
    exact HB1.out

set_option maxRecDepth 100000 in
set_option maxHeartbeats 2000000 in
theorem write_place (A A' : Option Addr) (n c m c' : Nat) (d : D) (l : Int) (i : Int) (s : ByteArray) (w : World) (h : Dv w w.heap.size A n A' m d) (ht : ¬ ((0 ≤ i ∧ i < (n : Int)) ∧ s.size = 128)) :
    Calls Try.prog 72 #[.agg #[.slice A n c, .slice A' m c', .int .i64 l, .bool false], .int .i64 i, .string s] w fun e w' => Tells2 w w' ⟨d.bs, d.cs, l, false⟩ 15 e := by
  have H := Lib.hid h; clear h
  have hn := Lib.hid (And.intro H.out.hn H.out.hm)
  have c1 := fun W => takes_any A A' n c m c' l false i s W
  rw [decide_eq_false ht] at c1
  clear ht
  go_enter Try.func72, Try.ntmps72
  go_wp2_with fail
  refine (copied_any A A' n c m c' d l false _ ((H.out.alloc _).alloc _)).mono ?_
  rintro e w1 ⟨A2, c2, A2', c2', rfl, ho1, hb1⟩
  have k1 := ((B4.new w (.slice A n c) (.slice A' m c') (.int .i64 l) (.bool false)).alloc (.cells #[.slice none 0 0, .slice none 0 0, .int .i64 0, .bool false] 25)).step hb1
  have r1 := (B4.new (w.alloc (.cells #[.slice A n c, .slice A' m c', .int .i64 l, .bool false] 25)) (.slice none 0 0) (.slice none 0 0) (.int .i64 0) (.bool false)).step hb1
  simp only [World.size_alloc] at k1 r1
  have hz : w.heap.size + 1 < w1.heap.size := r1.lt
  have hy : w.heap.size < w1.heap.size := by omega
  have HB1 : Hid (Below w.heap.size w w1) := Lib.hid ((alloc2_below w _ _).trans (hb1.mono (by simp; omega)))
  have O := Lib.hid (ho1.base (base' := w.heap.size + 2) (by simp))
  have R1 := Lib.hid r1
  have K1 := Lib.hid k1
  obtain ⟨x0, x1, x2, x3, xf⟩ := k1.cells
  obtain ⟨y0, y1, y2, y3, yf⟩ := r1.cells
  clear k1 r1 ho1 hb1
  go_wp2_with fail
  refine (c1 _).mono ?_
  rintro e w2 ⟨rfl, hb2⟩
  have r2 := (R1.out.alloc (.cells #[.slice A2 n c2, .slice A2' m c2', .int .i64 l, .bool false] 25)).step hb2
  have k2 := (K1.out.alloc (.cells #[.slice A2 n c2, .slice A2' m c2', .int .i64 l, .bool false] 25)).step hb2
  have o2 := (B4.new w1 (.slice A2 n c2) (.slice A2' m c2') (.int .i64 l) (.bool false)).step hb2
  have hz2 : w.heap.size + 1 < w2.heap.size := r2.lt
  have hzo : w1.heap.size < w2.heap.size := o2.lt
  have HB2 : Hid (Below w.heap.size w w2) := Lib.hid ((HB1.out.alloc (by omega) _).trans (hb2.mono (by simp; omega)))
  have O2 := Lib.hid ((O.out.alloc (.cells #[.slice A2 n c2, .slice A2' m c2', .int .i64 l, .bool false] 25)).below hb2)
  have R2 := Lib.hid r2
  have W2 := Lib.hid o2
  clear x0 x1 x2 x3 xf y0 y1 y2 y3 yf
  obtain ⟨x0, x1, x2, x3, xf⟩ := k2.cells
  obtain ⟨y0, y1, y2, y3, yf⟩ := r2.cells
  obtain ⟨z0, z1, z2, z3, zf⟩ := o2.cells
  clear r2 k2 o2 hb2
  go_wp2
  refine bodyPost_ret (v := .tuple #[.agg #[.slice A2 n c2, .slice A2' m c2', .int .i64 l, .bool false], .int .i64 15]) (by simp [results, Try.results72, go_sem, y0, y1, y2, y3]) rfl ?_
  refine ⟨A2, n, c2, A2', m, c2', rfl, Own.dv (base := w.heap.size + 2) (c := c2) (c' := c2') (d := ⟨d.bs, d.cs, l, false⟩) ?_ hn.out.1 hn.out.2, ?_⟩
  · have hlt2 : w.heap.size + 1 < w.heap.size + 2 := by omega
    repeat (first | (with_reducible refine Own.setB ?_ (w.heap.size + 1) hlt2 _ _) | (with_reducible refine Own.set2B O.out ?_ w1.heap.size (Nat.le_refl _) _ _) | (with_reducible refine Own.alloc ?_ _))
    exact O2.out
  · repeat (first | (with_reducible refine Below.setCell ?_ (by simp; try omega) _) | (with_reducible refine Below.alloc ?_ (by simp; omega) _))
    exact HB2.out

set_option maxRecDepth 100000 in
set_option maxHeartbeats 2000000 in
theorem write_full (A A' : Option Addr) (n c m c' : Nat) (d : D) (l : Int) (i : Int) (s : ByteArray) (w : World) (h : Dv w w.heap.size A n A' m d) (ht : (0 ≤ i ∧ i < (n : Int)) ∧ s.size = 128) (hf : 4096 ≤ m) :
    Calls Try.prog 72 #[.agg #[.slice A n c, .slice A' m c', .int .i64 l, .bool false], .int .i64 i, .string s] w fun e w' => Tells2 w w' ⟨d.bs, d.cs, l, false⟩ 18 e := by
  have H := Lib.hid h; clear h
  have hn := Lib.hid (And.intro H.out.hn H.out.hm)
  have c1 := fun W => takes_any A A' n c m c' l false i s W
  rw [decide_eq_true ht] at c1
  clear ht
  have hf2 : decide ((4096 : Int) ≤ (m : Int)) = true := by simp; omega
  go_enter Try.func72, Try.ntmps72
  go_wp2_with fail
  refine (copied_any A A' n c m c' d l false _ ((H.out.alloc _).alloc _)).mono ?_
  rintro e w1 ⟨A2, c2, A2', c2', rfl, ho1, hb1⟩
  have k1 := ((B4.new w (.slice A n c) (.slice A' m c') (.int .i64 l) (.bool false)).alloc (.cells #[.slice none 0 0, .slice none 0 0, .int .i64 0, .bool false] 25)).step hb1
  have r1 := (B4.new (w.alloc (.cells #[.slice A n c, .slice A' m c', .int .i64 l, .bool false] 25)) (.slice none 0 0) (.slice none 0 0) (.int .i64 0) (.bool false)).step hb1
  simp only [World.size_alloc] at k1 r1
  have hz : w.heap.size + 1 < w1.heap.size := r1.lt
  have hy : w.heap.size < w1.heap.size := by omega
  have HB1 : Hid (Below w.heap.size w w1) := Lib.hid ((alloc2_below w _ _).trans (hb1.mono (by simp; omega)))
  have O := Lib.hid (ho1.base (base' := w.heap.size + 2) (by simp))
  have R1 := Lib.hid r1
  have K1 := Lib.hid k1
  obtain ⟨x0, x1, x2, x3, xf⟩ := k1.cells
  obtain ⟨y0, y1, y2, y3, yf⟩ := r1.cells
  clear k1 r1 ho1 hb1
  go_wp2_with fail
  refine (c1 _).mono ?_
  rintro e w2 ⟨rfl, hb2⟩
  have r2 := (R1.out.alloc (.cells #[.slice A2 n c2, .slice A2' m c2', .int .i64 l, .bool false] 25)).step hb2
  have k2 := (K1.out.alloc (.cells #[.slice A2 n c2, .slice A2' m c2', .int .i64 l, .bool false] 25)).step hb2
  have o2 := (B4.new w1 (.slice A2 n c2) (.slice A2' m c2') (.int .i64 l) (.bool false)).step hb2
  have hz2 : w.heap.size + 1 < w2.heap.size := r2.lt
  have hzo : w1.heap.size < w2.heap.size := o2.lt
  have HB2 : Hid (Below w.heap.size w w2) := Lib.hid ((HB1.out.alloc (by omega) _).trans (hb2.mono (by simp; omega)))
  have O2 := Lib.hid ((O.out.alloc (.cells #[.slice A2 n c2, .slice A2' m c2', .int .i64 l, .bool false] 25)).below hb2)
  have R2 := Lib.hid r2
  have W2 := Lib.hid o2
  clear x0 x1 x2 x3 xf y0 y1 y2 y3 yf
  obtain ⟨x0, x1, x2, x3, xf⟩ := k2.cells
  obtain ⟨y0, y1, y2, y3, yf⟩ := r2.cells
  obtain ⟨z0, z1, z2, z3, zf⟩ := o2.cells
  clear r2 k2 o2 hb2
  go_wp2
  refine bodyPost_ret (v := .tuple #[.agg #[.slice A2 n c2, .slice A2' m c2', .int .i64 l, .bool false], .int .i64 18]) (by simp [results, Try.results72, go_sem, y0, y1, y2, y3]) rfl ?_
  refine ⟨A2, n, c2, A2', m, c2', rfl, Own.dv (base := w.heap.size + 2) (c := c2) (c' := c2') (d := ⟨d.bs, d.cs, l, false⟩) ?_ hn.out.1 hn.out.2, ?_⟩
  · have hlt2 : w.heap.size + 1 < w.heap.size + 2 := by omega
    repeat (first | (with_reducible refine Own.setB ?_ (w.heap.size + 1) hlt2 _ _) | (with_reducible refine Own.set2B O.out ?_ w1.heap.size (Nat.le_refl _) _ _) | (with_reducible refine Own.alloc ?_ _))
    exact O2.out
  · repeat (first | (with_reducible refine Below.setCell ?_ (by simp; try omega) _) | (with_reducible refine Below.alloc ?_ (by simp; omega) _))
    exact HB2.out

set_option maxRecDepth 100000 in
set_option maxHeartbeats 2000000 in
theorem write_no (A A' : Option Addr) (n c m c' : Nat) (d : D) (i : Int) (s : ByteArray) (w : World) (h : Dv w w.heap.size A n A' m d) (ht : (0 ≤ i ∧ i < (n : Int)) ∧ s.size = 128) (hf : m < 4096) :
    Calls Try.prog 72 #[.agg #[.slice A n c, .slice A' m c', .int .i64 0, .bool false], .int .i64 i, .string s] w fun e w' => Tells2 w w' ⟨d.bs, d.cs, 0, true⟩ 16 e := by
  have H := Lib.hid h; clear h
  have hn := Lib.hid (And.intro H.out.hn H.out.hm)
  have c1 := fun W => takes_any A A' n c m c' 0 false i s W
  rw [decide_eq_true ht] at c1
  clear ht
  have hf2 : decide ((4096 : Int) ≤ (m : Int)) = false := by simp; omega
  go_enter Try.func72, Try.ntmps72
  go_wp2_with fail
  refine (copied_any A A' n c m c' d 0 false _ ((H.out.alloc _).alloc _)).mono ?_
  rintro e w1 ⟨A2, c2, A2', c2', rfl, ho1, hb1⟩
  have k1 := ((B4.new w (.slice A n c) (.slice A' m c') (.int .i64 0) (.bool false)).alloc (.cells #[.slice none 0 0, .slice none 0 0, .int .i64 0, .bool false] 25)).step hb1
  have r1 := (B4.new (w.alloc (.cells #[.slice A n c, .slice A' m c', .int .i64 0, .bool false] 25)) (.slice none 0 0) (.slice none 0 0) (.int .i64 0) (.bool false)).step hb1
  simp only [World.size_alloc] at k1 r1
  have hz : w.heap.size + 1 < w1.heap.size := r1.lt
  have hy : w.heap.size < w1.heap.size := by omega
  have HB1 : Hid (Below w.heap.size w w1) := Lib.hid ((alloc2_below w _ _).trans (hb1.mono (by simp; omega)))
  have O := Lib.hid (ho1.base (base' := w.heap.size + 2) (by simp))
  have R1 := Lib.hid r1
  have K1 := Lib.hid k1
  obtain ⟨x0, x1, x2, x3, xf⟩ := k1.cells
  obtain ⟨y0, y1, y2, y3, yf⟩ := r1.cells
  clear k1 r1 ho1 hb1
  go_wp2_with fail
  refine (c1 _).mono ?_
  rintro e w2 ⟨rfl, hb2⟩
  have r2 := (R1.out.alloc (.cells #[.slice A2 n c2, .slice A2' m c2', .int .i64 0, .bool false] 25)).step hb2
  have k2 := (K1.out.alloc (.cells #[.slice A2 n c2, .slice A2' m c2', .int .i64 0, .bool false] 25)).step hb2
  have o2 := (B4.new w1 (.slice A2 n c2) (.slice A2' m c2') (.int .i64 0) (.bool false)).step hb2
  have hz2 : w.heap.size + 1 < w2.heap.size := r2.lt
  have hzo : w1.heap.size < w2.heap.size := o2.lt
  have HB2 : Hid (Below w.heap.size w w2) := Lib.hid ((HB1.out.alloc (by omega) _).trans (hb2.mono (by simp; omega)))
  have O2 := Lib.hid ((O.out.alloc (.cells #[.slice A2 n c2, .slice A2' m c2', .int .i64 0, .bool false] 25)).below hb2)
  have R2 := Lib.hid r2
  have W2 := Lib.hid o2
  clear x0 x1 x2 x3 xf y0 y1 y2 y3 yf
  obtain ⟨x0, x1, x2, x3, xf⟩ := k2.cells
  obtain ⟨y0, y1, y2, y3, yf⟩ := r2.cells
  obtain ⟨z0, z1, z2, z3, zf⟩ := o2.cells
  clear r2 k2 o2 hb2
  go_wp2_with fail
  refine (spend_no A2 A2' n c2 m c2' false _).mono ?_
  rintro e w3 ⟨rfl, hb3⟩
  have r3 := R2.out.step hb3
  have o3 := W2.out.step hb3
  have hz3 : w.heap.size + 1 < w3.heap.size := r3.lt
  have ho3 : w1.heap.size < w3.heap.size := o3.lt
  have HB3 : Hid (Below w.heap.size w w3) := Lib.hid (HB2.out.trans (hb3.mono (by omega)))
  have O3 := Lib.hid (O2.out.below hb3)
  have R3 := Lib.hid r3
  have W3 := Lib.hid o3
  clear x0 x1 x2 x3 xf y0 y1 y2 y3 yf z0 z1 z2 z3 zf
  obtain ⟨y0, y1, y2, y3, yf⟩ := r3.cells
  obtain ⟨z0, z1, z2, z3, zf⟩ := o3.cells
  clear r3 o3 hb3
  go_wp2
  refine bodyPost_ret (v := .tuple #[.agg #[.slice A2 n c2, .slice A2' m c2', .int .i64 0, .bool true], .int .i64 16]) (by simp [results, Try.results72, go_sem, y0, y1, y2, y3]) rfl ?_
  refine ⟨A2, n, c2, A2', m, c2', rfl, Own.dv (base := w.heap.size + 2) (c := c2) (c' := c2') (d := ⟨d.bs, d.cs, 0, true⟩) ?_ hn.out.1 hn.out.2, ?_⟩
  · have hlt2 : w.heap.size + 1 < w.heap.size + 2 := by omega
    repeat (first | (with_reducible refine Own.setB ?_ (w.heap.size + 1) hlt2 _ _) | (with_reducible refine Own.set2B O.out ?_ w1.heap.size (Nat.le_refl _) _ _) | (with_reducible refine Own.alloc ?_ _))
    exact O3.out
  · repeat (first | (with_reducible refine Below.setCell ?_ (by simp; try omega) _) | (with_reducible refine Below.alloc ?_ (by simp; omega) _))
    exact HB3.out

set_option maxRecDepth 100000 in
set_option maxHeartbeats 2000000 in
theorem write_yes (A A' : Option Addr) (n c m c' : Nat) (d : D) (l : Int) (i : Int) (s : ByteArray) (w : World) (h : Dv w w.heap.size A n A' m d) (ht : (0 ≤ i ∧ i < (n : Int)) ∧ s.size = 128) (hf : m < 4096) (h0 : l ≠ 0) (hl : l ≤ 9223372036854775807) :
    Calls Try.prog 72 #[.agg #[.slice A n c, .slice A' m c', .int .i64 l, .bool false], .int .i64 i, .string s] w fun e w' => Tells2 w w' ⟨d.bs, d.cs ++ [(i, s)], spL l, false⟩ 0 e := by
  have H := Lib.hid h; clear h
  have hn := Lib.hid (And.intro H.out.hn H.out.hm)
  have c1 := fun W => takes_any A A' n c m c' l false i s W
  rw [decide_eq_true ht] at c1
  clear ht
  have hf2 : decide ((4096 : Int) ≤ (m : Int)) = false := by simp; omega
  have HS := Lib.hid (And.intro h0 hl); clear h0 hl
  obtain ⟨j0, hj0, hy0, hy1, hy2⟩ := info_parts infoW
  go_enter Try.func72, Try.ntmps72
  go_wp2_with fail
  refine (copied_any A A' n c m c' d l false _ ((H.out.alloc _).alloc _)).mono ?_
  rintro e w1 ⟨A2, c2, A2', c2', rfl, ho1, hb1⟩
  have k1 := ((B4.new w (.slice A n c) (.slice A' m c') (.int .i64 l) (.bool false)).alloc (.cells #[.slice none 0 0, .slice none 0 0, .int .i64 0, .bool false] 25)).step hb1
  have r1 := (B4.new (w.alloc (.cells #[.slice A n c, .slice A' m c', .int .i64 l, .bool false] 25)) (.slice none 0 0) (.slice none 0 0) (.int .i64 0) (.bool false)).step hb1
  simp only [World.size_alloc] at k1 r1
  have hz : w.heap.size + 1 < w1.heap.size := r1.lt
  have hy : w.heap.size < w1.heap.size := by omega
  have HB1 : Hid (Below w.heap.size w w1) := Lib.hid ((alloc2_below w _ _).trans (hb1.mono (by simp; omega)))
  have O := Lib.hid (ho1.base (base' := w.heap.size + 2) (by simp))
  have R1 := Lib.hid r1
  have K1 := Lib.hid k1
  obtain ⟨x0, x1, x2, x3, xf⟩ := k1.cells
  obtain ⟨y0, y1, y2, y3, yf⟩ := r1.cells
  clear k1 r1 ho1 hb1
  go_wp2_with fail
  refine (c1 _).mono ?_
  rintro e w2 ⟨rfl, hb2⟩
  have r2 := (R1.out.alloc (.cells #[.slice A2 n c2, .slice A2' m c2', .int .i64 l, .bool false] 25)).step hb2
  have k2 := (K1.out.alloc (.cells #[.slice A2 n c2, .slice A2' m c2', .int .i64 l, .bool false] 25)).step hb2
  have o2 := (B4.new w1 (.slice A2 n c2) (.slice A2' m c2') (.int .i64 l) (.bool false)).step hb2
  have hz2 : w.heap.size + 1 < w2.heap.size := r2.lt
  have hzo : w1.heap.size < w2.heap.size := o2.lt
  have HB2 : Hid (Below w.heap.size w w2) := Lib.hid ((HB1.out.alloc (by omega) _).trans (hb2.mono (by simp; omega)))
  have O2 := Lib.hid ((O.out.alloc (.cells #[.slice A2 n c2, .slice A2' m c2', .int .i64 l, .bool false] 25)).below hb2)
  have R2 := Lib.hid r2
  have W2 := Lib.hid o2
  clear x0 x1 x2 x3 xf y0 y1 y2 y3 yf
  obtain ⟨x0, x1, x2, x3, xf⟩ := k2.cells
  obtain ⟨y0, y1, y2, y3, yf⟩ := r2.cells
  obtain ⟨z0, z1, z2, z3, zf⟩ := o2.cells
  clear r2 k2 o2 hb2
  go_wp2_with fail
  refine (spend_yes A2 A2' n c2 m c2' l false _ HS.out.1 HS.out.2).mono ?_
  rintro e w3 ⟨rfl, hb3⟩
  have r3 := R2.out.step hb3
  have o3 := W2.out.step hb3
  have hz3 : w.heap.size + 1 < w3.heap.size := r3.lt
  have ho3 : w1.heap.size < w3.heap.size := o3.lt
  have HB3 : Hid (Below w.heap.size w w3) := Lib.hid (HB2.out.trans (hb3.mono (by omega)))
  have O3 := Lib.hid (O2.out.below hb3)
  have R3 := Lib.hid r3
  have W3 := Lib.hid o3
  clear x0 x1 x2 x3 xf y0 y1 y2 y3 yf z0 z1 z2 z3 zf
  obtain ⟨y0, y1, y2, y3, yf⟩ := r3.cells
  obtain ⟨z0, z1, z2, z3, zf⟩ := o3.cells
  clear r3 o3 hb3
  have P := Lib.hid (And.intro
    ((((R3.out.far (p := ⟨w1.heap.size, 0, none⟩) (by simp; omega) (.slice A2 n c2)).far (p := ⟨w1.heap.size, 1, none⟩) (by simp; omega) (.slice A2' m c2')).far (p := ⟨w1.heap.size, 2, none⟩) (by simp; omega) (.int .i64 (spL l))).far (p := ⟨w1.heap.size, 3, none⟩) (by simp; omega) (.bool false))
    (And.intro ((((W3.out.set0 (.slice A2 n c2)).set1 (.slice A2' m c2')).set2 (.int .i64 (spL l))).set3 (.bool false))
    (And.intro (O.out.set2 (O.out.set2 (O.out.set2 (O.out.set2 O3.out (a := ⟨w1.heap.size, 0, none⟩) (by simp) (.slice A2 n c2)) (a := ⟨w1.heap.size, 1, none⟩) (by simp) (.slice A2' m c2')) (a := ⟨w1.heap.size, 2, none⟩) (by simp) (.int .i64 (spL l))) (a := ⟨w1.heap.size, 3, none⟩) (by simp) (.bool false))
      ((((HB3.out.setCell (p := ⟨w1.heap.size, 0, none⟩) (by simp; omega) (.slice A2 n c2)).setCell (p := ⟨w1.heap.size, 1, none⟩) (by simp; omega) (.slice A2' m c2')).setCell (p := ⟨w1.heap.size, 2, none⟩) (by simp; omega) (.int .i64 (spL l))).setCell (p := ⟨w1.heap.size, 3, none⟩) (by simp; omega) (.bool false)))))
  clear R3 W3 O3 HB3
  have HSZ : Hid (((((w3.setCell ⟨w1.heap.size, 0, none⟩ (.slice A2 n c2)).setCell ⟨w1.heap.size, 1, none⟩ (.slice A2' m c2')).setCell ⟨w1.heap.size, 2, none⟩ (.int .i64 (spL l))).setCell ⟨w1.heap.size, 3, none⟩ (.bool false)).heap.size = w3.heap.size) := Lib.hid (by simp)
  go_wp2_with (at_builtin; generalize (((w3.setCell ⟨w1.heap.size, 0, none⟩ (.slice A2 n c2)).setCell ⟨w1.heap.size, 1, none⟩ (.slice A2' m c2')).setCell ⟨w1.heap.size, 2, none⟩ (.int .i64 (spL l))).setCell ⟨w1.heap.size, 3, none⟩ (.bool false) = w4 at P HSZ ⊢; refine wpList_append_reads _ rfl (.tmp 37) (.tmp 41) 23 rfl (w.heap.size + 2) 53 j0 _ 2 24 Try.underlying23 hj0 hy0 hy1 hy2 rfl (by omega) (.slice A2' m c2') m (encW d.cs) rfl (own_alloc P.out.2.2.1.cs _) _ _ 1 1 (encW [(i, s)]) rfl (reads_new_at _ #[.int .i64 i, .string s] 53 1 2 rfl w3.heap.size HSZ.out) (encW_one _) ?_ ?_ ?_ ?_)
  · simp only [maxLen]; omega
  · omega
  · have := P.out.1.lt; simp; omega
  have hz4 : w.heap.size + 1 < w4.heap.size := P.out.1.lt
  intro A3 c3 w5 ho5 hg5 _
  have hne1 : (Value.slice A2' m c2').ownBlock ≠ some (w.heap.size + 1) := fun e => by have := own_row_ge O.out.cs _ e; omega
  have hne2 : (Value.slice A2' m c2').ownBlock ≠ some w1.heap.size := fun e => by have := own_lt O.out.cs _ e; omega
  have P5 := Lib.hid (And.intro ((P.out.1.alloc (.cells #[.int .i64 i, .string s] 53)).grown hg5 hne1) (And.intro ((P.out.2.1.alloc (.cells #[.int .i64 i, .string s] 53)).grown hg5 hne2)
    (And.intro (Own.mk (own_grown (own_alloc P.out.2.2.1.bs (.cells #[.int .i64 i, .string s] 53)) hg5 (fun g h1 h2 => own_apart P.out.2.2.1.bs P.out.2.2.1.cs (by decide) g h1 h2)) (own_eq_valsW ho5 (encW_snoc d.cs i s)))
      ((P.out.2.2.2.alloc (by omega) (.cells #[.int .i64 i, .string s] 53)).grown hg5 (by simp; omega) (fun g e => by have := own_row_ge O.out.cs g e; omega)))))
  have hz5 : w.heap.size + 1 < w5.heap.size := P5.out.1.lt
  have hzo5 : w1.heap.size < w5.heap.size := P5.out.2.1.lt
  have hlt3 := Lib.hid (fun g (e : (Value.slice A2 n c2).ownBlock = some g) => own_lt O.out.bs g e)
  clear ho5 hg5 hne1 hne2 y0 y1 y2 y3 yf z0 z1 z2 z3 zf P
  obtain ⟨y0, y1, y2, y3, yf⟩ := P5.out.1.cells
  obtain ⟨z0, z1, z2, z3, zf⟩ := P5.out.2.1.cells
  go_wp2
  refine bodyPost_ret (v := .tuple #[.agg #[.slice A2 n c2, .slice A3 (m + 1) c3, .int .i64 (spL l), .bool false], .int .i64 0]) (by simp [results, Try.results72, go_sem, y0, y1, y2, y3]) rfl ?_
  refine ⟨A2, n, c2, A3, m + 1, c3, rfl, Own.dv (base := w.heap.size + 2) (c := c2) (c' := c3) (d := ⟨d.bs, d.cs ++ [(i, s)], spL l, false⟩) ?_ hn.out.1 (by omega), ?_⟩
  · have hlt2 : w.heap.size + 1 < w.heap.size + 2 := by omega
    have hn1 := own_ne_b4 P5.out.2.2.1.bs P5.out.2.1 (by decide)
    have hn2 := own_ne_b4 P5.out.2.2.1.cs P5.out.2.1 (by decide)
    repeat (first | (with_reducible refine Own.setB ?_ (w.heap.size + 1) hlt2 _ _) | (with_reducible refine Own.farB ?_ w1.heap.size hn1 hn2 _ _))
    exact P5.out.2.2.1
  · repeat (with_reducible refine Below.setCell ?_ (by simp; try omega) _)
    exact P5.out.2.2.2

end Go.Proofs.Ytlpijikhbjkmfaa

/-
  The document's own Write: for every device that memory can hold, every place, every text.
-/
namespace Go.Proofs.Ytlpijikhbjkmfaa
open Go.RowKit

set_option maxRecDepth 100000 in
set_option maxHeartbeats 2000000 in
theorem refWrite_dead (A A' : Option Addr) (n c m c' : Nat) (d : D) (l : Int) (i : Int) (s : ByteArray) (w : World) (h : Dv w w.heap.size A n A' m d) :
    Calls Try.prog 62 #[.agg #[.slice A n c, .slice A' m c', .int .i64 l, .bool true], .int .i64 i, .string s] w fun e w' => Tells2 w w' ⟨d.bs, d.cs, l, true⟩ 17 e := by
  have H := Lib.hid h; clear h
  have hn := Lib.hid (And.intro H.out.hn H.out.hm)
  go_enter Try.func62, Try.ntmps62
  go_wp2_with fail
  refine (refCopy_any A A' n c m c' d l true _ ((H.out.alloc _).alloc _)).mono ?_
  rintro e w1 ⟨A2, c2, A2', c2', rfl, ho1, hb1⟩
  have r1 := (B4.new (w.alloc (.cells #[.slice A n c, .slice A' m c', .int .i64 l, .bool true] 25)) (.slice none 0 0) (.slice none 0 0) (.int .i64 0) (.bool false)).step hb1
  simp only [World.size_alloc] at r1
  have hz : w.heap.size + 1 < w1.heap.size := r1.lt
  have HB1 : Hid (Below w.heap.size w w1) := Lib.hid ((alloc2_below w _ _).trans (hb1.mono (by simp; omega)))
  have O := Lib.hid (ho1.base (base' := w.heap.size + 2) (by simp))
  obtain ⟨y0, y1, y2, y3, yf⟩ := r1.cells
  clear r1 ho1 hb1
  go_wp2
  refine bodyPost_ret (v := .tuple #[.agg #[.slice A2 n c2, .slice A2' m c2', .int .i64 l, .bool true], .int .i64 17]) (by simp [results, Try.results62, go_sem, y0, y1, y2, y3]) rfl ?_
  refine ⟨A2, n, c2, A2', m, c2', rfl, Own.dv (base := w.heap.size + 2) (c := c2) (c' := c2') (d := ⟨d.bs, d.cs, l, true⟩) ?_ hn.out.1 hn.out.2, ?_⟩
  · have hlt2 : w.heap.size + 1 < w.heap.size + 2 := by omega
    repeat (with_reducible refine Own.setB ?_ (w.heap.size + 1) hlt2 _ _)
    exact O.out
  · repeat (with_reducible refine Below.setCell ?_ (by simp; try omega) _)
    exact HB1.out

set_option maxRecDepth 100000 in
set_option maxHeartbeats 2000000 in
theorem refWrite_place1 (A A' : Option Addr) (n c m c' : Nat) (d : D) (l : Int) (i : Int) (s : ByteArray) (w : World) (h : Dv w w.heap.size A n A' m d) (ht : i < 0) :
    Calls Try.prog 62 #[.agg #[.slice A n c, .slice A' m c', .int .i64 l, .bool false], .int .i64 i, .string s] w fun e w' => Tells2 w w' ⟨d.bs, d.cs, l, false⟩ 15 e := by
  have H := Lib.hid h; clear h
  have hn := Lib.hid (And.intro H.out.hn H.out.hm)
  go_enter Try.func62, Try.ntmps62
  go_wp2_with fail
  refine (refCopy_any A A' n c m c' d l false _ ((H.out.alloc _).alloc _)).mono ?_
  rintro e w1 ⟨A2, c2, A2', c2', rfl, ho1, hb1⟩
  have r1 := (B4.new (w.alloc (.cells #[.slice A n c, .slice A' m c', .int .i64 l, .bool false] 25)) (.slice none 0 0) (.slice none 0 0) (.int .i64 0) (.bool false)).step hb1
  simp only [World.size_alloc] at r1
  have hz : w.heap.size + 1 < w1.heap.size := r1.lt
  have HB1 : Hid (Below w.heap.size w w1) := Lib.hid ((alloc2_below w _ _).trans (hb1.mono (by simp; omega)))
  have O := Lib.hid (ho1.base (base' := w.heap.size + 2) (by simp))
  obtain ⟨y0, y1, y2, y3, yf⟩ := r1.cells
  clear r1 ho1 hb1
  go_wp2
  refine bodyPost_ret (v := .tuple #[.agg #[.slice A2 n c2, .slice A2' m c2', .int .i64 l, .bool false], .int .i64 15]) (by simp [results, Try.results62, go_sem, y0, y1, y2, y3]) rfl ?_
  refine ⟨A2, n, c2, A2', m, c2', rfl, Own.dv (base := w.heap.size + 2) (c := c2) (c' := c2') (d := ⟨d.bs, d.cs, l, false⟩) ?_ hn.out.1 hn.out.2, ?_⟩
  · have hlt2 : w.heap.size + 1 < w.heap.size + 2 := by omega
    repeat (with_reducible refine Own.setB ?_ (w.heap.size + 1) hlt2 _ _)
    exact O.out
  · repeat (with_reducible refine Below.setCell ?_ (by simp; try omega) _)
    exact HB1.out

set_option maxRecDepth 100000 in
set_option maxHeartbeats 2000000 in
theorem refWrite_place2 (A A' : Option Addr) (n c m c' : Nat) (d : D) (l : Int) (i : Int) (s : ByteArray) (w : World) (h : Dv w w.heap.size A n A' m d) (h0 : 0 ≤ i) (ht : (n : Int) ≤ i) :
    Calls Try.prog 62 #[.agg #[.slice A n c, .slice A' m c', .int .i64 l, .bool false], .int .i64 i, .string s] w fun e w' => Tells2 w w' ⟨d.bs, d.cs, l, false⟩ 15 e := by
  have H := Lib.hid h; clear h
  have hn := Lib.hid (And.intro H.out.hn H.out.hm)
  have hd0 : decide (i < 0) = false := by simp; omega
  go_enter Try.func62, Try.ntmps62
  go_wp2_with fail
  refine (refCopy_any A A' n c m c' d l false _ ((H.out.alloc _).alloc _)).mono ?_
  rintro e w1 ⟨A2, c2, A2', c2', rfl, ho1, hb1⟩
  have r1 := (B4.new (w.alloc (.cells #[.slice A n c, .slice A' m c', .int .i64 l, .bool false] 25)) (.slice none 0 0) (.slice none 0 0) (.int .i64 0) (.bool false)).step hb1
  simp only [World.size_alloc] at r1
  have hz : w.heap.size + 1 < w1.heap.size := r1.lt
  have HB1 : Hid (Below w.heap.size w w1) := Lib.hid ((alloc2_below w _ _).trans (hb1.mono (by simp; omega)))
  have O := Lib.hid (ho1.base (base' := w.heap.size + 2) (by simp))
  obtain ⟨y0, y1, y2, y3, yf⟩ := r1.cells
  clear r1 ho1 hb1
  go_wp2
  refine bodyPost_ret (v := .tuple #[.agg #[.slice A2 n c2, .slice A2' m c2', .int .i64 l, .bool false], .int .i64 15]) (by simp [results, Try.results62, go_sem, y0, y1, y2, y3]) rfl ?_
  refine ⟨A2, n, c2, A2', m, c2', rfl, Own.dv (base := w.heap.size + 2) (c := c2) (c' := c2') (d := ⟨d.bs, d.cs, l, false⟩) ?_ hn.out.1 hn.out.2, ?_⟩
  · have hlt2 : w.heap.size + 1 < w.heap.size + 2 := by omega
    repeat (with_reducible refine Own.setB ?_ (w.heap.size + 1) hlt2 _ _)
    exact O.out
  · repeat (with_reducible refine Below.setCell ?_ (by simp; try omega) _)
    exact HB1.out

set_option maxRecDepth 100000 in
set_option maxHeartbeats 2000000 in
theorem refWrite_place3 (A A' : Option Addr) (n c m c' : Nat) (d : D) (l : Int) (i : Int) (s : ByteArray) (w : World) (h : Dv w w.heap.size A n A' m d) (h0 : 0 ≤ i) (h1 : i < (n : Int)) (ht : s.size ≠ 128) :
    Calls Try.prog 62 #[.agg #[.slice A n c, .slice A' m c', .int .i64 l, .bool false], .int .i64 i, .string s] w fun e w' => Tells2 w w' ⟨d.bs, d.cs, l, false⟩ 15 e := by
  have H := Lib.hid h; clear h
  have hn := Lib.hid (And.intro H.out.hn H.out.hm)
  have hd0 : decide (i < 0) = false := by simp; omega
  have hd1 : decide ((n : Int) ≤ i) = false := by simp; omega
  have ht2 : ((s.size : Int) != 128) = true := by simp; omega
  clear ht
  go_enter Try.func62, Try.ntmps62
  go_wp2_with fail
  refine (refCopy_any A A' n c m c' d l false _ ((H.out.alloc _).alloc _)).mono ?_
  rintro e w1 ⟨A2, c2, A2', c2', rfl, ho1, hb1⟩
  have r1 := (B4.new (w.alloc (.cells #[.slice A n c, .slice A' m c', .int .i64 l, .bool false] 25)) (.slice none 0 0) (.slice none 0 0) (.int .i64 0) (.bool false)).step hb1
  simp only [World.size_alloc] at r1
  have hz : w.heap.size + 1 < w1.heap.size := r1.lt
  have HB1 : Hid (Below w.heap.size w w1) := Lib.hid ((alloc2_below w _ _).trans (hb1.mono (by simp; omega)))
  have O := Lib.hid (ho1.base (base' := w.heap.size + 2) (by simp))
  obtain ⟨y0, y1, y2, y3, yf⟩ := r1.cells
  clear r1 ho1 hb1
  go_wp2
  refine bodyPost_ret (v := .tuple #[.agg #[.slice A2 n c2, .slice A2' m c2', .int .i64 l, .bool false], .int .i64 15]) (by simp [results, Try.results62, go_sem, y0, y1, y2, y3]) rfl ?_
  refine ⟨A2, n, c2, A2', m, c2', rfl, Own.dv (base := w.heap.size + 2) (c := c2) (c' := c2') (d := ⟨d.bs, d.cs, l, false⟩) ?_ hn.out.1 hn.out.2, ?_⟩
  · have hlt2 : w.heap.size + 1 < w.heap.size + 2 := by omega
    repeat (with_reducible refine Own.setB ?_ (w.heap.size + 1) hlt2 _ _)
    exact O.out
  · repeat (with_reducible refine Below.setCell ?_ (by simp; try omega) _)
    exact HB1.out

set_option maxRecDepth 100000 in
set_option maxHeartbeats 2000000 in
theorem refWrite_full (A A' : Option Addr) (n c m c' : Nat) (d : D) (l : Int) (i : Int) (s : ByteArray) (w : World) (h : Dv w w.heap.size A n A' m d) (h0 : 0 ≤ i) (h1 : i < (n : Int)) (ht : s.size = 128) (hf : 4096 ≤ m) :
    Calls Try.prog 62 #[.agg #[.slice A n c, .slice A' m c', .int .i64 l, .bool false], .int .i64 i, .string s] w fun e w' => Tells2 w w' ⟨d.bs, d.cs, l, false⟩ 18 e := by
  have H := Lib.hid h; clear h
  have hn := Lib.hid (And.intro H.out.hn H.out.hm)
  have hd0 : decide (i < 0) = false := by simp; omega
  have hd1 : decide ((n : Int) ≤ i) = false := by simp; omega
  have ht2 : ((s.size : Int) != 128) = false := by simp; omega
  clear ht
  have hf2 : decide ((4096 : Int) ≤ (m : Int)) = true := by simp; omega
  go_enter Try.func62, Try.ntmps62
  go_wp2_with fail
  refine (refCopy_any A A' n c m c' d l false _ ((H.out.alloc _).alloc _)).mono ?_
  rintro e w1 ⟨A2, c2, A2', c2', rfl, ho1, hb1⟩
  have r1 := (B4.new (w.alloc (.cells #[.slice A n c, .slice A' m c', .int .i64 l, .bool false] 25)) (.slice none 0 0) (.slice none 0 0) (.int .i64 0) (.bool false)).step hb1
  simp only [World.size_alloc] at r1
  have hz : w.heap.size + 1 < w1.heap.size := r1.lt
  have HB1 : Hid (Below w.heap.size w w1) := Lib.hid ((alloc2_below w _ _).trans (hb1.mono (by simp; omega)))
  have O := Lib.hid (ho1.base (base' := w.heap.size + 2) (by simp))
  obtain ⟨y0, y1, y2, y3, yf⟩ := r1.cells
  clear r1 ho1 hb1
  go_wp2
  refine bodyPost_ret (v := .tuple #[.agg #[.slice A2 n c2, .slice A2' m c2', .int .i64 l, .bool false], .int .i64 18]) (by simp [results, Try.results62, go_sem, y0, y1, y2, y3]) rfl ?_
  refine ⟨A2, n, c2, A2', m, c2', rfl, Own.dv (base := w.heap.size + 2) (c := c2) (c' := c2') (d := ⟨d.bs, d.cs, l, false⟩) ?_ hn.out.1 hn.out.2, ?_⟩
  · have hlt2 : w.heap.size + 1 < w.heap.size + 2 := by omega
    repeat (with_reducible refine Own.setB ?_ (w.heap.size + 1) hlt2 _ _)
    exact O.out
  · repeat (with_reducible refine Below.setCell ?_ (by simp; try omega) _)
    exact HB1.out

set_option maxRecDepth 100000 in
set_option maxHeartbeats 2000000 in
theorem refWrite_no (A A' : Option Addr) (n c m c' : Nat) (d : D) (i : Int) (s : ByteArray) (w : World) (h : Dv w w.heap.size A n A' m d) (h0 : 0 ≤ i) (h1 : i < (n : Int)) (ht : s.size = 128) (hf : m < 4096) :
    Calls Try.prog 62 #[.agg #[.slice A n c, .slice A' m c', .int .i64 0, .bool false], .int .i64 i, .string s] w fun e w' => Tells2 w w' ⟨d.bs, d.cs, 0, true⟩ 16 e := by
  have H := Lib.hid h; clear h
  have hn := Lib.hid (And.intro H.out.hn H.out.hm)
  have hd0 : decide (i < 0) = false := by simp; omega
  have hd1 : decide ((n : Int) ≤ i) = false := by simp; omega
  have ht2 : ((s.size : Int) != 128) = false := by simp; omega
  clear ht
  have hf2 : decide ((4096 : Int) ≤ (m : Int)) = false := by simp; omega
  go_enter Try.func62, Try.ntmps62
  go_wp2_with fail
  refine (refSpend_no A A' n c m c' d false _ ((H.out.alloc _).alloc _)).mono ?_
  rintro e w1 ⟨A2, c2, A2', c2', rfl, ho1, hb1⟩
  have r1 := (B4.new (w.alloc (.cells #[.slice A n c, .slice A' m c', .int .i64 0, .bool false] 25)) (.slice none 0 0) (.slice none 0 0) (.int .i64 0) (.bool false)).step hb1
  simp only [World.size_alloc] at r1
  have hz : w.heap.size + 1 < w1.heap.size := r1.lt
  have HB1 : Hid (Below w.heap.size w w1) := Lib.hid ((alloc2_below w _ _).trans (hb1.mono (by simp; omega)))
  have O := Lib.hid (ho1.base (base' := w.heap.size + 2) (by simp))
  have R1 := Lib.hid r1
  obtain ⟨y0, y1, y2, y3, yf⟩ := r1.cells
  clear r1 ho1 hb1
  go_wp2
  refine bodyPost_ret (v := .tuple #[.agg #[.slice A2 n c2, .slice A2' m c2', .int .i64 0, .bool true], .int .i64 16]) (by simp [results, Try.results62, go_sem, y0, y1, y2, y3, hz]) rfl ?_
  refine ⟨A2, n, c2, A2', m, c2', rfl, Own.dv (base := w.heap.size + 2) (c := c2) (c' := c2') (d := ⟨d.bs, d.cs, 0, true⟩) ?_ hn.out.1 hn.out.2, ?_⟩
  · have hlt2 : w.heap.size + 1 < w.heap.size + 2 := by omega
    repeat (first | (with_reducible refine Own.setB ?_ (w.heap.size + 1) hlt2 _ _) | (with_reducible refine Own.alloc ?_ _))
    exact O.out
  · repeat (first | (with_reducible refine Below.setCell ?_ (by simp; try omega) _) | (with_reducible refine Below.alloc ?_ (by simp; omega) _))
    exact HB1.out

set_option maxRecDepth 100000 in
set_option maxHeartbeats 2000000 in
theorem refWrite_yes (A A' : Option Addr) (n c m c' : Nat) (d : D) (l : Int) (i : Int) (s : ByteArray) (w : World) (h : Dv w w.heap.size A n A' m d) (h0 : 0 ≤ i) (h1 : i < (n : Int)) (ht : s.size = 128) (hf : m < 4096) (hl0 : l ≠ 0) (hl : l ≤ 9223372036854775807) :
    Calls Try.prog 62 #[.agg #[.slice A n c, .slice A' m c', .int .i64 l, .bool false], .int .i64 i, .string s] w fun e w' => Tells2 w w' ⟨d.bs, d.cs ++ [(i, s)], spL l, false⟩ 0 e := by
  have H := Lib.hid h; clear h
  have hn := Lib.hid (And.intro H.out.hn H.out.hm)
  have hd0 : decide (i < 0) = false := by simp; omega
  have hd1 : decide ((n : Int) ≤ i) = false := by simp; omega
  have ht2 : ((s.size : Int) != 128) = false := by simp; omega
  clear ht
  have hf2 : decide ((4096 : Int) ≤ (m : Int)) = false := by simp; omega
  have HS := Lib.hid (And.intro hl0 hl); clear hl0 hl
  obtain ⟨j0, hj0, hy0, hy1, hy2⟩ := info_parts infoW
  go_enter Try.func62, Try.ntmps62
  go_wp2_with fail
  refine (refSpend_yes A A' n c m c' d l false _ ((H.out.alloc _).alloc _) HS.out.1 HS.out.2).mono ?_
  rintro e w1 ⟨A2, c2, A2', c2', rfl, ho1, hb1⟩
  have r1 := (B4.new (w.alloc (.cells #[.slice A n c, .slice A' m c', .int .i64 l, .bool false] 25)) (.slice none 0 0) (.slice none 0 0) (.int .i64 0) (.bool false)).step hb1
  simp only [World.size_alloc] at r1
  have hz : w.heap.size + 1 < w1.heap.size := r1.lt
  have HB1 : Hid (Below w.heap.size w w1) := Lib.hid ((alloc2_below w _ _).trans (hb1.mono (by simp; omega)))
  have O := Lib.hid (ho1.base (base' := w.heap.size + 2) (by simp))
  have R1 := Lib.hid r1
  obtain ⟨y0, y1, y2, y3, yf⟩ := r1.cells
  clear r1 ho1 hb1
  have P := Lib.hid (And.intro (R1.out.alloc (.cells #[.slice A2 n c2, .slice A2' m c2', .int .i64 (spL l), .bool false] 25)) (And.intro (B4.new w1 (.slice A2 n c2) (.slice A2' m c2') (.int .i64 (spL l)) (.bool false)) (And.intro (O.out.alloc (.cells #[.slice A2 n c2, .slice A2' m c2', .int .i64 (spL l), .bool false] 25)) (HB1.out.alloc (by omega) (.cells #[.slice A2 n c2, .slice A2' m c2', .int .i64 (spL l), .bool false] 25)))))
  have HSZ : Hid ((w1.alloc (.cells #[.slice A2 n c2, .slice A2' m c2', .int .i64 (spL l), .bool false] 25)).heap.size = w1.heap.size + 1) := Lib.hid (by simp)
  go_wp2_with (at_builtin; generalize (w1.alloc (.cells #[.slice A2 n c2, .slice A2' m c2', .int .i64 (spL l), .bool false] 25)) = w4 at P HSZ ⊢; refine wpList_append_reads _ rfl (.tmp 48) (.tmp 52) 23 rfl (w.heap.size + 2) 53 j0 _ 2 24 Try.underlying23 hj0 hy0 hy1 hy2 rfl (by omega) (.slice A2' m c2') m (encW d.cs) rfl (own_alloc P.out.2.2.1.cs _) _ _ 1 1 (encW [(i, s)]) rfl (reads_new_at _ #[.int .i64 i, .string s] 53 1 2 rfl (w1.heap.size + 1) HSZ.out) (encW_one _) ?_ ?_ ?_ ?_)
  · simp only [maxLen]; omega
  · omega
  · have := P.out.1.lt; simp; omega
  have hz4 : w.heap.size + 1 < w4.heap.size := P.out.1.lt
  intro A3 c3 w5 ho5 hg5 _
  have hne1 : (Value.slice A2' m c2').ownBlock ≠ some (w.heap.size + 1) := fun e => by have := own_row_ge O.out.cs _ e; omega
  have hne2 : (Value.slice A2' m c2').ownBlock ≠ some w1.heap.size := fun e => by have := own_lt O.out.cs _ e; omega
  have P5 := Lib.hid (And.intro ((P.out.1.alloc (.cells #[.int .i64 i, .string s] 53)).grown hg5 hne1) (And.intro ((P.out.2.1.alloc (.cells #[.int .i64 i, .string s] 53)).grown hg5 hne2)
    (And.intro (Own.mk (own_grown (own_alloc P.out.2.2.1.bs (.cells #[.int .i64 i, .string s] 53)) hg5 (fun g h1 h2 => own_apart P.out.2.2.1.bs P.out.2.2.1.cs (by decide) g h1 h2)) (own_eq_valsW ho5 (encW_snoc d.cs i s)))
      ((P.out.2.2.2.alloc (by omega) (.cells #[.int .i64 i, .string s] 53)).grown hg5 (by simp; omega) (fun g e => by have := own_row_ge O.out.cs g e; omega)))))
  have hz5 : w.heap.size + 1 < w5.heap.size := P5.out.1.lt
  have hzo5 : w1.heap.size < w5.heap.size := P5.out.2.1.lt
  clear ho5 hg5 hne1 hne2 y0 y1 y2 y3 yf P
  obtain ⟨y0, y1, y2, y3, yf⟩ := P5.out.1.cells
  obtain ⟨z0, z1, z2, z3, zf⟩ := P5.out.2.1.cells
  go_wp2
  refine bodyPost_ret (v := .tuple #[.agg #[.slice A2 n c2, .slice A3 (m + 1) c3, .int .i64 (spL l), .bool false], .int .i64 0]) (by simp [results, Try.results62, go_sem, y0, y1, y2, y3]) rfl ?_
  refine ⟨A2, n, c2, A3, m + 1, c3, rfl, Own.dv (base := w.heap.size + 2) (c := c2) (c' := c3) (d := ⟨d.bs, d.cs ++ [(i, s)], spL l, false⟩) ?_ hn.out.1 (by omega), ?_⟩
  · have hlt2 : w.heap.size + 1 < w.heap.size + 2 := by omega
    have hn1 := own_ne_b4 P5.out.2.2.1.bs P5.out.2.1 (by decide)
    have hn2 := own_ne_b4 P5.out.2.2.1.cs P5.out.2.1 (by decide)
    repeat (first | (with_reducible refine Own.setB ?_ (w.heap.size + 1) hlt2 _ _) | (with_reducible refine Own.farB ?_ w1.heap.size hn1 hn2 _ _))
    exact P5.out.2.2.1
  · repeat (with_reducible refine Below.setCell ?_ (by simp; try omega) _)
    exact P5.out.2.2.2

theorem at_n {bs : List ByteArray} {n : Nat} (hn : bs.length = n) (i : Int) : at_ bs i ↔ 0 ≤ i ∧ i < (n : Int) := by
  unfold at_
  rw [hn]

theorem write_any (A A' : Option Addr) (n c m c' : Nat) (d : D) (i : Int) (s : ByteArray) (w : World) (h : Dv w w.heap.size A n A' m d) (hl : d.left ≤ 9223372036854775807) :
    Calls Try.prog 72 #[.agg #[.slice A n c, .slice A' m c', .int .i64 d.left, .bool d.dead], .int .i64 i, .string s] w fun e w' => Tells2 w w' (writeD d i s).1 (writeD d i s).2 e := by
  have hat := at_n h.bs.lenS i
  have hcs := h.cs.lenW
  obtain ⟨bs, cs, l, b⟩ := d
  dsimp only at hat hcs hl ⊢
  cases b
  case true => exact write_dead A A' n c m c' ⟨bs, cs, l, true⟩ l i s w h
  by_cases ht : (0 ≤ i ∧ i < (n : Int)) ∧ s.size = 128
  case neg =>
    have e : writeD ⟨bs, cs, l, false⟩ i s = (⟨bs, cs, l, false⟩, 15) := by
      unfold writeD
      rw [if_neg Bool.false_ne_true, if_pos (fun hh => ht ⟨hat.1 hh.1, hh.2⟩)]
    rw [e]
    exact write_place A A' n c m c' ⟨bs, cs, l, false⟩ l i s w h ht
  by_cases hf : 4096 ≤ m
  case pos =>
    have e : writeD ⟨bs, cs, l, false⟩ i s = (⟨bs, cs, l, false⟩, 18) := by
      unfold writeD
      rw [if_neg Bool.false_ne_true, if_neg (fun hh => hh ⟨hat.2 ht.1, ht.2⟩), if_pos (by rw [hcs]; exact hf)]
    rw [e]
    exact write_full A A' n c m c' ⟨bs, cs, l, false⟩ l i s w h ht hf
  by_cases h0 : l = 0
  case pos =>
    subst h0
    have e : writeD ⟨bs, cs, 0, false⟩ i s = (⟨bs, cs, 0, true⟩, 16) := by
      unfold writeD
      rw [if_neg Bool.false_ne_true, if_neg (fun hh => hh ⟨hat.2 ht.1, ht.2⟩), if_neg (by rw [hcs]; exact hf), if_pos rfl]
    rw [e]
    exact write_no A A' n c m c' ⟨bs, cs, 0, false⟩ i s w h ht (by omega)
  have e : writeD ⟨bs, cs, l, false⟩ i s = (⟨bs, cs ++ [(i, s)], spL l, false⟩, 0) := by
    unfold writeD
    rw [if_neg Bool.false_ne_true, if_neg (fun hh => hh ⟨hat.2 ht.1, ht.2⟩), if_neg (by rw [hcs]; exact hf), if_neg h0]
    rfl
  rw [e]
  exact write_yes A A' n c m c' ⟨bs, cs, l, false⟩ l i s w h ht (by omega) h0 hl

theorem refWrite_any (A A' : Option Addr) (n c m c' : Nat) (d : D) (i : Int) (s : ByteArray) (w : World) (h : Dv w w.heap.size A n A' m d) (hl : d.left ≤ 9223372036854775807) :
    Calls Try.prog 62 #[.agg #[.slice A n c, .slice A' m c', .int .i64 d.left, .bool d.dead], .int .i64 i, .string s] w fun e w' => Tells2 w w' (writeD d i s).1 (writeD d i s).2 e := by
  have hat := at_n h.bs.lenS i
  have hcs := h.cs.lenW
  obtain ⟨bs, cs, l, b⟩ := d
  dsimp only at hat hcs hl ⊢
  cases b
  case true => exact refWrite_dead A A' n c m c' ⟨bs, cs, l, true⟩ l i s w h
  by_cases ht : (0 ≤ i ∧ i < (n : Int)) ∧ s.size = 128
  case neg =>
    have e : writeD ⟨bs, cs, l, false⟩ i s = (⟨bs, cs, l, false⟩, 15) := by
      unfold writeD
      rw [if_neg Bool.false_ne_true, if_pos (fun hh => ht ⟨hat.1 hh.1, hh.2⟩)]
    rw [e]
    by_cases h1 : i < 0
    · exact refWrite_place1 A A' n c m c' ⟨bs, cs, l, false⟩ l i s w h h1
    by_cases h2 : (n : Int) ≤ i
    · exact refWrite_place2 A A' n c m c' ⟨bs, cs, l, false⟩ l i s w h (by omega) h2
    exact refWrite_place3 A A' n c m c' ⟨bs, cs, l, false⟩ l i s w h (by omega) (by omega) (fun h3 => ht ⟨⟨by omega, by omega⟩, h3⟩)
  by_cases hf : 4096 ≤ m
  case pos =>
    have e : writeD ⟨bs, cs, l, false⟩ i s = (⟨bs, cs, l, false⟩, 18) := by
      unfold writeD
      rw [if_neg Bool.false_ne_true, if_neg (fun hh => hh ⟨hat.2 ht.1, ht.2⟩), if_pos (by rw [hcs]; exact hf)]
    rw [e]
    exact refWrite_full A A' n c m c' ⟨bs, cs, l, false⟩ l i s w h ht.1.1 ht.1.2 ht.2 hf
  by_cases h0 : l = 0
  case pos =>
    subst h0
    have e : writeD ⟨bs, cs, 0, false⟩ i s = (⟨bs, cs, 0, true⟩, 16) := by
      unfold writeD
      rw [if_neg Bool.false_ne_true, if_neg (fun hh => hh ⟨hat.2 ht.1, ht.2⟩), if_neg (by rw [hcs]; exact hf), if_pos rfl]
    rw [e]
    exact refWrite_no A A' n c m c' ⟨bs, cs, 0, false⟩ i s w h ht.1.1 ht.1.2 ht.2 (by omega)
  have e : writeD ⟨bs, cs, l, false⟩ i s = (⟨bs, cs ++ [(i, s)], spL l, false⟩, 0) := by
    unfold writeD
    rw [if_neg Bool.false_ne_true, if_neg (fun hh => hh ⟨hat.2 ht.1, ht.2⟩), if_neg (by rw [hcs]; exact hf), if_neg h0]
    rfl
  rw [e]
  exact refWrite_yes A A' n c m c' ⟨bs, cs, l, false⟩ l i s w h ht.1.1 ht.1.2 ht.2 (by omega) h0 hl

end Go.Proofs.Ytlpijikhbjkmfaa

/-
  The document's own Crash and Flush: for the devices whose cache's places are blocks.
-/
namespace Go.Proofs.Ytlpijikhbjkmfaa
open Go.RowKit

/-- All the cache's places are blocks. -/
def InP (d : D) : Prop := ∀ k, k < d.cs.length → 0 ≤ wAt d.cs k ∧ wAt d.cs k < (d.bs.length : Int)
theorem in_of_fit {d : D} (h : FitP d) : InP d := fun k hk => by
  have := h.2.2 _ (List.mem_of_getElem? (wr_get hk))
  exact ⟨this.1, this.2.1⟩
/-- What the document's loops keep from round to round: the result's block, the copy's variable (block t), the copy's lists. -/
structure Rt (w wr : World) (t : Nat) (A2 : Option Addr) (n c2 : Nat) (A2' : Option Addr) (m c2' : Nat) (l : Int) (b : Bool) (now : List ByteArray) (cs : List (Int × ByteArray)) : Prop where
  res : B4 wr (w.heap.size + 1) (.slice none 0 0) (.slice none 0 0) (.int .i64 0) (.bool false)
  box : B4 wr t (.slice A2 n c2) (.slice A2' m c2') (.int .i64 l) (.bool b)
  own : Own wr (w.heap.size + 2) A2 n c2 A2' m c2' now cs
  below : Below w.heap.size w wr
theorem Rt.put {w wr : World} {t g n c2 m c2' : Nat} {A2' : Option Addr} {l : Int} {b : Bool} {now : List ByteArray} {cs : List (Int × ByteArray)} (h : Rt w wr t (some ⟨g, 0, none⟩) n c2 A2' m c2' l b now cs) (j : Nat) (s : ByteArray) (hg : w.heap.size + 2 ≤ g) :
    Rt w (wr.setCell ⟨g, j, none⟩ (.string s)) t (some ⟨g, 0, none⟩) n c2 A2' m c2' l b (now.set j s) cs := by
  have hst := h.own.bs.stored j (.string s)
  have hne := own_ne_b4 h.own.bs h.box (by decide)
  refine ⟨h.res.far (by simp; omega) _, h.box.far (fun e => hne (by rw [e]; rfl)) _, ⟨by rw [← encS_set]; exact hst.1, own_grown h.own.cs hst.2 fun g' hg' e => ?_⟩, h.below.setCell (by simp; omega) _⟩
  obtain rfl : g = g' := by injection e
  exact own_apart h.own.bs h.own.cs (by decide) g rfl hg'
theorem Rt.drew {w wr : World} {t n c2 m c2' : Nat} {A2 A2' : Option Addr} {l : Int} {b : Bool} {now : List ByteArray} {cs : List (Int × ByteArray)} (h : Rt w wr t A2 n c2 A2' m c2' l b now cs) : Rt w wr.drew t A2 n c2 A2' m c2' l b now cs := ⟨h.res, h.box, ⟨h.own.bs, h.own.cs⟩, h.below.drew⟩

end Go.Proofs.Ytlpijikhbjkmfaa
