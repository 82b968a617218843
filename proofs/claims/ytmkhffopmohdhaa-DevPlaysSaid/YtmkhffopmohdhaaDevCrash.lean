/-
  The program's Crash: for all devices that memory can hold, and whatever is kept.
-/
import Derived.Test.YtmkhffopmohdhaaDevSettle
namespace Go.Proofs.Ytmkhffopmohdhaa
open Go.RowKit

set_option maxRecDepth 100000 in
set_option maxHeartbeats 2000000 in
theorem crash_any (A A' K : Option Addr) (n c m c' k kc : Nat) (d : D) (ks : List Bool) (w : World) (h : Dv w w.heap.size A n A' m d) (hK : Reads w w.heap.size 1 K k (encB ks)) (hkc : k ≤ kc) (hkm : kc ≤ maxLen) :
    Calls Try.prog 18 #[.agg #[.slice A n c, .slice A' m c', .int .i64 d.left, .bool d.dead], .slice K k kc] w fun e w' => Tells w w' (crashD d ks) e := by
  have H := Lib.hid h; clear h
  have HK := Lib.hid hK; clear hK
  have hn16 := H.out.hn
  go_enter Try.func18, Try.ntmps18
  go_wp2_with fail
  refine (copied_any A A' n c m c' d d.left d.dead _ ((H.out.alloc _).alloc _)).mono ?_
  rintro e w1 ⟨A2, c2, A2', c2', rfl, ho1, hb1⟩
  have r1 := (B4.new (w.alloc (.cells #[.slice A n c, .slice A' m c', .int .i64 d.left, .bool d.dead] 26)) (.slice none 0 0) (.slice none 0 0) (.int .i64 0) (.bool false)).step hb1
  simp only [World.size_alloc] at r1
  have hz : w.heap.size + 1 < w1.heap.size := r1.lt
  have hB1 : Below w.heap.size w w1 := (alloc2_below w _ _).trans (hb1.mono (by simp; omega))
  have O := Lib.hid (ho1.base (base' := w.heap.size + 2) (by simp))
  have R1 := Lib.hid r1
  have HB1 := Lib.hid hB1
  clear r1 ho1 hb1 hB1
  go_wp2_with fail
  refine (settle_any A2 A2' K n c2 m c2' k kc d.left d.dead d.bs d.cs ks (w.heap.size + 2) _ (by omega) O.out ((HK.out.below HB1.out).more (by omega)) hkc hkm ?_).mono ?_
  · intro hk ad had hbl
    have h1 := own_row_ge O.out.bs _ hbl
    obtain ⟨q, o, e, hq, _⟩ := HK.out.2 hk
    rw [had] at e
    obtain rfl : ad = ⟨q, o, none⟩ := by injection e
    simp at h1
    omega
  rintro e w2 ⟨rfl, ho2, hb2, _⟩
  have r2 := R1.out.below hb2 (by omega)
  have hz2 : w.heap.size + 1 < w2.heap.size := r2.lt
  have hB2 : Below w.heap.size w w2 := HB1.out.trans (hb2.mono (by omega))
  have HB2 := Lib.hid hB2
  have O2 := Lib.hid ho2
  obtain ⟨y0, y1, y2, y3, yf⟩ := r2.cells
  clear r2 ho2 hb2 hB2 O R1 HB1
  go_wp2
  refine bodyPost_ret (v := .agg #[.slice A2 n c2, .slice none 0 0, .int .i64 (-1), .bool false]) (by simp [results, Try.results18, go_sem, y0, y1, y2, y3, hz2]) rfl ?_
  refine ⟨A2, n, c2, none, 0, 0, rfl, ⟨.of_own (c := c2) (e := 9) (base := w.heap.size + 2) ?_, Reads.nil, hn16, by omega⟩, ?_⟩
  · repeat (first | (with_reducible refine ownsRow_setCell_below ?_ (by simp) _) | (with_reducible refine own_alloc ?_ _))
    exact O2.out
  · repeat (first | (with_reducible refine Below.setCell ?_ (by simp; try omega) _) | (with_reducible refine Below.alloc ?_ (by simp; omega) _))
    exact HB2.out

end Go.Proofs.Ytmkhffopmohdhaa
