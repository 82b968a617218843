/-
  An inode taken away.
-/
import Derived.Test.YtcfmpmcdfllibaaG18
import Derived.Deep.AppendSrc
namespace Go.Proofs.Ytcfmpmcdfllibaa
open Go.RowKit

def castN (l : List Nat) : List Int := l.map fun k : Nat => (k : Int)
def dropI (img : List ByteArray) (i : Int) : List ByteArray × Int :=
  if (heldI img i).2 ≠ 0 then (img, (heldI img i).2) else
    if (giveA img (castN (namedR (heldI img i).1))).2 = 0 then (saveR (giveA img (castN (namedR (heldI img i).1))).1 (zeroR (heldI img i).1.num), 0) else giveA img (castN (namedR (heldI img i).1))
theorem namedR_len {r : RecI} (h : OkR r) : (namedR r).length ≤ 69 := by
  unfold namedR
  rw [List.length_append, dataR_length h]
  split <;> simp <;> omega

set_option maxRecDepth 100000 in
set_option maxHeartbeats 8000000 in
theorem dropI_any (A : Option Addr) (n c : Nat) (img : List ByteArray) (i : Int) (w : World) (h : Reads w w.heap.size 1 A n (encS img)) (hf : MapP img) :
    Calls Try.prog 21 #[.slice A n c, .int .i64 i] w fun e w' => ImgsO w w' (dropI img i).1 (dropI img i).2 e := by
  have hz := fun W => zero_run W
  have hl := h.lenS
  have h8 : 8 ≤ n := by have := hf.1; omega
  have hn : n ≤ 512 := by have := hf.1; omega
  have cg : Calls Try.prog 40 #[.slice A n c, .int .i64 i] w fun e w' => e = .returned (.tuple #[.agg (cellsR (heldI img i).1).toArray, .int .i64 (heldI img i).2]) ∧ Below w.heap.size w w' := held_any A n c img i w h hn
  have hok := heldI_ok img i (by omega)
  have HB : Hid (dropI img i = if (heldI img i).2 ≠ 0 then (img, (heldI img i).2) else if (giveA img (castN (namedR (heldI img i).1))).2 = 0 then (saveR (giveA img (castN (namedR (heldI img i).1))).1 (zeroR (heldI img i).1.num), 0) else giveA img (castN (namedR (heldI img i).1))) := Lib.hid rfl
  have H := Lib.hid h
  have HM := Lib.hid hf
  clear h hl hf
  generalize heldI img i = x at cg hok HB
  obtain ⟨r, ec⟩ := x
  dsimp only at cg hok HB
  have HR := Lib.hid hok
  have cn := fun W => named_any r hok W
  unfold valR at cn
  have hnl := namedR_len hok
  clear hok
  by_cases h0 : ec = 0
  · subst h0
    have HE0 : Hid (dropI img i = if (giveA img (castN (namedR r))).2 = 0 then (saveR (giveA img (castN (namedR r))).1 (zeroR r.num), 0) else giveA img (castN (namedR r))) := Lib.hid (by rw [HB.out, if_neg (by decide)])
    go_enter Try.func21, Try.ntmps21
    go_wp2_with fail
    refine cg.mono ?_
    rintro e w1 ⟨rfl, hb1⟩
    have B2 := (BR.new w1 (zeroR 0)).setRow r
    have bb2 : Below w.heap.size w ((w1.alloc (.cells (cellsR (zeroR 0)).toArray 55)).setRow w1.heap.size (cellsR r).toArray) := hb1.trans (((((Below.refl _ w1).alloc (Nat.le_refl _) _).trans (below_setRow _ (Nat.le_refl _) _))).mono hb1.size)
    have HX := Lib.hid (And.intro B2 bb2)
    clear B2 bb2 hb1 cg
    go_wp2_with (first | (refine wpList_store_row rfl _ _ _ rfl w1.heap.size (cellsR r).toArray rfl rfl _ (cellsR (zeroR 0)).toArray (heap_alloc_new w1 _) (sizeRr HR.out) (holdR okz HR.out) (all_oneCell_toArray (cellsR_one _)) ?_) | (refine wpList_load_mid rfl _ _ rfl w1.heap.size 0 rfl (cellsR r) _ HX.out.1.range Try.underlying55 rfl (by rw [cellsR_length HR.out]; exact sizeR) ?_))
    refine (cn _).mono ?_
    rintro e w3 ⟨A3, c3, rfl, ho3, hb3⟩
    have hB3 := HX.out.1.step hb3
    have HY := Lib.hid (And.intro hB3 (HX.out.2.trans (hb3.mono HX.out.2.size)))
    have hrow : Reads w3 w3.heap.size 1 A3 (namedR r).length (encI (castN (namedR r))) := by rw [show encI (castN (namedR r)) = encN (namedR r) from encI_nat _]; exact Reads.of_own ho3
    have cv := giveO_any A A3 n c (namedR r).length c3 img (castN (namedR r)) w3 (H.out.step HY.out.2) HM.out hrow (by omega)
    clear ho3 hb3 hB3 cn hrow
    generalize giveA img (castN (namedR r)) = y at cv HE0
    obtain ⟨yi, ye⟩ := y
    dsimp only at cv HE0
    generalize (namedR r).length = q at cv ⊢
    go_wp2_with fail
    refine cv.mono ?_
    rintro e w4 ⟨g4, n4, c4, rfl, hO4, hn4, hb4⟩
    have HZ := Lib.hid (And.intro (show OwI w4 w.heap.size g4 n4 c4 yi from ⟨own_base hO4.own HY.out.2.size, hO4.pos⟩) (And.intro (HY.out.1.step hb4) (bstep HY.out.2 hb4)))
    clear hO4 hb4 cv
    by_cases hy : ye = 0
    · subst hy
      have HE : Hid (dropI img i = (saveR yi (zeroR r.num), 0)) := Lib.hid (by rw [HE0.out, if_pos rfl])
      have hcn := HZ.out.2.1.num
      have cs := saveR_any (zeroR r.num) (zeroR_ok HR.out.num) w.heap.size g4 n4 c4 yi w4 HZ.out.1
      unfold valR at cs
      go_wp2_with (refine wpList_built rfl _ _ rfl _ (built_num r.num) ?_)
      refine cs.mono ?_
      rintro e w5 ⟨rfl, hO5, hbt⟩
      have HV := Lib.hid (And.intro hO5 (HZ.out.2.2.trans (hbt.to_below (B := w.heap.size) HZ.out.1.ge HZ.out.2.2.size)))
      clear hO5 hbt cs
      go_wp2
      go_ret2
      rw [HE.out]
      exact ⟨g4, n4, c4, rfl, HV.out.1, hn4, HV.out.2⟩
    · have HE : Hid (dropI img i = (yi, ye)) := Lib.hid (by rw [HE0.out, if_neg hy])
      have hyb : (ye == 0) = false := by rw [beq_eq_false_iff_ne]; exact hy
      clear hy
      go_wp2
      go_ret2
      rw [HE.out]
      exact ⟨g4, n4, c4, rfl, HZ.out.1, hn4, HZ.out.2.2⟩
  · have HE : Hid (dropI img i = (img, ec)) := Lib.hid (by rw [HB.out, if_pos h0])
    have hne : (ec != 0) = true := by rw [bne_iff_ne]; exact h0
    clear h0
    go_enter Try.func21, Try.ntmps21
    go_wp2_with fail
    refine cg.mono ?_
    rintro e w1 ⟨rfl, hb1⟩
    have B2 := (BR.new w1 (zeroR 0)).setRow r
    have bb2 : Below w.heap.size w ((w1.alloc (.cells (cellsR (zeroR 0)).toArray 55)).setRow w1.heap.size (cellsR r).toArray) := hb1.trans (((((Below.refl _ w1).alloc (Nat.le_refl _) _).trans (below_setRow _ (Nat.le_refl _) _))).mono hb1.size)
    have HX := Lib.hid (And.intro B2 bb2)
    clear B2 bb2 hb1 cg
    have hco := cloneS_any A n c img ((w1.alloc (.cells (cellsR (zeroR 0)).toArray 55)).setRow w1.heap.size (cellsR r).toArray) (H.out.step HX.out.2) (by omega)
    go_wp2_with (refine wpList_store_row rfl _ _ _ rfl w1.heap.size (cellsR r).toArray rfl rfl _ (cellsR (zeroR 0)).toArray (heap_alloc_new w1 _) (sizeRr HR.out) (holdR okz HR.out) (all_oneCell_toArray (cellsR_one _)) ?_)
    refine hco.mono ?_
    rintro e w3 ⟨A3, c3, rfl, ho3, hb3⟩
    obtain ⟨g3, rfl, hO3⟩ := OwI.of ho3 (by omega)
    have HV := Lib.hid (And.intro (show OwI w3 w.heap.size g3 n c3 img from ⟨own_base hO3.own HX.out.2.size, hO3.pos⟩) (HX.out.2.trans (hb3.mono HX.out.2.size)))
    clear ho3 hb3 hO3 hco
    go_wp2
    go_ret2
    rw [HE.out]
    exact ⟨g3, n, c3, rfl, HV.out.1, hn, HV.out.2⟩

end Go.Proofs.Ytcfmpmcdfllibaa

/-
  Truncate, given what grow and shrink do.
-/
namespace Go.Proofs.Ytcfmpmcdfllibaa
open Go.RowKit

def growI (img : List ByteArray) (r : RecI) (size : Nat) : List ByteArray × Int :=
  if (takeA img ((needAllN size : Int) - (needAllN r.size : Int))).2.2 ≠ 0 then ((takeA img ((needAllN size : Int) - (needAllN r.size : Int))).1, (takeA img ((needAllN size : Int) - (needAllN r.size : Int))).2.2) else
    (saveR (takeA img ((needAllN size : Int) - (needAllN r.size : Int))).1 (nameR r size (dataR r ++ (takeA img ((needAllN size : Int) - (needAllN r.size : Int))).2.1.take (needN size - needN r.size))
      (if needN size - needN r.size < (takeA img ((needAllN size : Int) - (needAllN r.size : Int))).2.1.length then (takeA img ((needAllN size : Int) - (needAllN r.size : Int))).2.1.getD (needN size - needN r.size) 0 else r.ind)), 0)
/-- The blocks that are given back. -/
def backI (r : RecI) (size : Nat) : List Nat := (dataR r).drop (needN size) ++ if needN size ≤ 4 ∧ r.ind ≠ 0 then [r.ind] else []
def shrinkI (img : List ByteArray) (r : RecI) (size : Nat) : List ByteArray × Int :=
  if (giveA img (castN (backI r size))).2 ≠ 0 then giveA img (castN (backI r size)) else
    (saveR (if 0 < size % 128 then putI (giveA img (castN (backI r size))).1 (((dataR r).take (needN size)).getD (needN size - 1) 0) (size % 128) (zeroN (128 - size % 128)) else (giveA img (castN (backI r size))).1)
      (nameR r size ((dataR r).take (needN size)) (if needN size ≤ 4 ∧ r.ind ≠ 0 then 0 else r.ind)), 0)
def truncI (img : List ByteArray) (i x : Int) : List ByteArray × Int :=
  if (heldI img i).2 ≠ 0 then (img, (heldI img i).2) else if x < 0 then (img, 13) else if 8704 < x then (img, 12) else
    if ((heldI img i).1.size : Int) < x then growI img (heldI img i).1 x.toNat else shrinkI img (heldI img i).1 x.toNat

set_option maxRecDepth 100000 in
set_option maxHeartbeats 8000000 in
theorem truncI_of (A : Option Addr) (n c : Nat) (img : List ByteArray) (i x : Int) (w : World) (h : Reads w w.heap.size 1 A n (encS img)) (hf : MapP img) (hx0 : -9223372036854775808 ≤ x) (hx1 : x ≤ 9223372036854775807)
    (hg : ∀ (r : RecI) (size : Nat) (W : World), OkR r → r.size < size → size ≤ 8704 → Reads W W.heap.size 1 A n (encS img) →
      Calls Try.prog 48 #[.agg (cellsR r).toArray, .slice A n c, .int .i64 (size : Int)] W fun e w' => ImgsO W w' (growI img r size).1 (growI img r size).2 e)
    (hs : ∀ (r : RecI) (size : Nat) (W : World), OkR r → size ≤ r.size → size ≤ 8704 → Reads W W.heap.size 1 A n (encS img) →
      Calls Try.prog 49 #[.agg (cellsR r).toArray, .slice A n c, .int .i64 (size : Int)] W fun e w' => ImgsO W w' (shrinkI img r size).1 (shrinkI img r size).2 e) :
    Calls Try.prog 20 #[.slice A n c, .int .i64 i, .int .i64 x] w fun e w' => ImgsO w w' (truncI img i x).1 (truncI img i x).2 e := by
  have hl := h.lenS
  have h8 : 8 ≤ n := by have := hf.1; omega
  have hn : n ≤ 512 := by have := hf.1; omega
  have cg : Calls Try.prog 40 #[.slice A n c, .int .i64 i] w fun e w' => e = .returned (.tuple #[.agg (cellsR (heldI img i).1).toArray, .int .i64 (heldI img i).2]) ∧ Below w.heap.size w w' := held_any A n c img i w h hn
  have hok := heldI_ok img i (by omega)
  have HB : Hid (truncI img i x = if (heldI img i).2 ≠ 0 then (img, (heldI img i).2) else if x < 0 then (img, 13) else if 8704 < x then (img, 12) else if ((heldI img i).1.size : Int) < x then growI img (heldI img i).1 x.toNat else shrinkI img (heldI img i).1 x.toNat) := Lib.hid rfl
  have H := Lib.hid h
  clear h hl hf
  generalize heldI img i = y at cg hok HB
  obtain ⟨r, ec⟩ := y
  dsimp only at cg hok HB
  have HR := Lib.hid hok
  have HGS := Lib.hid (And.intro hg hs)
  clear hok hg hs
  go_enter Try.func20, Try.ntmps20
  go_wp2_with fail
  refine cg.mono ?_
  rintro e w1 ⟨rfl, hb1⟩
  have B2 := (BR.new w1 (zeroR 0)).setRow r
  have bb2 : Below w.heap.size w ((w1.alloc (.cells (cellsR (zeroR 0)).toArray 55)).setRow w1.heap.size (cellsR r).toArray) := hb1.trans (((((Below.refl _ w1).alloc (Nat.le_refl _) _).trans (below_setRow _ (Nat.le_refl _) _))).mono hb1.size)
  have HX := Lib.hid (And.intro B2 bb2)
  have hsz : ((w1.alloc (.cells Try.zeroCells55 55)).setRow w1.heap.size (cellsR r).toArray).cell? ⟨w1.heap.size, 2, none⟩ = some (.int .i64 (r.size : Int)) := B2.size
  have hco := cloneS_any A n c img ((w1.alloc (.cells (cellsR (zeroR 0)).toArray 55)).setRow w1.heap.size (cellsR r).toArray) (H.out.step bb2) (by omega)
  clear B2 bb2 hb1 cg
  by_cases h0 : ec = 0
  · subst h0
    by_cases hxn : x < 0
    · have HE : Hid (truncI img i x = (img, 13)) := Lib.hid (by rw [HB.out, if_neg (by decide), if_pos hxn])
      go_wp2_with (refine wpList_store_row rfl _ _ _ rfl w1.heap.size (cellsR r).toArray rfl rfl _ (cellsR (zeroR 0)).toArray (heap_alloc_new w1 _) (sizeRr HR.out) (holdR okz HR.out) (all_oneCell_toArray (cellsR_one _)) ?_)
      refine hco.mono ?_
      rintro e w3 ⟨A3, c3, rfl, ho3, hb3⟩
      obtain ⟨g3, rfl, hO3⟩ := OwI.of ho3 (by omega)
      have HV := Lib.hid (And.intro (show OwI w3 w.heap.size g3 n c3 img from ⟨own_base hO3.own HX.out.2.size, hO3.pos⟩) (HX.out.2.trans (hb3.mono HX.out.2.size)))
      clear ho3 hb3 hO3 hco
      go_wp2
      go_ret2
      rw [HE.out]
      exact ⟨g3, n, c3, rfl, HV.out.1, hn, HV.out.2⟩
    obtain ⟨k, rfl⟩ : ∃ k : Nat, x = k := ⟨x.toNat, by omega⟩
    by_cases hxl : (8704 : Int) < k
    · have HE : Hid (truncI img i k = (img, 12)) := Lib.hid (by rw [HB.out, if_neg (by decide), if_neg hxn, if_pos hxl])
      go_wp2_with (refine wpList_store_row rfl _ _ _ rfl w1.heap.size (cellsR r).toArray rfl rfl _ (cellsR (zeroR 0)).toArray (heap_alloc_new w1 _) (sizeRr HR.out) (holdR okz HR.out) (all_oneCell_toArray (cellsR_one _)) ?_)
      refine hco.mono ?_
      rintro e w3 ⟨A3, c3, rfl, ho3, hb3⟩
      obtain ⟨g3, rfl, hO3⟩ := OwI.of ho3 (by omega)
      have HV := Lib.hid (And.intro (show OwI w3 w.heap.size g3 n c3 img from ⟨own_base hO3.own HX.out.2.size, hO3.pos⟩) (HX.out.2.trans (hb3.mono HX.out.2.size)))
      clear ho3 hb3 hO3 hco
      go_wp2
      go_ret2
      rw [HE.out]
      exact ⟨g3, n, c3, rfl, HV.out.1, hn, HV.out.2⟩
    have hkl : k ≤ 8704 := by omega
    clear hco
    by_cases hsk : (r.size : Int) < k
    · have HE : Hid (truncI img i k = growI img r k) := Lib.hid (by rw [HB.out, if_neg (by decide), if_neg hxn, if_neg hxl, if_pos hsk]; rfl)
      have cv := HGS.out.1 r k _ HR.out (by omega) hkl (H.out.step HX.out.2)
      generalize growI img r k = y at cv HE
      obtain ⟨yi, ye⟩ := y
      dsimp only at cv HE
      go_wp2_with (first | (refine wpList_store_row rfl _ _ _ rfl w1.heap.size (cellsR r).toArray rfl rfl _ (cellsR (zeroR 0)).toArray (heap_alloc_new w1 _) (sizeRr HR.out) (holdR okz HR.out) (all_oneCell_toArray (cellsR_one _)) ?_) | (refine wpList_load_mid rfl _ _ rfl w1.heap.size 0 rfl (cellsR r) _ HX.out.1.range Try.underlying55 rfl (by rw [cellsR_length HR.out]; exact sizeR) ?_))
      refine cv.mono ?_
      rintro e w4 ⟨g4, n4, c4, rfl, hO4, hn4, hb4⟩
      have HZ := Lib.hid (And.intro (show OwI w4 w.heap.size g4 n4 c4 yi from ⟨own_base hO4.own HX.out.2.size, hO4.pos⟩) (HX.out.2.trans (hb4.mono HX.out.2.size)))
      clear hO4 hb4 cv
      go_wp2
      go_ret2
      rw [HE.out]
      exact ⟨g4, n4, c4, rfl, HZ.out.1, hn4, HZ.out.2⟩
    · have HE : Hid (truncI img i k = shrinkI img r k) := Lib.hid (by rw [HB.out, if_neg (by decide), if_neg hxn, if_neg hxl, if_neg hsk]; rfl)
      have cv := HGS.out.2 r k _ HR.out (by omega) hkl (H.out.step HX.out.2)
      generalize shrinkI img r k = y at cv HE
      obtain ⟨yi, ye⟩ := y
      dsimp only at cv HE
      go_wp2_with (first | (refine wpList_store_row rfl _ _ _ rfl w1.heap.size (cellsR r).toArray rfl rfl _ (cellsR (zeroR 0)).toArray (heap_alloc_new w1 _) (sizeRr HR.out) (holdR okz HR.out) (all_oneCell_toArray (cellsR_one _)) ?_) | (refine wpList_load_mid rfl _ _ rfl w1.heap.size 0 rfl (cellsR r) _ HX.out.1.range Try.underlying55 rfl (by rw [cellsR_length HR.out]; exact sizeR) ?_))
      refine cv.mono ?_
      rintro e w4 ⟨g4, n4, c4, rfl, hO4, hn4, hb4⟩
      have HZ := Lib.hid (And.intro (show OwI w4 w.heap.size g4 n4 c4 yi from ⟨own_base hO4.own HX.out.2.size, hO4.pos⟩) (HX.out.2.trans (hb4.mono HX.out.2.size)))
      clear hO4 hb4 cv
      go_wp2
      go_ret2
      rw [HE.out]
      exact ⟨g4, n4, c4, rfl, HZ.out.1, hn4, HZ.out.2⟩
  · have HE : Hid (truncI img i x = (img, ec)) := Lib.hid (by rw [HB.out, if_pos h0])
    have hne : (ec != 0) = true := by rw [bne_iff_ne]; exact h0
    clear h0
    go_wp2_with (refine wpList_store_row rfl _ _ _ rfl w1.heap.size (cellsR r).toArray rfl rfl _ (cellsR (zeroR 0)).toArray (heap_alloc_new w1 _) (sizeRr HR.out) (holdR okz HR.out) (all_oneCell_toArray (cellsR_one _)) ?_)
    refine hco.mono ?_
    rintro e w3 ⟨A3, c3, rfl, ho3, hb3⟩
    obtain ⟨g3, rfl, hO3⟩ := OwI.of ho3 (by omega)
    have HV := Lib.hid (And.intro (show OwI w3 w.heap.size g3 n c3 img from ⟨own_base hO3.own HX.out.2.size, hO3.pos⟩) (HX.out.2.trans (hb3.mono HX.out.2.size)))
    clear ho3 hb3 hO3 hco
    go_wp2
    go_ret2
    rw [HE.out]
    exact ⟨g3, n, c3, rfl, HV.out.1, hn, HV.out.2⟩

end Go.Proofs.Ytcfmpmcdfllibaa

/-
  A row of the call's own, cut: what is ahead of the cut stays, one number is appended to what is behind it.
-/
namespace Go.Proofs.Ytcfmpmcdfllibaa
open Go.RowKit

/-- A row of the call's own. -/
def ownV (base : Nat) (l : List Nat) : Value → World → Prop := fun v w => ∃ A c, v = .slice A l.length c ∧ w.ownsRow base 3 1 (.slice A l.length c) l.length (encN l)
theorem ownV_out {base : Nat} {l : List Nat} {v : Value} {w : World} (h : ownV base l v w) : ∃ x : Option Addr × Nat, v = .slice x.1 l.length x.2 ∧ w.ownsRow base 3 1 (.slice x.1 l.length x.2) l.length (encN l) := by
  obtain ⟨A, c, h⟩ := h
  exact ⟨(A, c), h⟩
theorem ownV.step {base : Nat} {l : List Nat} {v : Value} {w w' : World} (h : ownV base l v w) (hb : Below w.heap.size w w') : ownV base l v w' := by
  obtain ⟨A, c, e, h⟩ := h
  exact ⟨A, c, e, own_below h hb⟩
/-- Where what is behind the cut lies. -/
def restA (A : Option Addr) (q c : Nat) : Option Addr := match A with
  | none => none
  | some a => if c = q then some a else some { a with off := a.off + q }
theorem own_nil_or {w : World} {base : Nat} {A : Option Addr} {n c : Nat} {l : List Nat} (h : w.ownsRow base 3 1 (.slice A n c) n (encN l)) : (A = none ∧ c = 0 ∧ n = 0) ∨ ∃ b, A = some ⟨b, 0, none⟩ := by
  rcases h.2 with h0 | ⟨g, cap, cur, e, _⟩
  · left
    obtain ⟨e, h1⟩ := h0
    injection e with e1 e2 e3
    exact ⟨e1, e3, e2⟩
  · right
    injection e with e1
    exact ⟨g, e1⟩
theorem own_le {w : World} {base : Nat} {A : Option Addr} {n c : Nat} {l : List Nat} (h : w.ownsRow base 3 1 (.slice A n c) n (encN l)) : n ≤ c := by
  obtain ⟨_, _, e, h1, _⟩ := own_slice h
  injection e with _ _ e3
  omega
/-- The row's block, if it has one. -/
theorem own_block {w : World} {base b n c : Nat} {l : List Nat} (h : w.ownsRow base 3 1 (.slice (some ⟨b, 0, none⟩) n c) n (encN l)) : base ≤ b ∧ b < w.heap.size ∧ ∃ cur, w.heap[b]? = some (.cells cur 3 (0, 0)) ∧ cur.size = c ∧ cur.toList.take n = encN l ∧ c ≤ maxLen := by
  rcases h.2 with ⟨e, _⟩ | ⟨g, cap, cur, e, hb, hg, _, hm, hs, ht⟩
  · simp at e
  · injection e with e1 _ e3
    injection e1 with e1
    injection e1 with e1
    subst e1; subst e3
    refine ⟨hb, (Array.getElem?_eq_some_iff.1 hg).1, cur, hg, by omega, by rw [Nat.mul_one] at ht; exact ht, hm⟩
/-- The numbers ahead of the cut. -/
theorem reads_take {w : World} {B n q : Nat} {A : Option Addr} {l : List Nat} (h : Reads w B 1 A n (encN l)) (hq : q ≤ n) : Reads w B 1 A q (encN (l.take q)) := by
  have hl := h.lenN
  refine ⟨by rw [encN_length, List.length_take]; omega, fun h0 => ?_⟩
  obtain ⟨b, o, e, hb, hc⟩ := h.2 (by omega)
  refine ⟨b, o, e, hb, fun j u hu => hc j u ?_⟩
  have hj : j < q := by have := (List.getElem?_eq_some_iff.1 hu).1; rw [encN_length, List.length_take] at this; omega
  rw [encN_get (by rw [List.length_take]; omega)] at hu
  rw [encN_get (by omega), ← hu, List.getD_eq_getElem?_getD, List.getD_eq_getElem?_getD, List.getElem?_take, if_pos hj]
/-- The numbers behind it. -/
theorem reads_rest {w : World} {base q L c : Nat} {A : Option Addr} {l : List Nat} (h : w.ownsRow base 3 1 (.slice A L c) L (encN l)) (hq : q ≤ L) : Reads w w.heap.size 1 (restA A q c) (L - q) (encN (l.drop q)) := by
  have hl := (Reads.of_own h).lenN
  refine ⟨by rw [encN_length, List.length_drop]; omega, fun h0 => ?_⟩
  obtain ⟨b, o, rfl, hb, hc⟩ := (Reads.of_own h).2 (by omega)
  have hle := own_le h
  refine ⟨b, o + q, by simp only [restA]; rw [if_neg (by omega)], hb, fun j u hu => ?_⟩
  have hj : j < L - q := by have := (List.getElem?_eq_some_iff.1 hu).1; rw [encN_length, List.length_drop] at this; omega
  rw [Nat.add_assoc]
  refine hc (q + j) u ?_
  rw [encN_get (by rw [List.length_drop]; omega)] at hu
  rw [encN_get (by omega), ← hu, List.getD_eq_getElem?_getD, List.getD_eq_getElem?_getD, List.getElem?_drop]
set_option maxRecDepth 100000 in
/-- One number appended to what is behind the cut. -/
theorem append_rest (ty : TypeId) {w : World} {base q L c x : Nat} {A : Option Addr} {l : List Nat} (h : w.ownsRow base 3 1 (.slice A L c) L (encN l)) (hq : q ≤ L) (hL : L ≤ 1000) (hbase : base ≤ w.heap.size)
    (ad : Addr) (cc : Nat) (hx : w.cell? ad = some (.int .i64 (x : Int))) (hspot : ad.spot = none) :
    ∃ A' c' w', (Builtin.append_ #[38, 38] ty #[.slice (restA A q c) (L - q) (c - q), .slice (some ad) 1 cc]).run Try.prog w = .ok (.slice A' (L - q + 1) c') w' ∧ Below base w w' ∧ L - q + 1 ≤ c' ∧
      Reads w' w'.heap.size 1 A' (L - q + 1) (encN (l.drop q ++ [x])) ∧ Reads w' w'.heap.size 1 A q (encN (l.take q)) ∧ (∀ k, k < w.heap.size → (∀ b, A = some ⟨b, 0, none⟩ → k ≠ b) → w'.heap[k]? = w.heap[k]?) := by
  obtain ⟨i0, hi0, hz0, hz1, hz2⟩ := info_parts infoI
  have hl := (Reads.of_own h).lenN
  have hle := own_le h
  have hst := reads_take (Reads.of_own h) hq
  have hrs := reads_rest h hq
  have hxs : ∀ W : World, W.cell? ad = some (.int .i64 (x : Int)) → Src Try.prog i0.size 38 (.slice (some ad) 1 cc) 1 [.int .i64 (x : Int)] W := fun W hW =>
    Src.ofSlice W Try.underlying38 ad 1 cc _ (by rw [hz1]; rfl) (fun j u hu => by
      cases j with
      | zero =>
        have hu : Value.int .i64 (x : Int) = u := by simpa using hu
        rw [← hu, ← hW]
        cases ad
        simp only at hspot
        subst hspot
        rw [Go.WideShapes.add_plain]; rfl
      | succ j => simp at hu) (by simp [Value.oneCell'])
  by_cases hroom : L < c
  · obtain ⟨b, rfl⟩ : ∃ b, A = some ⟨b, 0, none⟩ := by
      rcases own_nil_or h with ⟨_, h2, _⟩ | h1
      · omega
      · exact h1
    obtain ⟨hb1, hb2, cur, hcur, hcs, hct, hcm⟩ := own_block h
    have e1 : restA (some (⟨b, 0, none⟩ : Addr)) q c = some ⟨b, q, none⟩ := by
      simp only [restA]; rw [if_neg (by omega), Nat.zero_add]
    have hcell : ∀ j, w.cell? ⟨b, j, none⟩ = cur[j]? := fun j => by simp [World.cell?, hcur]
    have hrun := run_append_room_src (P := Try.prog) w 38 38 ty 3 i0 Try.underlying38 hi0 b q (L - q) (c - q) (.slice (some ad) 1 cc) 1 [.int .i64 (x : Int)] (hxs w hx) (by omega)
      (fun j hj => by
        have hj : j = 0 := by simpa using hj
        subst hj
        rw [hcell, hz1, Array.getElem?_eq_getElem (by omega)]; rfl) (fun j _ => by simp [World.frozen?, hcur])
    rw [e1]
    rw [e1] at hrs
    refine ⟨_, _, _, hrun, ?_, by omega, ?_, ?_, ?_⟩
    · simp only [World.setCells]
      exact (Below.refl _ _).setCell (p := ⟨b, _, none⟩) hb1 _
    · simp only [World.setCells, hz1]
      rw [show q + (L - q) * 1 = L by omega]
      have hsz : (w.setCell ⟨b, L, none⟩ (.int .i64 (x : Int))).heap.size = w.heap.size := by simp [World.setCell]
      refine ⟨by rw [encN_length, List.length_append, List.length_drop]; simp; omega, fun _ => ⟨b, q, rfl, by rw [hsz]; exact hb2, fun j u hu => ?_⟩⟩
      have hj : j < L - q + 1 := by have := (List.getElem?_eq_some_iff.1 hu).1; rw [encN_length, List.length_append, List.length_drop] at this; simp at this; omega
      by_cases hjl : j = L - q
      · subst hjl
        rw [show q + (L - q) = L by omega]
        rw [encN_app, List.getElem?_append_right (by rw [encN_length, List.length_drop]; omega), encN_length, List.length_drop, show L - q - (l.length - q) = 0 by omega] at hu
        have hu : Value.int .i64 (x : Int) = u := by simpa [encN] using hu
        rw [← hu]
        simp [World.cell?, World.setCell, Array.getElem?_modify, hcur, hcs, hroom]
      · have hu2 : (encN (l.drop q))[j]? = some u := by
          rw [encN_app, List.getElem?_append_left (by rw [encN_length, List.length_drop]; omega)] at hu
          exact hu
        obtain ⟨b', o', e', _, hc⟩ := hrs.2 (by omega)
        injection e' with e'
        injection e' with e1 e2
        subst e1; subst e2
        have := hc j u hu2
        rw [← this]
        simp [World.cell?, World.setCell, Array.getElem?_modify, hcur, show ¬ L = q + j by omega]
    · simp only [World.setCells, hz1]
      rw [show q + (L - q) * 1 = L by omega]
      refine ⟨hst.1, fun h0 => ?_⟩
      obtain ⟨b', o', e', hb', hc⟩ := hst.2 h0
      have e' := e'
      injection e' with e'
      injection e' with e1 e2
      subst e1; subst e2
      refine ⟨b, 0, rfl, by simpa [World.setCell] using hb', fun j u hu => ?_⟩
      have hj : j < q := by have := (List.getElem?_eq_some_iff.1 hu).1; rw [encN_length, List.length_take] at this; omega
      have := hc j u hu
      rw [← this]
      simp [World.cell?, World.setCell, Array.getElem?_modify, hcur, show ¬ L = j by omega]
    · intro k _ hk
      simp only [World.setCells]
      exact Below.heap_setCell _ _ _ _ (hk b rfl)
  · have hLc : L = c := by omega
    have hold : Src Try.prog i0.size 38 (.slice (restA A q c) (L - q) (c - q)) (L - q) (encN (l.drop q)) w := by
      rcases own_nil_or h with ⟨rfl, h2, h3⟩ | ⟨b, rfl⟩
      · subst h3
        obtain rfl : q = 0 := by omega
        rw [show encN (l.drop 0) = [] by rw [List.drop_zero]; exact List.eq_nil_of_length_eq_zero (by rw [encN_length]; omega)]
        exact Src.ofNil w Try.underlying38 _
      · have e1 : ∃ a : Addr, restA (some (⟨b, 0, none⟩ : Addr)) q c = some a := by
          simp only [restA]; split <;> exact ⟨_, rfl⟩
        obtain ⟨a, e1⟩ := e1
        rw [e1] at hrs ⊢
        refine Src.ofSlice w Try.underlying38 a (L - q) (c - q) _ (by rw [hz1]; exact hrs.1) (fun j u hu => ?_) (encN_one _)
        have hj := (List.getElem?_eq_some_iff.1 hu).1
        rw [encN_length, List.length_drop] at hj
        obtain ⟨b', o', e', _, hc⟩ := hrs.2 (by omega)
        injection e' with e'
        subst e'
        rw [Go.WideShapes.add_plain]
        exact hc j u hu
    have hg : c - q < L - q + 1 := by omega
    have hrun := run_append_grow_src (P := Try.prog) w 38 38 ty 3 i0 (.int .i64 0) Try.underlying38 hi0 hz0 (restA A q c) (L - q) (c - q) _ hold.cellsD (.slice (some ad) 1 cc) 1 [.int .i64 (x : Int)] (hxs w hx) hg (by omega)
      (growslice_fits hg (by rw [hz2]; omega))
    have hge := grownCap_ge w (L - q + 1) (c - q) 3
    have hb : Below w.heap.size w (w.drew.alloc (.cells ((encN (l.drop q) ++ [Value.int .i64 (x : Int)]).toArray ++ Builtin.zeroCells (Value.int .i64 0).cells (grownCap w (L - q + 1) (c - q) 3 - (L - q + 1))) 3)) := ((Below.refl _ w).drew).alloc (Nat.le_refl _) _
    refine ⟨_, _, _, hrun, hb.mono hbase, by omega, ?_, (hst.step hb), fun k hk _ => hb.block k hk⟩
    refine ⟨by rw [encN_length, List.length_append, List.length_drop]; simp; omega, fun _ => ⟨w.heap.size, 0, rfl, by simp, fun j u hu => ?_⟩⟩
    rw [Nat.zero_add]
    have e1 : (w.drew.alloc (.cells ((encN (l.drop q) ++ [Value.int .i64 (x : Int)]).toArray ++ Builtin.zeroCells (Value.int .i64 0).cells (grownCap w (L - q + 1) (c - q) 3 - (L - q + 1))) 3)).cell? ⟨w.heap.size, j, none⟩ = _ := World.cell?_alloc_new w.drew _ _ j
    have hj := (List.getElem?_eq_some_iff.1 hu).1
    rw [encN_app] at hu hj
    rw [e1, Array.getElem?_append_left (by simpa [encN] using hj)]
    simpa [encN] using hu

theorem wpList_append_rest (w : World) {ops : Array Oper} {rest : List Oper} {o : Oper} {a : Act} {Q : Exit → Act → World → Prop} (hgd : o.guard = none) (s x : Operand)
    (ho : o.op = .call { callee := .builtin .append, args := #[s, x], argTypes := #[38, 38] })
    {base q L c xv : Nat} {A : Option Addr} {l : List Nat} (h : w.ownsRow base 3 1 (.slice A L c) L (encN l)) (hq : q ≤ L) (hL : L ≤ 1000) (hbase : base ≤ w.heap.size)
    (ad : Addr) (cc : Nat) (hx : w.cell? ad = some (.int .i64 (xv : Int))) (hspot : ad.spot = none) (hs : a.eval s = .slice (restA A q c) (L - q) (c - q)) (hv : a.eval x = .slice (some ad) 1 cc)
    (hK : ∀ A' c' w', Below base w w' → L - q + 1 ≤ c' → Reads w' w'.heap.size 1 A' (L - q + 1) (encN (l.drop q ++ [xv])) → Reads w' w'.heap.size 1 A q (encN (l.take q)) →
      (∀ k, k < w.heap.size → (∀ b, A = some ⟨b, 0, none⟩ → k ≠ b) → w'.heap[k]? = w.heap[k]?) → wpList Try.prog ops Q rest (a.put o.dst (.slice A' (L - q + 1) c')) w') : wpList Try.prog ops Q (o :: rest) a w := by
  refine wpList_plain hgd fun K hKK => ?_
  obtain ⟨A', c', w', hrun, h1, h2, h3, h4, h5⟩ := append_rest o.type h hq hL hbase ad cc hx hspot
  unfold Oper.wp execOp
  simp only [ho, resolve, invoke, builtin, Sem.run_bind, Sem.run_pure, Result.andThen_ok, List.map_toArray, List.map_cons, List.map_nil, hs, hv, hrun]
  exact hKK _ _ (hK A' c' w' h1 h2 h3 h4 h5)
theorem cell_new1 (w : World) (u : Value) (e : TypeId) : (w.alloc (.cells #[u] e)).cell? ⟨w.heap.size, 0, none⟩ = some u := cell_of_row (w.alloc (.cells #[u] e)) w.heap.size 0 #[u] e (0, 0) (heap_alloc_new w _)
/-- A walk stands still at what bears this name. -/
def StopHere (p : Prop) : Prop := p
theorem StopHere.mk {p : Prop} (h : StopHere p) : p := h
theorem But.cell {g b o : Nat} {w w' : World} (h : But g w w') (hb : b < w.heap.size) (hne : b ≠ g) : w'.cell? ⟨b, o, none⟩ = w.cell? ⟨b, o, none⟩ := by
  simp [World.cell?, h.block b hb hne]

end Go.Proofs.Ytcfmpmcdfllibaa
