/-
  An inode made.
-/
import Derived.Test.YtpdfkakhahfcjaaGreatG16
import Derived.Test.YtpdfkakhahfcjaaGreatG23
import Derived.Test.YtpdfkakhahfcjaaGreatG28
namespace Go.Proofs.YtpdfkakhahfcjaaGreat
open Go.RowKit

/-- The first free inode below k. -/
def freeI (img : List ByteArray) (k : Nat) : Option Nat := (List.range k).find? fun i => decide ((recI img i).kind = 0)
theorem freeI_none {img : List ByteArray} {k : Nat} : freeI img k = none ↔ ∀ i, i < k → (recI img i).kind ≠ 0 := by
  unfold freeI
  rw [List.find?_eq_none]
  simp
theorem freeI_here {img : List ByteArray} {k : Nat} (h : freeI img k = none) (h0 : (recI img k).kind = 0) {C : Nat} (hC : k < C) : freeI img C = some k := by
  have h1 : freeI img (k + 1) = some k := by
    unfold freeI at h ⊢
    rw [List.range_succ, List.find?_append, h]
    simp [h0]
  have key : ∀ m, freeI img (k + 1 + m) = some k := by
    intro m
    induction m with
    | zero => exact h1
    | succ m ih =>
      unfold freeI at ih ⊢
      rw [show k + 1 + (m + 1) = (k + 1 + m) + 1 by omega, List.range_succ, List.find?_append, ih]
      rfl
  have := key (C - (k + 1))
  rwa [show k + 1 + (C - (k + 1)) = C by omega] at this
def newI (img : List ByteArray) (x : Int) : List ByteArray × Nat × Int :=
  if x ≠ 1 ∧ x ≠ 2 then (img, 0, 21) else match freeI img (cntA img.length) with
  | some i => (saveR img { recI img i with kind := x.toNat }, i, 0)
  | none => (img, 0, 18)
/-- An image of the call's own, a number and an error. -/
def ImgNO (w w' : World) (img : List ByteArray) (i : Nat) (code : Int) (e : Ending) : Prop := ∃ g n c, e = .returned (.tuple #[.slice (some ⟨g, 0, none⟩) n c, .int .i64 (i : Int), .int .i64 code]) ∧ OwI w' w.heap.size g n c img ∧ n ≤ 512 ∧ Below w.heap.size w w'

theorem own_setCell_far {w : World} {base g n c k o : Nat} {img : List ByteArray} (h : OwI w base g n c img) (hne : k ≠ g) (u : Value) : OwI (w.setCell ⟨k, o, none⟩ u) base g n c img := by
  refine ⟨⟨h.own.1, ?_⟩, h.pos⟩
  rcases h.own.2 with h0 | ⟨g', cap, cur, e, h1, hh, h3⟩
  · exact .inl h0
  · refine .inr ⟨g', cap, cur, e, h1, ?_, h3⟩
    injection e with e1 e2 e3
    injection e1 with e1
    injection e1 with e1
    subst e1
    exact (Below.heap_setCell w ⟨k, o, none⟩ u g (Ne.symm hne)).trans hh
set_option maxRecDepth 100000 in
set_option maxHeartbeats 8000000 in
theorem newI_any (A : Option Addr) (n c : Nat) (img : List ByteArray) (x : Int) (w : World) (h : Reads w w.heap.size 1 A n (encS img)) (h8 : 8 ≤ n) (hn : n ≤ 512) :
    Calls Tryz.prog 7 #[.slice A n c, .int .i64 x] w fun e w' => ImgNO w w' (newI img x).1 (newI img x).2.1 (newI img x).2.2 e := by
  have hz := fun W => zero_run W
  have hl := h.lenS
  have ci := fun W => inodes_any A n c (by unfold maxLen; omega) W
  have hcn : cntA n ≤ 128 := by unfold cntA; omega
  have HB : Hid (newI img x = if x ≠ 1 ∧ x ≠ 2 then (img, 0, (21 : Int)) else match freeI img (cntA n) with | some i => (saveR img { recI img i with kind := x.toNat }, i, (0 : Int)) | none => (img, 0, (18 : Int))) := Lib.hid (by unfold newI; rw [hl])
  have hco := cloneS_any A n c img w h (by omega)
  have cl := fun (k : Nat) (hk : k ≤ 1024) W hW => load_any A n c img k hk W hW
  unfold valR at cl
  have HRI := Lib.hid (fun (k : Nat) (hk : k ≤ 1024) => recI_ok img k hk)
  have H := Lib.hid h
  clear h hl
  generalize cntA n = C at ci HB hcn
  by_cases hk : x ≠ 1 ∧ x ≠ 2
  · have HE : Hid (newI img x = (img, 0, 21)) := Lib.hid (by rw [HB.out, if_pos hk])
    have h1 : (x != 1) = true := by rw [bne_iff_ne]; exact hk.1
    have h2 : (x != 2) = true := by rw [bne_iff_ne]; exact hk.2
    clear hk
    go_enter Tryz.func7, Tryz.ntmps7
    go_wp2_with fail
    refine hco.mono ?_
    rintro e w1 ⟨A1, c1, rfl, ho1, hb1⟩
    obtain ⟨g, rfl, hO1⟩ := OwI.of ho1 (by omega)
    have HX := Lib.hid (And.intro hO1 hb1)
    clear ho1 hb1 hO1 hco
    go_wp2
    go_ret3
    rw [HE.out]
    exact ⟨g, n, c1, rfl, HX.out.1, hn, HX.out.2⟩
  obtain ⟨q, rfl, hq⟩ : ∃ q : Nat, x = q ∧ q ≤ 2 := ⟨x.toNat, by omega, by omega⟩
  have HE : Hid (newI img q = match freeI img C with | some i => (saveR img { recI img i with kind := q }, i, (0 : Int)) | none => (img, 0, (18 : Int))) := Lib.hid (by rw [HB.out, if_neg hk, Int.toNat_natCast])
  have hor : ((q : Int) != 1) = false ∨ (((q : Int) != 1) = true ∧ ((q : Int) != 2) = false) := by
    by_cases e : (q : Int) = 1
    · left; rw [e]; rfl
    · right; exact ⟨by rw [bne_iff_ne]; exact e, by rw [show (q : Int) = 2 by omega]; rfl⟩
  clear hk HB
  rcases hor with h1 | ⟨h1, h2⟩
  · skip
    go_enter Tryz.func7, Tryz.ntmps7
    go_wp2_with fail
    refine hco.mono ?_
    rintro e w1 ⟨A1, c1, rfl, ho1, hb1⟩
    obtain ⟨g, rfl, hO1⟩ := OwI.of ho1 (by omega)
    have HX := Lib.hid (And.intro hO1 hb1)
    clear ho1 hb1 hO1 hco
    go_wp2_with (go_at_call 32; refine (ci _).mono ?_; rintro e w2 ⟨rfl, rfl⟩)
    go_loopg [8, 9, 21] C (fun gk s8 s9 s21 wr => ∃ k : Nat, k ≤ C ∧ C - k ≤ gk ∧ s21 = .int .i64 k ∧ Hid (OwI wr w.heap.size g n c1 img ∧ Below w.heap.size w wr) ∧ Hid (freeI img k = none))
    case atStart => exact ⟨0, Nat.zero_le _, by omega, rfl, HX, Lib.hid rfl⟩
    case round =>
      clear HX
      obtain ⟨k, hkC, hgk, rfl, J, F⟩ := hrel
      by_cases hlt : k < C
      · have hkl : (k : Int) < (C : Int) := by omega
        have hk1024 : k ≤ 1024 := by omega
        have HR := Lib.hid (HRI.out k hk1024)
        have HFK := Lib.hid (fun h0 => freeI_here F.out h0 hlt)
        have HFN : Hid ((recI img k).kind ≠ 0 → freeI img (k + 1) = none) := Lib.hid fun h0 => freeI_none.2 fun i hi => by
          by_cases e : i = k
          · subst e; exact h0
          · exact freeI_none.1 F.out i (by omega)
        have clk := cl k hk1024 wr (H.out.step J.out.2)
        have HEK : Hid (freeI img C = some k → newI img q = (saveR img { recI img k with kind := q }, k, 0)) := Lib.hid fun e => by rw [HE.out, e]
        generalize recI img k = r at HR HFK HFN clk HEK
        go_wp2_with fail
        refine clk.mono ?_
        rintro e w2 ⟨rfl, hb2⟩
        have B2 := (BR.new w2 (zeroR 0)).setRow r
        have bs2 : Below w2.heap.size w2 ((w2.alloc (.cells (cellsR (zeroR 0)).toArray 62)).setRow w2.heap.size (cellsR r).toArray) := ((Below.refl _ w2).alloc (Nat.le_refl _) _).trans (below_setRow _ (Nat.le_refl _) _)
        have JN := Lib.hid (And.intro ((J.out.1.step hb2).step bs2) (bstep J.out.2 (bstep hb2 bs2)))
        have hg2 : g < w2.heap.size := Nat.lt_of_lt_of_le J.out.1.lt hb2.size
        have HB2 := Lib.hid B2
        have hkc := B2.kind
        have hfc := B2.free 1
        clear hb2 bs2 B2 clk J
        by_cases h0 : r.kind = 0
        · have hb0 : ((r.kind : Int) == 0) = true := by rw [h0]; rfl
          have HE2 := Lib.hid (HEK.out (HFK.out h0))
          clear h0
          have hne : w2.heap.size ≠ g := by omega
          have HR9 : Hid (OkR { r with kind := q }) := Lib.hid ⟨HR.out.bl, HR.out.ls, HR.out.num, by show q ≤ 255; omega, HR.out.size, HR.out.ind⟩
          have S2 := HB2.out.setKind q
          have HS : Hid (BR (((w2.alloc (.cells (cellsR (zeroR 0)).toArray 62)).setRow w2.heap.size (cellsR r).toArray).setCell ⟨w2.heap.size, 1, none⟩ (.int .i64 (q : Int))) w2.heap.size { r with kind := q } ∧ OwI (((w2.alloc (.cells (cellsR (zeroR 0)).toArray 62)).setRow w2.heap.size (cellsR r).toArray).setCell ⟨w2.heap.size, 1, none⟩ (.int .i64 (q : Int))) w.heap.size g n c1 img ∧ Below w.heap.size w (((w2.alloc (.cells (cellsR (zeroR 0)).toArray 62)).setRow w2.heap.size (cellsR r).toArray).setCell ⟨w2.heap.size, 1, none⟩ (.int .i64 (q : Int)))) :=
            Lib.hid ⟨S2, own_setCell_far JN.out.1 hne _, JN.out.2.setCell (p := ⟨w2.heap.size, 1, none⟩) (Nat.le_trans JN.out.1.ge (Nat.le_of_lt hg2)) _⟩
          have cs := saveR_any { r with kind := q } HR9.out w.heap.size g n c1 img _ HS.out.2.1
          unfold valR at cs
          clear S2
          go_wp2_with (first | (refine wpList_store_row rfl _ _ _ rfl w2.heap.size (cellsR r).toArray rfl rfl _ (cellsR (zeroR 0)).toArray (heap_alloc_new w2 _) (sizeRr HR.out) (holdR okz HR.out) (all_oneCell_toArray (cellsR_one _)) ?_) | (refine wpList_load_mid rfl _ _ rfl w2.heap.size 0 rfl (cellsR { r with kind := q }) _ HS.out.1.range Tryz.underlying62 rfl (by rw [cellsR_length HR9.out]; exact sizeR) ?_))
          refine cs.mono ?_
          rintro e w5 ⟨rfl, hO5, hbt⟩
          have HV := Lib.hid (And.intro hO5 (HS.out.2.2.trans (hbt.to_below (B := w.heap.size) HS.out.2.1.ge HS.out.2.2.size)))
          clear hO5 hbt cs
          go_wp2
          go_ret3
          rw [HE2.out]
          exact ⟨g, n, c1, rfl, HV.out.1, hn, HV.out.2⟩
        · have hb0 : ((r.kind : Int) == 0) = false := by rw [beq_eq_false_iff_ne]; omega
          have FN := Lib.hid (HFN.out h0)
          clear h0
          go_wp2_with (refine wpList_store_row rfl _ _ _ rfl w2.heap.size (cellsR r).toArray rfl rfl _ (cellsR (zeroR 0)).toArray (heap_alloc_new w2 _) (sizeRr HR.out) (holdR okz HR.out) (all_oneCell_toArray (cellsR_one _)) ?_)
          go_roundg (C - (k + 1))
          case measure => omega
          case rel => exact ⟨k + 1, by omega, by omega, by go_num, JN, FN⟩
      · have : k = C := by omega
        subst this
        have HE2 : Hid (newI img q = (img, 0, 18)) := Lib.hid (by rw [HE.out, F.out])
        go_wp2
        go_ret3
        rw [HE2.out]
        exact ⟨g, n, c1, rfl, J.out.1, hn, J.out.2⟩
  · skip
    go_enter Tryz.func7, Tryz.ntmps7
    go_wp2_with fail
    refine hco.mono ?_
    rintro e w1 ⟨A1, c1, rfl, ho1, hb1⟩
    obtain ⟨g, rfl, hO1⟩ := OwI.of ho1 (by omega)
    have HX := Lib.hid (And.intro hO1 hb1)
    clear ho1 hb1 hO1 hco
    go_wp2_with (go_at_call 32; refine (ci _).mono ?_; rintro e w2 ⟨rfl, rfl⟩)
    go_loopg [8, 9, 21] C (fun gk s8 s9 s21 wr => ∃ k : Nat, k ≤ C ∧ C - k ≤ gk ∧ s21 = .int .i64 k ∧ Hid (OwI wr w.heap.size g n c1 img ∧ Below w.heap.size w wr) ∧ Hid (freeI img k = none))
    case atStart => exact ⟨0, Nat.zero_le _, by omega, rfl, HX, Lib.hid rfl⟩
    case round =>
      clear HX
      obtain ⟨k, hkC, hgk, rfl, J, F⟩ := hrel
      by_cases hlt : k < C
      · have hkl : (k : Int) < (C : Int) := by omega
        have hk1024 : k ≤ 1024 := by omega
        have HR := Lib.hid (HRI.out k hk1024)
        have HFK := Lib.hid (fun h0 => freeI_here F.out h0 hlt)
        have HFN : Hid ((recI img k).kind ≠ 0 → freeI img (k + 1) = none) := Lib.hid fun h0 => freeI_none.2 fun i hi => by
          by_cases e : i = k
          · subst e; exact h0
          · exact freeI_none.1 F.out i (by omega)
        have clk := cl k hk1024 wr (H.out.step J.out.2)
        have HEK : Hid (freeI img C = some k → newI img q = (saveR img { recI img k with kind := q }, k, 0)) := Lib.hid fun e => by rw [HE.out, e]
        generalize recI img k = r at HR HFK HFN clk HEK
        go_wp2_with fail
        refine clk.mono ?_
        rintro e w2 ⟨rfl, hb2⟩
        have B2 := (BR.new w2 (zeroR 0)).setRow r
        have bs2 : Below w2.heap.size w2 ((w2.alloc (.cells (cellsR (zeroR 0)).toArray 62)).setRow w2.heap.size (cellsR r).toArray) := ((Below.refl _ w2).alloc (Nat.le_refl _) _).trans (below_setRow _ (Nat.le_refl _) _)
        have JN := Lib.hid (And.intro ((J.out.1.step hb2).step bs2) (bstep J.out.2 (bstep hb2 bs2)))
        have hg2 : g < w2.heap.size := Nat.lt_of_lt_of_le J.out.1.lt hb2.size
        have HB2 := Lib.hid B2
        have hkc := B2.kind
        have hfc := B2.free 1
        clear hb2 bs2 B2 clk J
        by_cases h0 : r.kind = 0
        · have hb0 : ((r.kind : Int) == 0) = true := by rw [h0]; rfl
          have HE2 := Lib.hid (HEK.out (HFK.out h0))
          clear h0
          have hne : w2.heap.size ≠ g := by omega
          have HR9 : Hid (OkR { r with kind := q }) := Lib.hid ⟨HR.out.bl, HR.out.ls, HR.out.num, by show q ≤ 255; omega, HR.out.size, HR.out.ind⟩
          have S2 := HB2.out.setKind q
          have HS : Hid (BR (((w2.alloc (.cells (cellsR (zeroR 0)).toArray 62)).setRow w2.heap.size (cellsR r).toArray).setCell ⟨w2.heap.size, 1, none⟩ (.int .i64 (q : Int))) w2.heap.size { r with kind := q } ∧ OwI (((w2.alloc (.cells (cellsR (zeroR 0)).toArray 62)).setRow w2.heap.size (cellsR r).toArray).setCell ⟨w2.heap.size, 1, none⟩ (.int .i64 (q : Int))) w.heap.size g n c1 img ∧ Below w.heap.size w (((w2.alloc (.cells (cellsR (zeroR 0)).toArray 62)).setRow w2.heap.size (cellsR r).toArray).setCell ⟨w2.heap.size, 1, none⟩ (.int .i64 (q : Int)))) :=
            Lib.hid ⟨S2, own_setCell_far JN.out.1 hne _, JN.out.2.setCell (p := ⟨w2.heap.size, 1, none⟩) (Nat.le_trans JN.out.1.ge (Nat.le_of_lt hg2)) _⟩
          have cs := saveR_any { r with kind := q } HR9.out w.heap.size g n c1 img _ HS.out.2.1
          unfold valR at cs
          clear S2
          go_wp2_with (first | (refine wpList_store_row rfl _ _ _ rfl w2.heap.size (cellsR r).toArray rfl rfl _ (cellsR (zeroR 0)).toArray (heap_alloc_new w2 _) (sizeRr HR.out) (holdR okz HR.out) (all_oneCell_toArray (cellsR_one _)) ?_) | (refine wpList_load_mid rfl _ _ rfl w2.heap.size 0 rfl (cellsR { r with kind := q }) _ HS.out.1.range Tryz.underlying62 rfl (by rw [cellsR_length HR9.out]; exact sizeR) ?_))
          refine cs.mono ?_
          rintro e w5 ⟨rfl, hO5, hbt⟩
          have HV := Lib.hid (And.intro hO5 (HS.out.2.2.trans (hbt.to_below (B := w.heap.size) HS.out.2.1.ge HS.out.2.2.size)))
          clear hO5 hbt cs
          go_wp2
          go_ret3
          rw [HE2.out]
          exact ⟨g, n, c1, rfl, HV.out.1, hn, HV.out.2⟩
        · have hb0 : ((r.kind : Int) == 0) = false := by rw [beq_eq_false_iff_ne]; omega
          have FN := Lib.hid (HFN.out h0)
          clear h0
          go_wp2_with (refine wpList_store_row rfl _ _ _ rfl w2.heap.size (cellsR r).toArray rfl rfl _ (cellsR (zeroR 0)).toArray (heap_alloc_new w2 _) (sizeRr HR.out) (holdR okz HR.out) (all_oneCell_toArray (cellsR_one _)) ?_)
          go_roundg (C - (k + 1))
          case measure => omega
          case rel => exact ⟨k + 1, by omega, by omega, by go_num, JN, FN⟩
      · have : k = C := by omega
        subst this
        have HE2 : Hid (newI img q = (img, 0, 18)) := Lib.hid (by rw [HE.out, F.out])
        go_wp2
        go_ret3
        rw [HE2.out]
        exact ⟨g, n, c1, rfl, J.out.1, hn, J.out.2⟩

end Go.Proofs.YtpdfkakhahfcjaaGreat

/-
  Bytes laid over a block, an inode's bytes among those of its block, as mathematics; sound images by their inodes.
-/
namespace Go.Proofs.YtpdfkakhahfcjaaGreat
open Go.RowKit

theorem bext {a b : ByteArray} (hs : a.size = b.size) (h : ∀ j, j < a.size → a.data.toList.getD j 0 = b.data.toList.getD j 0) : a = b := by
  apply ByteArray.ext
  apply Array.ext'
  have ha : a.data.toList.length = a.size := by simp
  have hb : b.data.toList.length = b.size := by simp
  refine List.ext_getElem (by omega) fun j h1 h2 => ?_
  have := h j (by omega)
  rwa [List.getD_eq_getElem?_getD, List.getD_eq_getElem?_getD, List.getElem?_eq_getElem h1, List.getElem?_eq_getElem h2] at this
theorem ext_getD {s : ByteArray} {a b j : Nat} (hj : a + j < b) : (s.extract a b).data.toList.getD j 0 = s.data.toList.getD (a + j) 0 := by
  rw [ext_toList, List.getD_eq_getElem?_getD, List.getD_eq_getElem?_getD, List.getElem?_take, if_pos (by omega), List.getElem?_drop]
theorem overB_getD {b s : ByteArray} {o : Nat} (h : o + s.size ≤ b.size) (j : Nat) : (overB b o s).data.toList.getD j 0 = if o ≤ j ∧ j < o + s.size then s.data.toList.getD (j - o) 0 else b.data.toList.getD j 0 := by
  have hb : b.data.toList.length = b.size := by simp
  have hs : s.data.toList.length = s.size := by simp
  unfold overB
  simp only [mkB, List.toList_toArray]
  rw [List.getD_eq_getElem?_getD, List.append_assoc]
  by_cases h1 : j < o
  · rw [if_neg (by omega), List.getElem?_append_left (by rw [List.length_take]; omega), List.getElem?_take, if_pos h1, List.getD_eq_getElem?_getD]
  · rw [List.getElem?_append_right (by rw [List.length_take]; omega), List.length_take, Nat.min_eq_left (by omega)]
    by_cases h2 : j < o + s.size
    · rw [if_pos ⟨by omega, h2⟩, List.getElem?_append_left (by omega), List.getD_eq_getElem?_getD]
    · rw [if_neg (by omega), List.getElem?_append_right (by omega), hs, List.getElem?_drop, List.getD_eq_getElem?_getD, show o + s.size + (j - o - s.size) = j by omega]
theorem overB_self {b s : ByteArray} {o : Nat} (h : o + s.size ≤ b.size) : (overB b o s).extract o (o + s.size) = s := by
  have hz := overB_size h
  refine bext (by rw [ByteArray.size_extract, hz]; omega) fun j hj => ?_
  rw [ByteArray.size_extract, hz] at hj
  rw [ext_getD (by omega), overB_getD h, if_pos (by omega), show o + j - o = j by omega]
theorem overB_other {b s : ByteArray} {o x y : Nat} (h : o + s.size ≤ b.size) (hy : y ≤ b.size) (hd : y ≤ o ∨ o + s.size ≤ x) : (overB b o s).extract x y = b.extract x y := by
  have hz := overB_size h
  refine bext (by rw [ByteArray.size_extract, ByteArray.size_extract, hz]) fun j hj => ?_
  rw [ByteArray.size_extract, hz] at hj
  rw [ext_getD (by omega), ext_getD (by omega), overB_getD h, if_neg (by omega)]
theorem blkI_set {img : List ByteArray} {i : Nat} {s : ByteArray} (hi : i < img.length) (hs : s.size = 128) (j : Nat) : blkI (img.set i s) j = if j = i then s else blkI img j := by
  unfold blkI
  rw [List.length_set]
  by_cases h : j = i
  · subst h; rw [if_pos rfl, blk_set_self hi, if_pos ⟨hi, hs⟩]
  · rw [if_neg h, blk_set_ne (Ne.symm h)]
theorem blkI_put {img : List ByteArray} {i o : Nat} {s : ByteArray} (hi : i < img.length) (h : o + s.size ≤ 128) (j : Nat) : blkI (putI img i o s) j = if j = i then overB (blkI img i) o s else blkI img j := by
  unfold putI
  rw [if_pos hi, blkI_set hi (by rw [overB_size (by rw [blkI_size]; exact h), blkI_size])]
/-- An inode's bytes put: those, and all others as they were. -/
theorem rawI_put {img : List ByteArray} {i : Nat} {s : ByteArray} (hi : 2 + i / 4 < img.length) (hs : s.size = 32) (j : Nat) : rawI (putI img (2 + i / 4) (32 * (i % 4)) s) j = if j = i then s else rawI img j := by
  have h4 : i % 4 < 4 := Nat.mod_lt _ (by omega)
  have h4j : j % 4 < 4 := Nat.mod_lt _ (by omega)
  have hle : 32 * (i % 4) + s.size ≤ (blkI img (2 + i / 4)).size := by rw [blkI_size]; omega
  unfold rawI
  rw [blkI_put hi (by omega)]
  by_cases hj : j = i
  · subst hj
    rw [if_pos rfl, if_pos rfl]
    have := overB_self hle
    rwa [hs] at this
  · rw [if_neg hj]
    by_cases hb : 2 + j / 4 = 2 + i / 4
    · rw [if_pos hb, overB_other hle (by rw [blkI_size]; omega) (by omega), hb]
    · rw [if_neg hb]
/-- Blocks elsewhere leave an inode's bytes. -/
theorem rawI_far {img c : List ByteArray} {i : Nat} (h : blkI c (2 + i / 4) = blkI img (2 + i / 4)) : rawI c i = rawI img i := by unfold rawI; rw [h]
theorem recI_far {img c : List ByteArray} {i : Nat} (h : rawI c i = rawI img i) (h2 : (recI img i).ind ≠ 0 → blkI c (recI img i).ind = blkI img (recI img i).ind) : recI c i = recI img i := by
  have h2 : w2 (rawI img i) 13 ≠ 0 → blkI c (w2 (rawI img i) 13) = blkI img (w2 (rawI img i) 13) := h2
  unfold recI
  rw [h]
  by_cases h0 : w2 (rawI img i) 13 = 0
  · simp only [if_pos h0]
  · simp only [if_neg h0, h2 h0]
theorem form_far {img c : List ByteArray} {r : RecI} (h : rawI c r.num = rawI img r.num) (h2 : ∀ b ∈ dataR r, blkI c b = blkI img b) : isFormI c r = isFormI img r := by
  have e : flatR c r = flatR img r := by
    unfold flatR
    have : ∀ l : List Nat, (∀ b ∈ l, blkI c b = blkI img b) → (l.flatMap fun i => (blkI c i).data.toList) = l.flatMap fun i => (blkI img i).data.toList := by
      intro l
      induction l with
      | nil => intro _; rfl
      | cons a l ih => intro h; rw [List.flatMap_cons, List.flatMap_cons, ih fun b hb => h b (List.mem_cons_of_mem _ hb), h a List.mem_cons_self]
    exact this _ h2
  unfold isFormI
  rw [h, e]

/-- WHICH IMAGES CAN BE, inode by inode. -/
structure SoundQ (img : List ByteArray) : Prop where
  fit : FitA img
  form : ∀ i, i < cntA img.length → isFormI img (recI img i) = true
  named : ∀ i, i < cntA img.length → ∀ b ∈ namedR (recI img i), firstA img.length ≤ b ∧ takenA img b = true
  once : ∀ i, i < cntA img.length → (namedR (recI img i)).Nodup
  apart : ∀ i j, i < cntA img.length → j < cntA img.length → i ≠ j → ∀ b ∈ namedR (recI img i), b ∉ namedR (recI img j)
  all : ∀ b, firstA img.length ≤ b → takenA img b = true → ∃ i, i < cntA img.length ∧ b ∈ namedR (recI img i)
theorem mem_allNamed {img : List ByteArray} {C b : Nat} : b ∈ allNamed img C ↔ ∃ i, i < C ∧ b ∈ namedR (recI img i) := by
  unfold allNamed
  rw [List.mem_flatMap]
  constructor
  · rintro ⟨i, hi, hb⟩; exact ⟨i, List.mem_range.1 hi, hb⟩
  · rintro ⟨i, hi, hb⟩; exact ⟨i, List.mem_range.2 hi, hb⟩
theorem nodup_allNamed (img : List ByteArray) : ∀ C, (allNamed img C).Nodup ↔ (∀ i, i < C → (namedR (recI img i)).Nodup) ∧ ∀ i j, i < C → j < C → i ≠ j → ∀ b ∈ namedR (recI img i), b ∉ namedR (recI img j)
  | 0 => by simp [allNamed]
  | C + 1 => by
    rw [allNamed_succ, List.nodup_append, nodup_allNamed img C]
    constructor
    · rintro ⟨⟨h1, h2⟩, h3, h4⟩
      refine ⟨fun i hi => ?_, fun i j hi hj hne b hb hb2 => ?_⟩
      · rcases Nat.lt_or_ge i C with h | h
        · exact h1 i h
        · obtain rfl : i = C := by omega
          exact h3
      · rcases Nat.lt_or_ge i C with h | h
        · rcases Nat.lt_or_ge j C with h' | h'
          · exact h2 i j h h' hne b hb hb2
          · obtain rfl : j = C := by omega
            exact h4 b (mem_allNamed.2 ⟨i, h, hb⟩) b hb2 rfl
        · obtain rfl : i = C := by omega
          exact h4 b (mem_allNamed.2 ⟨j, by omega, hb2⟩) b hb rfl
    · rintro ⟨h1, h2⟩
      refine ⟨⟨fun i hi => h1 i (by omega), fun i j hi hj => h2 i j (by omega) (by omega)⟩, h1 C (by omega), fun a ha b hb e => ?_⟩
      subst e
      obtain ⟨i, hi, h⟩ := mem_allNamed.1 ha
      exact h2 i C (by omega) (by omega) (by omega) a h hb
theorem soundQ_iff (img : List ByteArray) : SoundP img ↔ SoundQ img := by
  constructor
  · intro h
    have hn := (nodup_allNamed img _).1 h.once
    exact ⟨h.fit, h.form, fun i hi b hb => h.named b (mem_allNamed.2 ⟨i, hi, hb⟩), hn.1, hn.2, fun b h1 h2 => mem_allNamed.1 (h.all b h1 h2)⟩
  · intro h
    refine ⟨h.fit, h.form, fun b hb => ?_, (nodup_allNamed img _).2 ⟨h.once, h.apart⟩, fun b h1 h2 => mem_allNamed.2 (h.all b h1 h2)⟩
    obtain ⟨i, hi, hb⟩ := mem_allNamed.1 hb
    exact h.named i hi b hb

/-- ONE INODE CHANGED: an image whose other inodes and their blocks are as they were, and whose blocks that are taken are theirs and the one's. -/
theorem sound_one {img c : List ByteArray} (hs : SoundQ img) {i0 : Nat} (h0 : i0 < cntA img.length) (hfit : FitA c) (hlen : c.length = img.length)
    (hoth : ∀ i, i < cntA img.length → i ≠ i0 → rawI c i = rawI img i ∧ ∀ b ∈ namedR (recI img i), blkI c b = blkI img b)
    (hform : isFormI c (recI c i0) = true) (hone : (namedR (recI c i0)).Nodup)
    (hnew : ∀ b ∈ namedR (recI c i0), firstA img.length ≤ b ∧ b < img.length ∧ (b ∈ namedR (recI img i0) ∨ takenA img b = false))
    (htak : ∀ b, firstA img.length ≤ b → b < img.length → (takenA c b = true ↔ (takenA img b = true ∧ b ∉ namedR (recI img i0)) ∨ b ∈ namedR (recI c i0))) : SoundQ c := by
  have hrec : ∀ i, i < cntA img.length → i ≠ i0 → recI c i = recI img i := fun i hi hne => recI_far (hoth i hi hne).1 fun h => (hoth i hi hne).2 _ (by unfold namedR; rw [if_neg h]; simp)
  have hout : ∀ i, i < cntA img.length → i ≠ i0 → ∀ b ∈ namedR (recI img i), b ∉ namedR (recI c i0) := fun i hi hne b hb hb2 => by
    rcases (hnew b hb2).2.2 with h | h
    · exact hs.apart i i0 hi h0 hne b hb h
    · rw [(hs.named i hi b hb).2] at h; cases h
  refine ⟨hfit, fun i hi => ?_, fun i hi b hb => ?_, fun i hi => ?_, fun i j hi hj hne b hb hb2 => ?_, fun b h1 h2 => ?_⟩
  · rw [hlen] at hi
    by_cases h : i = i0
    · subst h; exact hform
    · rw [hrec i hi h, form_far (img := img) (by exact (hoth i hi h).1) fun b hb => (hoth i hi h).2 b (List.mem_append_left _ hb)]
      exact hs.form i hi
  · rw [hlen] at hi ⊢
    by_cases h : i = i0
    · subst h
      have := hnew b hb
      exact ⟨this.1, (htak b this.1 this.2.1).2 (.inr hb)⟩
    · rw [hrec i hi h] at hb
      have := hs.named i hi b hb
      exact ⟨this.1, (htak b this.1 (taken_lt this.2)).2 (.inl ⟨this.2, hs.apart i i0 hi h0 h b hb⟩)⟩
  · rw [hlen] at hi
    by_cases h : i = i0
    · subst h; exact hone
    · rw [hrec i hi h]; exact hs.once i hi
  · rw [hlen] at hi hj
    by_cases h : i = i0
    · subst h
      rw [hrec j hj (Ne.symm hne)] at hb2
      exact hout j hj (Ne.symm hne) b hb2 hb
    · rw [hrec i hi h] at hb
      by_cases h' : j = i0
      · subst h'; exact hout i hi h b hb hb2
      · rw [hrec j hj h'] at hb2
        exact hs.apart i j hi hj hne b hb hb2
  · rw [hlen] at h1 ⊢
    have hbl : b < img.length := by have := taken_lt h2; omega
    rcases (htak b h1 hbl).1 h2 with ⟨ht, hn⟩ | hm
    · obtain ⟨i, hi, hb⟩ := hs.all b h1 ht
      have hne : i ≠ i0 := fun e => hn (e ▸ hb)
      exact ⟨i, hi, by rw [hrec i hi hne]; exact hb⟩
    · exact ⟨i0, h0, hm⟩

end Go.Proofs.YtpdfkakhahfcjaaGreat

/-
  An inode saved: what is read of it afterwards.
-/
namespace Go.Proofs.YtpdfkakhahfcjaaGreat
open Go.RowKit

theorem be_two (n : Nat) : beL n 2 = [UInt8.ofNat (n / 256), UInt8.ofNat n] := by simp [beL, List.range, List.range.loop]
theorem by_two (n : Nat) : 256 * (UInt8.ofNat (n / 256)).toNat + (UInt8.ofNat n).toNat = n % 65536 := by
  simp only [UInt8.toNat_ofNat']
  omega
theorem word_be {a b : UInt8} {n : Nat} (ha : a = UInt8.ofNat (n / 256)) (hb : b = UInt8.ofNat n) (h : n < 65536) : 256 * a.toNat + b.toNat = n := by
  subst ha; subst hb; rw [by_two]; omega
/-- An inode's bytes read back. -/
theorem text_read {r : RecI} (hr : OkR r) (hb : ∀ k ∈ r.bl, k < 65536) : byA (textR r) 0 = r.kind ∧ 65536 * w2 (textR r) 1 + w2 (textR r) 3 = r.size ∧ [w2 (textR r) 5, w2 (textR r) 7, w2 (textR r) 9, w2 (textR r) 11] = r.bl ∧ w2 (textR r) 13 = r.ind := by
  have hk := hr.kind
  have hs := hr.size
  have hi := hr.ind
  obtain ⟨nu, ki, sz, bl, ind, ls⟩ := r
  obtain ⟨a, b, c, d, rfl⟩ : ∃ a b c d, bl = [a, b, c, d] := by
    have h4 : bl.length = 4 := hr.bl
    match bl, h4 with
    | [a, b, c, d], _ => exact ⟨a, b, c, d, rfl⟩
  have ha := hb a (by simp)
  have hb' := hb b (by simp)
  have hc := hb c (by simp)
  have hd := hb d (by simp)
  have e : (textR ⟨nu, ki, sz, [a, b, c, d], ind, ls⟩).data.toList = [UInt8.ofNat ki, UInt8.ofNat (sz / 65536 / 256), UInt8.ofNat (sz / 65536), UInt8.ofNat (sz / 256), UInt8.ofNat sz, UInt8.ofNat (a / 256), UInt8.ofNat a, UInt8.ofNat (b / 256), UInt8.ofNat b, UInt8.ofNat (c / 256), UInt8.ofNat c, UInt8.ofNat (d / 256), UInt8.ofNat d, UInt8.ofNat (ind / 256), UInt8.ofNat ind] ++ List.replicate 17 0 := by
    simp only [textR, headR, mkB, List.toList_toArray, List.flatMap_cons, List.flatMap_nil, be_two]
    rfl
  have hy : ∀ k, byA (textR ⟨nu, ki, sz, [a, b, c, d], ind, ls⟩) k = (([UInt8.ofNat ki, UInt8.ofNat (sz / 65536 / 256), UInt8.ofNat (sz / 65536), UInt8.ofNat (sz / 256), UInt8.ofNat sz, UInt8.ofNat (a / 256), UInt8.ofNat a, UInt8.ofNat (b / 256), UInt8.ofNat b, UInt8.ofNat (c / 256), UInt8.ofNat c, UInt8.ofNat (d / 256), UInt8.ofNat d, UInt8.ofNat (ind / 256), UInt8.ofNat ind] ++ List.replicate 17 0).getD k 0).toNat := fun k => by unfold byA; rw [e]
  have hw : ∀ o, w2 (textR ⟨nu, ki, sz, [a, b, c, d], ind, ls⟩) o = 256 * byA (textR ⟨nu, ki, sz, [a, b, c, d], ind, ls⟩) o + byA (textR ⟨nu, ki, sz, [a, b, c, d], ind, ls⟩) (o + 1) := fun o => rfl
  have b0 := hy 0
  have b1 := hy 1
  have b2 := hy 2
  have b3 := hy 3
  have b4 := hy 4
  have b5 := hy 5
  have b6 := hy 6
  have b7 := hy 7
  have b8 := hy 8
  have b9 := hy 9
  have b10 := hy 10
  have b11 := hy 11
  have b12 := hy 12
  have b13 := hy 13
  have b14 := hy 14
  simp only [List.cons_append, List.getD_cons_zero, List.getD_cons_succ] at b0 b1 b2 b3 b4 b5 b6 b7 b8 b9 b10 b11 b12 b13 b14
  refine ⟨?_, ?_, ?_, ?_⟩
  · rw [b0, UInt8.toNat_ofNat']; dsimp only at hk ⊢; omega
  · rw [hw, hw, b1, b2, b3, b4, by_two, by_two]; dsimp only at hs ⊢; omega
  · rw [hw, hw, hw, hw, b5, b6, b7, b8, b9, b10, b11, b12, by_two, by_two, by_two, by_two]
    dsimp only
    rw [Nat.mod_eq_of_lt ha, Nat.mod_eq_of_lt hb', Nat.mod_eq_of_lt hc, Nat.mod_eq_of_lt hd]
  · rw [hw, b13, b14, by_two]; dsimp only at hi ⊢; omega
theorem list_words : ∀ {l : List Nat}, (∀ k ∈ l, k < 65536) → ∀ j, j < l.length → wordN (listB l) j = l.getD j 0 := by
  intro l hl j hj
  have key : ∀ (l : List Nat) (j : Nat), j < l.length → (l.flatMap fun p => beL p 2).getD (2 * j) 0 = UInt8.ofNat (l.getD j 0 / 256) ∧ (l.flatMap fun p => beL p 2).getD (2 * j + 1) 0 = UInt8.ofNat (l.getD j 0) := by
    intro l
    induction l with
    | nil => intro j h; simp at h
    | cons a l ih =>
      intro j h
      rw [List.flatMap_cons, be_two]
      cases j with
      | zero => exact ⟨rfl, rfl⟩
      | succ j =>
        have := ih j (by simpa using h)
        rw [show 2 * (j + 1) = 2 * j + 1 + 1 by omega, show 2 * j + 1 + 1 + 1 = (2 * j + 1) + 1 + 1 by omega]
        simp only [List.cons_append, List.nil_append, List.getD_cons_succ]
        exact this
  unfold wordN byA listB
  simp only [mkB, List.toList_toArray]
  rw [(key l j hj).1, (key l j hj).2, by_two]
  have hm : l.getD j 0 ∈ l := by rw [List.getD_eq_getElem?_getD, List.getElem?_eq_getElem hj]; exact List.getElem_mem _
  exact Nat.mod_eq_of_lt (hl _ hm)

/-- As a record is that is saved: what its numbers are, and where it goes. -/
structure SvP (img : List ByteArray) (r : RecI) : Prop where
  ok : OkR r
  bl : ∀ k ∈ r.bl, k < 65536
  ls : ∀ k ∈ r.ls, k < 65536
  num : r.num < cntA img.length
  ind : r.ind = 0 ∨ (firstA img.length ≤ r.ind ∧ r.ind < img.length)
  none : r.ind = 0 → r.ls = List.replicate 64 0
section
variable {img : List ByteArray} {r : RecI}
theorem over_all {b s : ByteArray} (hb : b.size = s.size) : overB b 0 s = s := by
  refine bext (by rw [overB_size (by omega)]; exact hb) fun j hj => ?_
  rw [overB_size (by omega)] at hj
  rw [overB_getD (by omega), if_pos (by omega), Nat.sub_zero]
theorem save_blk (h8 : 8 ≤ img.length) (h5 : img.length ≤ 512) (h : SvP img r) (b : Nat) : blkI (saveR img r) b = if r.ind ≠ 0 ∧ b = r.ind then listB r.ls else if b = 2 + r.num / 4 then overB (blkI img b) (32 * (r.num % 4)) (textR r) else blkI img b := by
  have hat := inode_at h8 h5 h.num
  have h4 : r.num % 4 < 4 := Nat.mod_lt _ (by omega)
  have hts := textR_size h.ok
  have hp1 := fun j => blkI_put (img := img) (i := 2 + r.num / 4) (o := 32 * (r.num % 4)) (s := textR r) hat (by omega) j
  unfold saveR
  by_cases h0 : r.ind = 0
  · rw [if_pos h0, hp1, if_neg (show ¬ (r.ind ≠ 0 ∧ b = r.ind) from fun h => h.1 h0)]
    by_cases hb : b = 2 + r.num / 4
    · rw [if_pos hb, if_pos hb, hb]
    · rw [if_neg hb, if_neg hb]
  · have hin := h.ind.resolve_left h0
    have hls : (listB r.ls).size = 128 := by rw [listB_size, h.ok.ls]
    rw [if_neg h0, blkI_put (by rw [putI_length]; exact hin.2) (by omega)]
    by_cases hb : b = r.ind
    · rw [if_pos hb, if_pos ⟨h0, hb⟩, over_all (by rw [blkI_size, hls])]
    · rw [if_neg hb, if_neg (fun h => hb h.2), hp1]
      by_cases hb2 : b = 2 + r.num / 4
      · rw [if_pos hb2, if_pos hb2, hb2]
      · rw [if_neg hb2, if_neg hb2]
theorem inode_lt {n j : Nat} (hj : j < cntA n) : 2 + j / 4 < firstA n := by
  have h2 := cnt_mod n
  have h3 : firstA n = 2 + cntA n / 4 := rfl
  omega
theorem save_raw (h8 : 8 ≤ img.length) (h5 : img.length ≤ 512) (h : SvP img r) {j : Nat} (hj : j < cntA img.length) : rawI (saveR img r) j = if j = r.num then textR r else rawI img j := by
  have hp := rawI_put (img := img) (i := r.num) (s := textR r) (inode_at h8 h5 h.num) (textR_size h.ok) j
  rw [← hp]
  refine rawI_far ?_
  have hlt := inode_lt hj
  rw [save_blk h8 h5 h, blkI_put (inode_at h8 h5 h.num) (by rw [textR_size h.ok]; have : r.num % 4 < 4 := Nat.mod_lt _ (by omega); omega), if_neg (show ¬ (r.ind ≠ 0 ∧ 2 + j / 4 = r.ind) from fun hh => by
    have := h.ind.resolve_left hh.1; omega)]
  by_cases hb : 2 + j / 4 = 2 + r.num / 4
  · rw [if_pos hb, if_pos hb, hb]
  · rw [if_neg hb, if_neg hb]
theorem save_rec (h8 : 8 ≤ img.length) (h5 : img.length ≤ 512) (h : SvP img r) : recI (saveR img r) r.num = r := by
  have hraw : rawI (saveR img r) r.num = textR r := by rw [save_raw h8 h5 h h.num, if_pos rfl]
  obtain ⟨h1, h2, h3, h4⟩ := text_read h.ok h.bl
  have hls : (if r.ind = 0 then List.replicate 64 0 else (List.range 64).map (wordN (blkI (saveR img r) r.ind))) = r.ls := by
    by_cases h0 : r.ind = 0
    · rw [if_pos h0, h.none h0]
    · rw [if_neg h0, save_blk h8 h5 h, if_pos ⟨h0, rfl⟩]
      refine List.ext_getElem (by simp [h.ok.ls]) fun j hj1 hj2 => ?_
      simp only [List.getElem_map, List.getElem_range]
      rw [list_words h.ls j hj2, List.getD_eq_getElem?_getD, List.getElem?_eq_getElem hj2]; rfl
  unfold recI
  rw [hraw, h1, h2, h3, h4, hls]
end
theorem dataR_name {r0 : RecI} {size ind : Nat} {data : List Nat} (hd : data.length = needN size) (hn : needN size ≤ 68) : dataR (nameR r0 size data ind) = data := by
  have hl : ∀ l : List Nat, (l.take 4 ++ List.replicate (4 - (l.take 4).length) 0).length = 4 := fun l => by simp; omega
  unfold dataR nameR padN
  dsimp only
  rw [← hd]
  rcases Nat.lt_or_ge 4 data.length with h | h
  · rw [show 4 - (data.take 4).length = 0 by rw [List.length_take]; omega, List.replicate_zero, List.append_nil, ← List.append_assoc, show ((data.drop 4).take 64) = data.drop 4 from List.take_of_length_le (by rw [List.length_drop]; omega), List.take_append_drop, List.take_left]
  · rw [List.take_of_length_le h, List.append_assoc, List.take_left]
theorem name_self {r0 : RecI} {size ind : Nat} {data : List Nat} (hd : data.length = needN size) (hn : needN size ≤ 68) : nameR r0 size data ind = nameR (nameR r0 size data ind) (nameR r0 size data ind).size (dataR (nameR r0 size data ind)) (nameR r0 size data ind).ind := by
  rw [dataR_name hd hn]; rfl
theorem mem_padN {k x : Nat} {l : List Nat} (h : x ∈ padN k l) : x ∈ l ∨ x = 0 := by
  rcases List.mem_append.1 h with h | h
  · exact .inl h
  · exact .inr (List.mem_replicate.1 h).2

end Go.Proofs.YtpdfkakhahfcjaaGreat

/-
  An inode saved into an image that holds what the others hold: the image is sound.
-/
namespace Go.Proofs.YtpdfkakhahfcjaaGreat
open Go.RowKit

theorem mem_blk {img : List ByteArray} {s : ByteArray} (h : s ∈ img) : ∃ i, i < img.length ∧ blk img i = s := by
  obtain ⟨i, hi, e⟩ := List.mem_iff_getElem.1 h
  exact ⟨i, hi, by unfold blk; rw [List.getD_eq_getElem?_getD, List.getElem?_eq_getElem hi, ← e]; rfl⟩
theorem fit_set {img : List ByteArray} (h : FitA img) {i : Nat} {s : ByteArray} (hi : 2 ≤ i) (hs : s.size = 128) : FitA (img.set i s) := by
  refine ⟨by rw [List.length_set]; exact h.1, fun t ht => ?_, by rw [List.length_set, blk_set_ne (by omega)]; exact h.2.2.1, fun b hb => by rw [List.length_set, blk_set_ne (by omega)]; exact h.2.2.2 b hb⟩
  rcases List.mem_or_eq_of_mem_set ht with ht | rfl
  · exact h.2.1 t ht
  · exact hs
theorem fit_put {img : List ByteArray} (h : FitA img) {i o : Nat} {s : ByteArray} (hi : 2 ≤ i) (hs : o + s.size ≤ 128) : FitA (putI img i o s) := by
  unfold putI
  split
  · exact fit_set h hi (by rw [overB_size (by rw [blkI_size]; exact hs), blkI_size])
  · exact h
theorem map_put (img : List ByteArray) {i o : Nat} {s : ByteArray} (hi : 2 ≤ i) : blk (putI img i o s) 1 = blk img 1 := by
  unfold putI
  split
  · exact blk_set_ne (by omega)
  · rfl
theorem taken_map {img c : List ByteArray} (hl : c.length = img.length) (h : blk c 1 = blk img 1) (b : Int) : takenA c b = takenA img b := by unfold takenA; rw [hl, h]
theorem fit_save {img : List ByteArray} {r : RecI} (h : FitA img) (hv : SvP img r) : FitA (saveR img r) := by
  have h4 : r.num % 4 < 4 := Nat.mod_lt _ (by omega)
  have h1 := fit_put h (i := 2 + r.num / 4) (o := 32 * (r.num % 4)) (s := textR r) (by omega) (by rw [textR_size hv.ok]; omega)
  unfold saveR
  by_cases h0 : r.ind = 0
  · rw [if_pos h0]; exact h1
  · rw [if_neg h0]
    have hin := hv.ind.resolve_left h0
    have hF := (first_le h.1.1 h.1.2).1
    exact fit_put h1 (by omega) (by rw [listB_size, hv.ok.ls]; omega)
theorem map_save {img : List ByteArray} {r : RecI} (h : FitA img) (hv : SvP img r) : blk (saveR img r) 1 = blk img 1 := by
  unfold saveR
  by_cases h0 : r.ind = 0
  · rw [if_pos h0]; exact map_put _ (by omega)
  · rw [if_neg h0]
    have hin := hv.ind.resolve_left h0
    have hF := (first_le h.1.1 h.1.2).1
    rw [map_put _ (by omega), map_put _ (by omega)]
theorem need_le {size : Nat} (h : size ≤ 8704) : needN size ≤ 68 := by unfold needN; omega
theorem name_ok {r0 : RecI} (h : OkR r0) {size ind : Nat} {data : List Nat} (hs : size ≤ 8704) (hi : ind < 65536) : OkR (nameR r0 size data ind) := nameR_ok h (by omega) hi
/-- What an inode that bears other blocks names. -/
theorem namedR_name {r0 : RecI} {size ind : Nat} {data : List Nat} (hd : data.length = needN size) (hn : needN size ≤ 68) : namedR (nameR r0 size data ind) = data ++ if ind = 0 then [] else [ind] := by
  unfold namedR
  rw [dataR_name hd hn]; rfl
theorem name_sv {m : List ByteArray} (h5 : m.length ≤ 512) {r0 : RecI} (hr0 : OkR r0) (hnum : r0.num < cntA m.length) {size ind : Nat} {data : List Nat} (hsz : size ≤ 8704) (hd : data.length = needN size) (hin : 4 < needN size ↔ 0 < ind)
    (hnew : ∀ b ∈ data ++ (if ind = 0 then [] else [ind]), firstA m.length ≤ b ∧ b < m.length) : SvP m (nameR r0 size data ind) := by
  have hdat : ∀ x ∈ data, x < 65536 := fun x hx => by have := hnew x (List.mem_append_left _ hx); omega
  have hi : ind = 0 ∨ (firstA m.length ≤ ind ∧ ind < m.length) := by
    by_cases h0 : ind = 0
    · exact .inl h0
    · exact .inr (hnew ind (List.mem_append_right _ (by rw [if_neg h0]; simp)))
  refine ⟨name_ok hr0 hsz (by omega), fun k hk => ?_, fun k hk => ?_, hnum, hi, fun h0 => ?_⟩
  · rcases mem_padN hk with h | h
    · exact hdat k (List.mem_of_mem_take h)
    · omega
  · rcases mem_padN hk with h | h
    · exact hdat k (List.mem_of_mem_drop (List.mem_of_mem_take h))
    · omega
  · have h0 : ind = 0 := h0
    show padN 64 ((data.drop 4).take 64) = _
    rw [List.drop_of_length_le (by omega)]; rfl

theorem sound_save {img m : List ByteArray} (hs : SoundQ img) {r0 : RecI} (hr0 : OkR r0) (hnum : r0.num < cntA img.length) (hk : r0.kind = 1 ∨ r0.kind = 2) {size ind : Nat} {data : List Nat}
    (hsz : size ≤ 8704) (hd : data.length = needN size) (hin : 4 < needN size ↔ 0 < ind) (hm : FitA m) (hl : m.length = img.length)
    (hoth : ∀ i, i < cntA img.length → i ≠ r0.num → rawI m i = rawI img i ∧ ∀ b ∈ namedR (recI img i), blkI m b = blkI img b)
    (hone : (data ++ if ind = 0 then [] else [ind]).Nodup)
    (hnew : ∀ b ∈ data ++ (if ind = 0 then [] else [ind]), firstA img.length ≤ b ∧ b < img.length ∧ (b ∈ namedR (recI img r0.num) ∨ takenA img b = false))
    (htak : ∀ b : Nat, firstA img.length ≤ b → b < img.length → (takenA m b = true ↔ (takenA img b = true ∧ b ∉ namedR (recI img r0.num)) ∨ b ∈ data ++ (if ind = 0 then [] else [ind])))
    (htail : 0 < needN size → (blkI m (data.getD (needN size - 1) 0)).data.toList.drop (size - (needN size - 1) * 128) = List.replicate (128 - (size - (needN size - 1) * 128)) 0) :
    SoundQ (saveR m (nameR r0 size data ind)) ∧ recI (saveR m (nameR r0 size data ind)) r0.num = nameR r0 size data ind ∧ (∀ b, firstA img.length ≤ b → b ≠ ind → blkI (saveR m (nameR r0 size data ind)) b = blkI m b) := by
  have h8 : 8 ≤ m.length := hm.1.1
  have h5 : m.length ≤ 512 := hm.1.2
  have hn68 := need_le hsz
  have hv : SvP m (nameR r0 size data ind) := name_sv h5 hr0 (by rw [hl]; exact hnum) hsz hd hin fun b hb => by have := hnew b hb; rw [hl]; exact ⟨this.1, this.2.1⟩
  have hnm := namedR_name (r0 := r0) (ind := ind) hd hn68
  have hrec := save_rec h8 h5 hv
  have hblk := save_blk h8 h5 hv
  have hfar : ∀ b, firstA img.length ≤ b → b ≠ ind → blkI (saveR m (nameR r0 size data ind)) b = blkI m b := fun b hb hne => by
    have hlt := inode_lt hnum
    rw [hblk, if_neg (fun h => hne h.2), if_neg (show ¬ b = 2 + (nameR r0 size data ind).num / 4 by show ¬ b = 2 + r0.num / 4; omega)]
  have hrec' : recI (saveR m (nameR r0 size data ind)) r0.num = nameR r0 size data ind := hrec
  refine ⟨sound_one hs hnum (fit_save hm hv) (by rw [saveR_length, hl]) (fun i hi hne => ?_) ?_ ?_ ?_ ?_, hrec', hfar⟩
  · have ho := hoth i hi hne
    refine ⟨?_, fun b hb => ?_⟩
    · rw [save_raw h8 h5 hv (by rw [hl]; exact hi), if_neg (show ¬ i = (nameR r0 size data ind).num from hne)]; exact ho.1
    · have hF := (hs.named i hi b hb).1
      rw [hfar b hF (fun e => ?_), ho.2 b hb]
      by_cases h0 : ind = 0
      · have := (first_le (hl ▸ h8) (hl ▸ h5)).1; omega
      · have hin2 := hnew ind (List.mem_append_right _ (by rw [if_neg h0]; simp))
        subst e
        rcases hin2.2.2 with h | h
        · exact hs.apart i r0.num hi hnum hne b hb h
        · rw [(hs.named i hi b hb).2] at h; cases h
  · rw [hrec']
    have hraw : rawI (saveR m (nameR r0 size data ind)) (nameR r0 size data ind).num = textR (nameR r0 size data ind) := by
      rw [save_raw h8 h5 hv hv.num, if_pos rfl]
    have hdR := dataR_name (r0 := r0) (ind := ind) hd hn68
    have hself := name_self (r0 := r0) (ind := ind) hd hn68
    have hokR := hv.ok
    have hkd : (nameR r0 size data ind).kind = 1 ∨ (nameR r0 size data ind).kind = 2 := hk
    have hsz' : (nameR r0 size data ind).size = size := rfl
    have hid' : (nameR r0 size data ind).ind = ind := rfl
    unfold isFormI
    rw [if_neg (by omega), if_pos hkd, if_neg (by rw [hsz']; omega)]
    have hx1 : ¬ ((((nameR r0 size data ind).ind : Int) != 0) != decide (4 < needN (nameR r0 size data ind).size)) = true := by
      rw [hsz', hid']
      by_cases h4 : 4 < needN size
      · rw [decide_eq_true h4, show ((ind : Int) != 0) = true by rw [bne_iff_ne]; have := hin.1 h4; omega]; decide
      · rw [decide_eq_false h4, show ((ind : Int) != 0) = false by rw [show ind = 0 by have := mt hin.2 h4; omega]; rfl]; decide
    rw [if_neg hx1, if_neg (show ¬ (!decide (nameR r0 size data ind = nameR (nameR r0 size data ind) (nameR r0 size data ind).size (dataR (nameR r0 size data ind)) (nameR r0 size data ind).ind)) = true by rw [decide_eq_true hself]; decide), if_neg (fun h => h hraw.symm), decide_eq_true_eq]
    rw [zeroN_mkB, mkB_inj]
    rcases Nat.eq_zero_or_pos (needN size) with e | e
    · have : flatR (saveR m (nameR r0 size data ind)) (nameR r0 size data ind) = [] := by
        unfold flatR
        rw [hdR, List.eq_nil_of_length_eq_zero (l := data) (by omega)]; rfl
      rw [this]; simp
    · have hft := flat_tail (img := saveR m (nameR r0 size data ind)) hokR (by rw [hsz']; exact e) (by rw [hsz']; exact hsz)
      have hlen : ((flatR (saveR m (nameR r0 size data ind)) (nameR r0 size data ind)).drop (nameR r0 size data ind).size).length = (flatR (saveR m (nameR r0 size data ind)) (nameR r0 size data ind)).length - (nameR r0 size data ind).size := List.length_drop
      rw [← hlen, hft, hdR, hsz']
      have hlast : data.getD (needN size - 1) 0 ∈ data := by rw [List.getD_eq_getElem?_getD, List.getElem?_eq_getElem (by omega)]; exact List.getElem_mem _
      have hlF := (hnew _ (List.mem_append_left _ hlast)).1
      have hli : data.getD (needN size - 1) 0 ≠ ind := fun he => by
        by_cases h0 : ind = 0
        · have := (first_le (hl ▸ h8) (hl ▸ h5)).1; omega
        · rw [if_neg h0, List.nodup_append] at hone
          exact hone.2.2 _ hlast ind (by simp) he
      rw [hfar _ hlF hli, htail e, List.length_replicate]
  · rw [hrec', hnm]; exact hone
  · rw [hrec', hnm]; exact hnew
  · intro b h1 h2
    rw [hrec', hnm, taken_map (saveR_length m _) (map_save hm hv)]
    exact htak b h1 h2

end Go.Proofs.YtpdfkakhahfcjaaGreat
