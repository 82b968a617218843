/-
  An inode made.
-/
import Derived.Test.YtcfmpmcdfllibaaG19
import Derived.Test.YtcfmpmcdfllibaaG25
import Derived.Test.YtcfmpmcdfllibaaG31
import Derived.Test.YtcfmpmcdfllibaaG17
import Derived.Test.YtcfmpmcdfllibaaG03
import Derived.Deep.QuietTactic
import Derived.BigQuiet
import Derived.Test.YtcfmpmcdfllibaaG06
namespace Go.Proofs.Ytcfmpmcdfllibaa
open Go.RowKit

/-- The first free inode below k. -/
def freeI (img : List ByteArray) (k : Nat) : Option Nat := (List.range k).find? fun i => decide ((recI img i).kind = 0)
theorem freeI_none {img : List ByteArray} {k : Nat} : freeI img k = none ↔ ∀ i, i < k → (recI img i).kind ≠ 0 := by
  unfold freeI
  rw [List.find?_eq_none]
  simp
theorem freeI_here {img : List ByteArray} {k : Nat} (h : freeI img k = none) (h0 : (recI img k).kind = 0) {C : Nat} (hC : k < C) : freeI img C = some k := by
  have h1 : freeI img (k + 1) = some k := by
    unfold freeI at h ⊢
    rw [List.range_succ, List.find?_append, h]
    simp [h0]
  have key : ∀ m, freeI img (k + 1 + m) = some k := by
    intro m
    induction m with
    | zero => exact h1
    | succ m ih =>
      unfold freeI at ih ⊢
      rw [show k + 1 + (m + 1) = (k + 1 + m) + 1 by omega, List.range_succ, List.find?_append, ih]
      rfl
  have := key (C - (k + 1))
  rwa [show k + 1 + (C - (k + 1)) = C by omega] at this
def newI (img : List ByteArray) (x : Int) : List ByteArray × Nat × Int :=
  if x ≠ 1 ∧ x ≠ 2 then (img, 0, 21) else match freeI img (cntA img.length) with
  | some i => (saveR img { recI img i with kind := x.toNat }, i, 0)
  | none => (img, 0, 18)
/-- An image of the call's own, a number and an error. -/
def ImgNO (w w' : World) (img : List ByteArray) (i : Nat) (code : Int) (e : Ending) : Prop := ∃ g n c, e = .returned (.tuple #[.slice (some ⟨g, 0, none⟩) n c, .int .i64 (i : Int), .int .i64 code]) ∧ OwI w' w.heap.size g n c img ∧ n ≤ 512 ∧ Below w.heap.size w w'

theorem own_setCell_far {w : World} {base g n c k o : Nat} {img : List ByteArray} (h : OwI w base g n c img) (hne : k ≠ g) (u : Value) : OwI (w.setCell ⟨k, o, none⟩ u) base g n c img := by
  refine ⟨⟨h.own.1, ?_⟩, h.pos⟩
  rcases h.own.2 with h0 | ⟨g', cap, cur, e, h1, hh, h3⟩
  · exact .inl h0
  · refine .inr ⟨g', cap, cur, e, h1, ?_, h3⟩
    injection e with e1 e2 e3
    injection e1 with e1
    injection e1 with e1
    subst e1
    exact (Below.heap_setCell w ⟨k, o, none⟩ u g (Ne.symm hne)).trans hh
set_option maxRecDepth 100000 in
set_option maxHeartbeats 8000000 in
theorem newI_any (A : Option Addr) (n c : Nat) (img : List ByteArray) (x : Int) (w : World) (h : Reads w w.heap.size 1 A n (encS img)) (h8 : 8 ≤ n) (hn : n ≤ 512) :
    Calls Try.prog 19 #[.slice A n c, .int .i64 x] w fun e w' => ImgNO w w' (newI img x).1 (newI img x).2.1 (newI img x).2.2 e := by
  have hz := fun W => zero_run W
  have hl := h.lenS
  have ci := fun W => inodes_any A n c (by unfold maxLen; omega) W
  have hcn : cntA n ≤ 128 := by unfold cntA; omega
  have HB : Hid (newI img x = if x ≠ 1 ∧ x ≠ 2 then (img, 0, (21 : Int)) else match freeI img (cntA n) with | some i => (saveR img { recI img i with kind := x.toNat }, i, (0 : Int)) | none => (img, 0, (18 : Int))) := Lib.hid (by unfold newI; rw [hl])
  have hco := cloneS_any A n c img w h (by omega)
  have cl := fun (k : Nat) (hk : k ≤ 1024) W hW => load_any A n c img k hk W hW
  unfold valR at cl
  have HRI := Lib.hid (fun (k : Nat) (hk : k ≤ 1024) => recI_ok img k hk)
  have H := Lib.hid h
  clear h hl
  generalize cntA n = C at ci HB hcn
  by_cases hk : x ≠ 1 ∧ x ≠ 2
  · have HE : Hid (newI img x = (img, 0, 21)) := Lib.hid (by rw [HB.out, if_pos hk])
    have h1 : (x != 1) = true := by rw [bne_iff_ne]; exact hk.1
    have h2 : (x != 2) = true := by rw [bne_iff_ne]; exact hk.2
    clear hk
    go_enter Try.func19, Try.ntmps19
    go_wp2_with fail
    refine hco.mono ?_
    rintro e w1 ⟨A1, c1, rfl, ho1, hb1⟩
    obtain ⟨g, rfl, hO1⟩ := OwI.of ho1 (by omega)
    have HX := Lib.hid (And.intro hO1 hb1)
    clear ho1 hb1 hO1 hco
    go_wp2
    go_ret3
    rw [HE.out]
    exact ⟨g, n, c1, rfl, HX.out.1, hn, HX.out.2⟩
  obtain ⟨q, rfl, hq⟩ : ∃ q : Nat, x = q ∧ q ≤ 2 := ⟨x.toNat, by omega, by omega⟩
  have HE : Hid (newI img q = match freeI img C with | some i => (saveR img { recI img i with kind := q }, i, (0 : Int)) | none => (img, 0, (18 : Int))) := Lib.hid (by rw [HB.out, if_neg hk, Int.toNat_natCast])
  have hor : ((q : Int) != 1) = false ∨ (((q : Int) != 1) = true ∧ ((q : Int) != 2) = false) := by
    by_cases e : (q : Int) = 1
    · left; rw [e]; rfl
    · right; exact ⟨by rw [bne_iff_ne]; exact e, by rw [show (q : Int) = 2 by omega]; rfl⟩
  clear hk HB
  rcases hor with h1 | ⟨h1, h2⟩
  · skip
    go_enter Try.func19, Try.ntmps19
    go_wp2_with fail
    refine hco.mono ?_
    rintro e w1 ⟨A1, c1, rfl, ho1, hb1⟩
    obtain ⟨g, rfl, hO1⟩ := OwI.of ho1 (by omega)
    have HX := Lib.hid (And.intro hO1 hb1)
    clear ho1 hb1 hO1 hco
    go_wp2_with (go_at_call 24; refine (ci _).mono ?_; rintro e w2 ⟨rfl, rfl⟩)
    go_loopg [8, 9, 21] C (fun gk s8 s9 s21 wr => ∃ k : Nat, k ≤ C ∧ C - k ≤ gk ∧ s21 = .int .i64 k ∧ Hid (OwI wr w.heap.size g n c1 img ∧ Below w.heap.size w wr) ∧ Hid (freeI img k = none))
    case atStart => exact ⟨0, Nat.zero_le _, by omega, rfl, HX, Lib.hid rfl⟩
    case round =>
      clear HX
      obtain ⟨k, hkC, hgk, rfl, J, F⟩ := hrel
      by_cases hlt : k < C
      · have hkl : (k : Int) < (C : Int) := by omega
        have hk1024 : k ≤ 1024 := by omega
        have HR := Lib.hid (HRI.out k hk1024)
        have HFK := Lib.hid (fun h0 => freeI_here F.out h0 hlt)
        have HFN : Hid ((recI img k).kind ≠ 0 → freeI img (k + 1) = none) := Lib.hid fun h0 => freeI_none.2 fun i hi => by
          by_cases e : i = k
          · subst e; exact h0
          · exact freeI_none.1 F.out i (by omega)
        have clk := cl k hk1024 wr (H.out.step J.out.2)
        have HEK : Hid (freeI img C = some k → newI img q = (saveR img { recI img k with kind := q }, k, 0)) := Lib.hid fun e => by rw [HE.out, e]
        generalize recI img k = r at HR HFK HFN clk HEK
        go_wp2_with fail
        refine clk.mono ?_
        rintro e w2 ⟨rfl, hb2⟩
        have B2 := (BR.new w2 (zeroR 0)).setRow r
        have bs2 : Below w2.heap.size w2 ((w2.alloc (.cells (cellsR (zeroR 0)).toArray 55)).setRow w2.heap.size (cellsR r).toArray) := ((Below.refl _ w2).alloc (Nat.le_refl _) _).trans (below_setRow _ (Nat.le_refl _) _)
        have JN := Lib.hid (And.intro ((J.out.1.step hb2).step bs2) (bstep J.out.2 (bstep hb2 bs2)))
        have hg2 : g < w2.heap.size := Nat.lt_of_lt_of_le J.out.1.lt hb2.size
        have HB2 := Lib.hid B2
        have hkc := B2.kind
        have hfc := B2.free 1
        clear hb2 bs2 B2 clk J
        by_cases h0 : r.kind = 0
        · have hb0 : ((r.kind : Int) == 0) = true := by rw [h0]; rfl
          have HE2 := Lib.hid (HEK.out (HFK.out h0))
          clear h0
          have hne : w2.heap.size ≠ g := by omega
          have HR9 : Hid (OkR { r with kind := q }) := Lib.hid ⟨HR.out.bl, HR.out.ls, HR.out.num, by show q ≤ 255; omega, HR.out.size, HR.out.ind⟩
          have S2 := HB2.out.setKind q
          have HS : Hid (BR (((w2.alloc (.cells (cellsR (zeroR 0)).toArray 55)).setRow w2.heap.size (cellsR r).toArray).setCell ⟨w2.heap.size, 1, none⟩ (.int .i64 (q : Int))) w2.heap.size { r with kind := q } ∧ OwI (((w2.alloc (.cells (cellsR (zeroR 0)).toArray 55)).setRow w2.heap.size (cellsR r).toArray).setCell ⟨w2.heap.size, 1, none⟩ (.int .i64 (q : Int))) w.heap.size g n c1 img ∧ Below w.heap.size w (((w2.alloc (.cells (cellsR (zeroR 0)).toArray 55)).setRow w2.heap.size (cellsR r).toArray).setCell ⟨w2.heap.size, 1, none⟩ (.int .i64 (q : Int)))) :=
            Lib.hid ⟨S2, own_setCell_far JN.out.1 hne _, JN.out.2.setCell (p := ⟨w2.heap.size, 1, none⟩) (Nat.le_trans JN.out.1.ge (Nat.le_of_lt hg2)) _⟩
          have cs := saveR_any { r with kind := q } HR9.out w.heap.size g n c1 img _ HS.out.2.1
          unfold valR at cs
          clear S2
          go_wp2_with (first | (refine wpList_store_row rfl _ _ _ rfl w2.heap.size (cellsR r).toArray rfl rfl _ (cellsR (zeroR 0)).toArray (heap_alloc_new w2 _) (sizeRr HR.out) (holdR okz HR.out) (all_oneCell_toArray (cellsR_one _)) ?_) | (refine wpList_load_mid rfl _ _ rfl w2.heap.size 0 rfl (cellsR { r with kind := q }) _ HS.out.1.range Try.underlying55 rfl (by rw [cellsR_length HR9.out]; exact sizeR) ?_))
          refine cs.mono ?_
          rintro e w5 ⟨rfl, hO5, hbt⟩
          have HV := Lib.hid (And.intro hO5 (HS.out.2.2.trans (hbt.to_below (B := w.heap.size) HS.out.2.1.ge HS.out.2.2.size)))
          clear hO5 hbt cs
          go_wp2
          go_ret3
          rw [HE2.out]
          exact ⟨g, n, c1, rfl, HV.out.1, hn, HV.out.2⟩
        · have hb0 : ((r.kind : Int) == 0) = false := by rw [beq_eq_false_iff_ne]; omega
          have FN := Lib.hid (HFN.out h0)
          clear h0
          go_wp2_with (refine wpList_store_row rfl _ _ _ rfl w2.heap.size (cellsR r).toArray rfl rfl _ (cellsR (zeroR 0)).toArray (heap_alloc_new w2 _) (sizeRr HR.out) (holdR okz HR.out) (all_oneCell_toArray (cellsR_one _)) ?_)
          go_roundg (C - (k + 1))
          case measure => omega
          case rel => exact ⟨k + 1, by omega, by omega, by go_num, JN, FN⟩
      · have : k = C := by omega
        subst this
        have HE2 : Hid (newI img q = (img, 0, 18)) := Lib.hid (by rw [HE.out, F.out])
        go_wp2
        go_ret3
        rw [HE2.out]
        exact ⟨g, n, c1, rfl, J.out.1, hn, J.out.2⟩
  · skip
    go_enter Try.func19, Try.ntmps19
    go_wp2_with fail
    refine hco.mono ?_
    rintro e w1 ⟨A1, c1, rfl, ho1, hb1⟩
    obtain ⟨g, rfl, hO1⟩ := OwI.of ho1 (by omega)
    have HX := Lib.hid (And.intro hO1 hb1)
    clear ho1 hb1 hO1 hco
    go_wp2_with (go_at_call 24; refine (ci _).mono ?_; rintro e w2 ⟨rfl, rfl⟩)
    go_loopg [8, 9, 21] C (fun gk s8 s9 s21 wr => ∃ k : Nat, k ≤ C ∧ C - k ≤ gk ∧ s21 = .int .i64 k ∧ Hid (OwI wr w.heap.size g n c1 img ∧ Below w.heap.size w wr) ∧ Hid (freeI img k = none))
    case atStart => exact ⟨0, Nat.zero_le _, by omega, rfl, HX, Lib.hid rfl⟩
    case round =>
      clear HX
      obtain ⟨k, hkC, hgk, rfl, J, F⟩ := hrel
      by_cases hlt : k < C
      · have hkl : (k : Int) < (C : Int) := by omega
        have hk1024 : k ≤ 1024 := by omega
        have HR := Lib.hid (HRI.out k hk1024)
        have HFK := Lib.hid (fun h0 => freeI_here F.out h0 hlt)
        have HFN : Hid ((recI img k).kind ≠ 0 → freeI img (k + 1) = none) := Lib.hid fun h0 => freeI_none.2 fun i hi => by
          by_cases e : i = k
          · subst e; exact h0
          · exact freeI_none.1 F.out i (by omega)
        have clk := cl k hk1024 wr (H.out.step J.out.2)
        have HEK : Hid (freeI img C = some k → newI img q = (saveR img { recI img k with kind := q }, k, 0)) := Lib.hid fun e => by rw [HE.out, e]
        generalize recI img k = r at HR HFK HFN clk HEK
        go_wp2_with fail
        refine clk.mono ?_
        rintro e w2 ⟨rfl, hb2⟩
        have B2 := (BR.new w2 (zeroR 0)).setRow r
        have bs2 : Below w2.heap.size w2 ((w2.alloc (.cells (cellsR (zeroR 0)).toArray 55)).setRow w2.heap.size (cellsR r).toArray) := ((Below.refl _ w2).alloc (Nat.le_refl _) _).trans (below_setRow _ (Nat.le_refl _) _)
        have JN := Lib.hid (And.intro ((J.out.1.step hb2).step bs2) (bstep J.out.2 (bstep hb2 bs2)))
        have hg2 : g < w2.heap.size := Nat.lt_of_lt_of_le J.out.1.lt hb2.size
        have HB2 := Lib.hid B2
        have hkc := B2.kind
        have hfc := B2.free 1
        clear hb2 bs2 B2 clk J
        by_cases h0 : r.kind = 0
        · have hb0 : ((r.kind : Int) == 0) = true := by rw [h0]; rfl
          have HE2 := Lib.hid (HEK.out (HFK.out h0))
          clear h0
          have hne : w2.heap.size ≠ g := by omega
          have HR9 : Hid (OkR { r with kind := q }) := Lib.hid ⟨HR.out.bl, HR.out.ls, HR.out.num, by show q ≤ 255; omega, HR.out.size, HR.out.ind⟩
          have S2 := HB2.out.setKind q
          have HS : Hid (BR (((w2.alloc (.cells (cellsR (zeroR 0)).toArray 55)).setRow w2.heap.size (cellsR r).toArray).setCell ⟨w2.heap.size, 1, none⟩ (.int .i64 (q : Int))) w2.heap.size { r with kind := q } ∧ OwI (((w2.alloc (.cells (cellsR (zeroR 0)).toArray 55)).setRow w2.heap.size (cellsR r).toArray).setCell ⟨w2.heap.size, 1, none⟩ (.int .i64 (q : Int))) w.heap.size g n c1 img ∧ Below w.heap.size w (((w2.alloc (.cells (cellsR (zeroR 0)).toArray 55)).setRow w2.heap.size (cellsR r).toArray).setCell ⟨w2.heap.size, 1, none⟩ (.int .i64 (q : Int)))) :=
            Lib.hid ⟨S2, own_setCell_far JN.out.1 hne _, JN.out.2.setCell (p := ⟨w2.heap.size, 1, none⟩) (Nat.le_trans JN.out.1.ge (Nat.le_of_lt hg2)) _⟩
          have cs := saveR_any { r with kind := q } HR9.out w.heap.size g n c1 img _ HS.out.2.1
          unfold valR at cs
          clear S2
          go_wp2_with (first | (refine wpList_store_row rfl _ _ _ rfl w2.heap.size (cellsR r).toArray rfl rfl _ (cellsR (zeroR 0)).toArray (heap_alloc_new w2 _) (sizeRr HR.out) (holdR okz HR.out) (all_oneCell_toArray (cellsR_one _)) ?_) | (refine wpList_load_mid rfl _ _ rfl w2.heap.size 0 rfl (cellsR { r with kind := q }) _ HS.out.1.range Try.underlying55 rfl (by rw [cellsR_length HR9.out]; exact sizeR) ?_))
          refine cs.mono ?_
          rintro e w5 ⟨rfl, hO5, hbt⟩
          have HV := Lib.hid (And.intro hO5 (HS.out.2.2.trans (hbt.to_below (B := w.heap.size) HS.out.2.1.ge HS.out.2.2.size)))
          clear hO5 hbt cs
          go_wp2
          go_ret3
          rw [HE2.out]
          exact ⟨g, n, c1, rfl, HV.out.1, hn, HV.out.2⟩
        · have hb0 : ((r.kind : Int) == 0) = false := by rw [beq_eq_false_iff_ne]; omega
          have FN := Lib.hid (HFN.out h0)
          clear h0
          go_wp2_with (refine wpList_store_row rfl _ _ _ rfl w2.heap.size (cellsR r).toArray rfl rfl _ (cellsR (zeroR 0)).toArray (heap_alloc_new w2 _) (sizeRr HR.out) (holdR okz HR.out) (all_oneCell_toArray (cellsR_one _)) ?_)
          go_roundg (C - (k + 1))
          case measure => omega
          case rel => exact ⟨k + 1, by omega, by omega, by go_num, JN, FN⟩
      · have : k = C := by omega
        subst this
        have HE2 : Hid (newI img q = (img, 0, 18)) := Lib.hid (by rw [HE.out, F.out])
        go_wp2
        go_ret3
        rw [HE2.out]
        exact ⟨g, n, c1, rfl, J.out.1, hn, J.out.2⟩

end Go.Proofs.Ytcfmpmcdfllibaa

/-
  The chapter's example, reckoned.
-/
namespace Go.Proofs.Ytcfmpmcdfllibaa
open Go.RowKit

def exM : List ByteArray := (makeA 16).1
def exN : List ByteArray := (newI exM 1).1
def exW : List ByteArray := (writeI exN 0 130 ⟨#[120]⟩).1
def exR : ByteArray := (readI exW 0).1
def exT : List ByteArray := (truncI exW 0 0).1
theorem ex5_1 : makeA 16 = (exM, 0) := by
  refine Prod.ext rfl ?_
  decide +kernel
theorem ex5_2 : (newI exM 1).2 = (0, 0) := by decide +kernel
theorem ex5_3 : (writeI exN 0 130 ⟨#[120]⟩).2 = 0 := by decide +kernel
theorem ex5_4 : (readI exW 0).2 = 0 := by decide +kernel
theorem ex5_5 : exR.data.toList = List.replicate 130 0 ++ [120] := by decide +kernel
theorem ex5_6 : (truncI exW 0 0).2 = 0 := by decide +kernel
theorem ex5_7 : exT.length = 16 ∧ exM.length = 16 ∧ exN.length = 16 ∧ exW.length = 16 := by decide +kernel
theorem ex5_8 : (freeA exT).length = 13 := by decide +kernel
theorem ex5_9 : blksN exW 0 = [3, 4] := by decide +kernel
theorem ex5_10 : soundI exW = true := by decide +kernel
theorem ex5_11 : soundI [] = false := by decide +kernel
theorem ex5_m0 : MapP exM := by unfold MapP; decide +kernel
theorem ex5_m1 : MapP exN := by unfold MapP; decide +kernel
theorem ex5_m2 : MapP exW := by unfold MapP; decide +kernel
theorem ex5_m3 : MapP exT := by unfold MapP; decide +kernel
end Go.Proofs.Ytcfmpmcdfllibaa

/-
  Where two images differ: the document's function and the program's.
-/
namespace Go.Proofs.Ytcfmpmcdfllibaa
open Go.RowKit

def cutL (a b : List ByteArray) (i : Nat) : List Nat := (List.range i).filter fun i => decide (a[i]? ≠ b[i]?)
theorem cutL_no {a b : List ByteArray} {i : Nat} (h : a[i]? = b[i]?) : cutL a b (i + 1) = cutL a b i := by simp [cutL, List.range_succ, h]
theorem cutL_yes {a b : List ByteArray} {i : Nat} (h : a[i]? ≠ b[i]?) : cutL a b (i + 1) = cutL a b i ++ [i] := by simp [cutL, List.range_succ, h]

set_option maxRecDepth 100000 in
set_option maxHeartbeats 2000000 in
theorem refChanged_any (A A' : Option Addr) (n c m c' : Nat) (a b : List ByteArray) (w : World) (ha : Reads w w.heap.size 1 A n (encS a)) (hb : Reads w w.heap.size 1 A' m (encS b)) (hn : n * 16 ≤ 140737488355328) (hm : m * 16 ≤ 140737488355328) :
    Calls Try.prog 46 #[.slice A n c, .slice A' m c'] w fun e w' => ∃ A2 c2, e = .returned (.slice A2 (changedL a b).length c2) ∧ w'.ownsRow w.heap.size 3 1 (.slice A2 (changedL a b).length c2) (changedL a b).length (encN (changedL a b)) ∧ Below w.heap.size w w' := by
  obtain ⟨i0, hi0, hz0, hz1, hz2⟩ := info_parts infoI
  have H1 := Lib.hid ha
  have H2 := Lib.hid hb
  have HL := Lib.hid (And.intro ha.lenS hb.lenS)
  clear ha hb
  have HM : Hid (changedL a b = cutL a b (max n m)) := Lib.hid (by rw [← HL.out.1, ← HL.out.2]; rfl)
  rw [HM.out]
  obtain ⟨M, hM⟩ : ∃ M, M = max n m := ⟨_, rfl⟩
  rw [← hM]
  have hnM : n ≤ M := by omega
  have hmM : m ≤ M := by omega
  have hMM : M = n ∨ M = m := by omega
  have hmx : max (n : Int) (m : Int) = (M : Int) := by omega
  have HMM := Lib.hid hM
  clear hM HM
  go_enter Try.func46, Try.ntmps46
  go_wp2
  go_loopg [5, 6] M (fun g s5 s6 wr => ∃ (i k : Nat) (A2 : Option Addr) (c2 : Nat), i ≤ M ∧ M - i ≤ g ∧ s6 = .int .i64 i ∧ s5 = .slice A2 k c2 ∧ k ≤ i ∧ Hid (k = (cutL a b i).length ∧ wr.ownsRow w.heap.size 3 1 (.slice A2 k c2) k (encN (cutL a b i)) ∧ Below w.heap.size w wr))
  case atStart => exact ⟨0, 0, none, 0, Nat.zero_le _, by omega, rfl, rfl, Nat.le_refl _, Lib.hid ⟨rfl, own_nil, Below.refl _ _⟩⟩
  case round =>
    obtain ⟨i, k, A2, c2, hi, hg, rfl, rfl, hki, J⟩ := hrel
    by_cases hlt : i < M
    · have hiM : (i : Int) < (M : Int) := by omega
      by_cases hin : i < n
      · have hin' : (i : Int) < (n : Int) := by omega
        have hin2 : ¬ (n : Int) ≤ (i : Int) := by omega
        by_cases him : i < m
        · have him' : (i : Int) < (m : Int) := by omega
          have him2 : ¬ (m : Int) ≤ (i : Int) := by omega
          obtain ⟨b1, o1, rfl, _, g1⟩ := (H1.out.below J.out.2.2).str hin
          obtain ⟨b2, o2, rfl, _, g2⟩ := (H2.out.below J.out.2.2).str him
          have e1 := blk_get (bs := a) (k := i) (by rw [HL.out.1]; exact hin)
          have e2 := blk_get (bs := b) (k := i) (by rw [HL.out.2]; exact him)
          generalize blk a i = x at g1 e1
          generalize blk b i = y at g2 e2
          by_cases hxy : x = y
          · have HN : Hid (cutL a b (i + 1) = cutL a b i) := Lib.hid (cutL_no (by rw [e1, e2, hxy]))
            have ht := bytes_same hxy
            clear hxy e1 e2
            go_wp2_with fail
            go_quiet (fail)
            go_wp2
            go_roundg (M - (i + 1))
            case measure => omega
            case rel => exact ⟨i + 1, k, A2, c2, by omega, by omega, by go_num, rfl, by omega, Lib.hid (by rw [HN.out]; exact ⟨J.out.1, J.out.2.1, below_drewN J.out.2.2 nq⟩)⟩
          · have HN : Hid (cutL a b (i + 1) = cutL a b i ++ [i]) := Lib.hid (cutL_yes (by rw [e1, e2]; exact fun h => hxy (Option.some.inj h)))
            have ht := bytes_other hxy
            clear hxy e1 e2
            go_wp2_with fail
            go_quiet (fail)
            go_wp2_with (at_builtin; refine wpList_append_reads _ rfl (.tmp 40) (.tmp 42) 38 rfl w.heap.size 3 i0 _ 1 8 Try.underlying38 hi0 hz0 hz1 hz2 rfl (by omega) (.slice A2 k c2) k (encN (cutL a b i)) rfl (own_alloc (w := (wr.drewN nq)) J.out.2.1 _) _ (some ⟨wr.heap.size, 0, none⟩) 1 1 [.int .i64 (i : Int)] rfl (reads_new (wr.drewN nq) #[.int .i64 (i : Int)] 3 1 1 rfl) (by simp [Value.oneCell']) (by simp only [maxLen]; omega) (by omega) (by have := J.out.2.2.size; simp; omega) ?_; intro A6 c6 w6 ho6 hg6 _)
            have JN : Hid (k + 1 = (cutL a b (i + 1)).length ∧ w6.ownsRow w.heap.size 3 1 (.slice A6 (k + 1) c6) (k + 1) (encN (cutL a b (i + 1))) ∧ Below w.heap.size w w6) :=
              Lib.hid ⟨by rw [HN.out, List.length_append, ← J.out.1]; rfl, by rw [HN.out, encN_app]; exact ho6, ((below_drewN J.out.2.2 nq).alloc J.out.2.2.size _).grown hg6 (by have := J.out.2.2.size; simp; omega) (fun q hq => by have := own_row_ge J.out.2.1 _ hq; omega)⟩
            go_roundg (M - (i + 1))
            case measure => omega
            case rel => exact ⟨i + 1, k + 1, A6, c6, by omega, by omega, by go_num, rfl, by omega, JN⟩
        · have him2 : m ≤ i := by omega
          have hd1 : decide (m ≤ i) = true := decide_eq_true him2
          have hd2 : decide (n ≤ i) = false := decide_eq_false (by omega)
          have HN : Hid (cutL a b (i + 1) = cutL a b i ++ [i]) := Lib.hid (cutL_yes (by rw [List.getElem?_eq_none (l := b) (by rw [HL.out.2]; omega), List.getElem?_eq_getElem (l := a) (by rw [HL.out.1]; omega)]; simp))
          go_wp2_with fail
          go_quiet (fail)
          go_wp2_with (at_builtin; refine wpList_append_reads _ rfl (.tmp 40) (.tmp 42) 38 rfl w.heap.size 3 i0 _ 1 8 Try.underlying38 hi0 hz0 hz1 hz2 rfl (by omega) (.slice A2 k c2) k (encN (cutL a b i)) rfl (own_alloc (w := (wr.drewN nq)) J.out.2.1 _) _ (some ⟨wr.heap.size, 0, none⟩) 1 1 [.int .i64 (i : Int)] rfl (reads_new (wr.drewN nq) #[.int .i64 (i : Int)] 3 1 1 rfl) (by simp [Value.oneCell']) (by simp only [maxLen]; omega) (by omega) (by have := J.out.2.2.size; simp; omega) ?_; intro A6 c6 w6 ho6 hg6 _)
          have JN : Hid (k + 1 = (cutL a b (i + 1)).length ∧ w6.ownsRow w.heap.size 3 1 (.slice A6 (k + 1) c6) (k + 1) (encN (cutL a b (i + 1))) ∧ Below w.heap.size w w6) :=
            Lib.hid ⟨by rw [HN.out, List.length_append, ← J.out.1]; rfl, by rw [HN.out, encN_app]; exact ho6, ((below_drewN J.out.2.2 nq).alloc J.out.2.2.size _).grown hg6 (by have := J.out.2.2.size; simp; omega) (fun q hq => by have := own_row_ge J.out.2.1 _ hq; omega)⟩
          go_roundg (M - (i + 1))
          case measure => omega
          case rel => exact ⟨i + 1, k + 1, A6, c6, by omega, by omega, by go_num, rfl, by omega, JN⟩
      · have hin2 : n ≤ i := by omega
        have hd1 : decide (n ≤ i) = true := decide_eq_true hin2
        have him : i < m := by omega
        have him' : (i : Int) < (m : Int) := by omega
        have HN : Hid (cutL a b (i + 1) = cutL a b i ++ [i]) := Lib.hid (cutL_yes (by rw [List.getElem?_eq_none (l := a) (by rw [HL.out.1]; omega), List.getElem?_eq_getElem (l := b) (by rw [HL.out.2]; omega)]; simp))
        go_wp2_with fail
        go_quiet (fail)
        go_wp2_with (at_builtin; refine wpList_append_reads _ rfl (.tmp 40) (.tmp 42) 38 rfl w.heap.size 3 i0 _ 1 8 Try.underlying38 hi0 hz0 hz1 hz2 rfl (by omega) (.slice A2 k c2) k (encN (cutL a b i)) rfl (own_alloc (w := (wr.drewN nq)) J.out.2.1 _) _ (some ⟨wr.heap.size, 0, none⟩) 1 1 [.int .i64 (i : Int)] rfl (reads_new (wr.drewN nq) #[.int .i64 (i : Int)] 3 1 1 rfl) (by simp [Value.oneCell']) (by simp only [maxLen]; omega) (by omega) (by have := J.out.2.2.size; simp; omega) ?_; intro A6 c6 w6 ho6 hg6 _)
        have JN : Hid (k + 1 = (cutL a b (i + 1)).length ∧ w6.ownsRow w.heap.size 3 1 (.slice A6 (k + 1) c6) (k + 1) (encN (cutL a b (i + 1))) ∧ Below w.heap.size w w6) :=
          Lib.hid ⟨by rw [HN.out, List.length_append, ← J.out.1]; rfl, by rw [HN.out, encN_app]; exact ho6, ((below_drewN J.out.2.2 nq).alloc J.out.2.2.size _).grown hg6 (by have := J.out.2.2.size; simp; omega) (fun q hq => by have := own_row_ge J.out.2.1 _ hq; omega)⟩
        go_roundg (M - (i + 1))
        case measure => omega
        case rel => exact ⟨i + 1, k + 1, A6, c6, by omega, by omega, by go_num, rfl, by omega, JN⟩
    · have : i = M := by omega
      subst this
      have hnot : ¬ (i : Int) < (n : Int) := by omega
      have hnot2 : ¬ (i : Int) < (m : Int) := by omega
      go_wp2
      go_ret
      obtain ⟨j1, j2, j3⟩ := J.out
      rw [← j1]
      exact ⟨A2, c2, rfl, j2, j3⟩


end Go.Proofs.Ytcfmpmcdfllibaa

/-
  The reference's comparisons of texts and of numbers.
-/
namespace Go.Proofs.Ytcfmpmcdfllibaa
open Go.RowKit

theorem changedL_zero {a b : List ByteArray} (h : a.length = b.length) : (changedL a b).length = 0 ↔ a = b := by
  unfold changedL
  rw [List.length_eq_zero_iff, List.filter_eq_nil_iff]
  constructor
  · intro hall
    refine List.ext_getElem? fun i => ?_
    by_cases hi : i < a.length
    · have := hall i (List.mem_range.2 (by omega))
      simpa using this
    · rw [List.getElem?_eq_none (by omega), List.getElem?_eq_none (by omega)]
  · rintro rfl i _
    simp

set_option maxRecDepth 100000 in
set_option maxHeartbeats 1000000 in
theorem refTexts_any (A A' : Option Addr) (n c m c' : Nat) (a b : List ByteArray) (w : World) (ha : Reads w w.heap.size 1 A n (encS a)) (hb : Reads w w.heap.size 1 A' m (encS b)) (hn : n * 16 ≤ 140737488355328) (hm : m * 16 ≤ 140737488355328) :
    Calls Try.prog 18 #[.slice A n c, .slice A' m c'] w fun e w' => e = .returned (.bool (decide (a = b))) ∧ Below w.heap.size w w' := by
  have hla := ha.lenS
  have hlb := hb.lenS
  by_cases hnm : n = m
  · have ht : ((n : Int) == (m : Int)) = true := by rw [hnm]; exact beq_self_eq_true _
    have cc := refChanged_any A A' n c m c' a b w ha hb hn hm
    have HZ := Lib.hid (changedL_zero (a := a) (b := b) (by omega))
    obtain ⟨k, hk⟩ : ∃ k, k = (changedL a b).length := ⟨_, rfl⟩
    rw [← hk] at cc HZ
    by_cases hk0 : k = 0
    · have HD : Hid (decide (a = b) = true) := Lib.hid (decide_eq_true (HZ.out.1 hk0))
      rw [HD.out]
      have hk1 : ((k : Int) == 0) = true := by rw [hk0]; rfl
      clear ha hb hla hlb hnm hk hk0
      go_enter Try.func18, Try.ntmps18
      go_wp2_with (go_at_call 46; refine cc.mono ?_; rintro e w1 ⟨A2, c2, rfl, ho1, hb1⟩)
      go_ret
      exact ⟨rfl, hb1⟩
    · have HD : Hid (decide (a = b) = false) := Lib.hid (decide_eq_false (fun e => hk0 (HZ.out.2 e)))
      rw [HD.out]
      have hk1 : ((k : Int) == 0) = false := by rw [beq_eq_false_iff_ne]; omega
      clear ha hb hla hlb hnm hk
      go_enter Try.func18, Try.ntmps18
      go_wp2_with (go_at_call 46; refine cc.mono ?_; rintro e w1 ⟨A2, c2, rfl, ho1, hb1⟩)
      go_ret
      exact ⟨rfl, hb1⟩
  · have ht : ((n : Int) == (m : Int)) = false := by rw [beq_eq_false_iff_ne]; omega
    have HD : Hid (decide (a = b) = false) := Lib.hid (decide_eq_false (fun e => hnm (by rw [← hla, ← hlb, e])))
    rw [HD.out]
    clear ha hb hla hlb
    go_enter Try.func18, Try.ntmps18
    go_wp2
    go_ret
    exact ⟨rfl, Below.refl _ _⟩

set_option maxRecDepth 100000 in
set_option maxHeartbeats 1000000 in
theorem refInts_any (A A' : Option Addr) (n c m c' : Nat) (a b : List Nat) (w : World) (ha : Reads w w.heap.size 1 A n (encN a)) (hb : Reads w w.heap.size 1 A' m (encN b)) (hn : n ≤ 17592186044416) (hm : m ≤ 17592186044416) :
    Calls Try.prog 14 #[.slice A n c, .slice A' m c'] w fun e w' => e = .returned (.bool (decide (a = b))) ∧ ∃ q, w' = w.drewN q := by
  have HA := Lib.hid ha
  have HB := Lib.hid hb
  have HL := Lib.hid (And.intro ha.lenN hb.lenN)
  clear ha hb
  by_cases hnm : n = m
  · subst hnm
    have ht : ((n : Int) != (n : Int)) = false := by simp
    obtain ⟨r, hr⟩ : ∃ r, r = decide (a = b) := ⟨_, rfl⟩
    rw [← hr]
    have HR := Lib.hid hr
    clear hr
    go_enter Try.func14, Try.ntmps14
    go_wp2
    go_loopg [5] n (fun g s5 wr => ∃ i q : Nat, i ≤ n ∧ n - i ≤ g ∧ s5 = .int .i64 i ∧ w.drewN q = wr ∧ Hid (∀ k, k < i → a.getD k 0 = b.getD k 0))
    case atStart => exact ⟨0, 0, Nat.zero_le _, by omega, rfl, rfl, Lib.hid fun k hk => absurd hk (Nat.not_lt_zero _)⟩
    case round =>
      obtain ⟨i, q, hi, hg, rfl, rfl, J⟩ := hrel
      by_cases hlt : i < n
      · have hin : (i : Int) < (n : Int) := by omega
        obtain ⟨b1, o1, rfl, _, g1⟩ := HA.out.nat hlt
        obtain ⟨b2, o2, rfl, _, g2⟩ := HB.out.nat hlt
        by_cases hxy : a.getD i 0 = b.getD i 0
        · have JN : Hid (∀ k, k < i + 1 → a.getD k 0 = b.getD k 0) := Lib.hid fun k hk => by
            by_cases e : k = i
            · rw [e]; exact hxy
            · exact J.out k (by omega)
          rw [← hxy] at g2
          generalize a.getD i 0 = x at g1 g2
          have hx : ((x : Int) != (x : Int)) = false := by simp
          clear hxy
          go_wp2_with fail
          go_quiet (fail)
          go_wp2
          go_roundg (n - (i + 1))
          case measure => omega
          case rel => exact ⟨i + 1, q + nq, by omega, by omega, by go_num, rfl, JN⟩
        · have HE : Hid (r = false) := Lib.hid (HR.out.trans (decide_eq_false (fun e => hxy (by rw [e]))))
          have hx : (((a.getD i 0 : Nat) : Int) != ((b.getD i 0 : Nat) : Int)) = true := by simp only [bne_iff_ne, ne_eq]; omega
          generalize a.getD i 0 = x at g1 hx
          generalize b.getD i 0 = y at g2 hx
          clear hxy
          go_wp2_with fail
          go_quiet (fail)
          go_wp2
          go_ret
          rw [HE.out]
          exact ⟨rfl, q + nq, World.drewN_drewN _ _ _⟩
      · have : i = n := by omega
        subst this
        have HE : Hid (r = true) := Lib.hid (HR.out.trans (decide_eq_true (by
          refine List.ext_getElem? fun k => ?_
          by_cases hk : k < i
          · have := J.out k hk
            rw [List.getD_eq_getElem?_getD, List.getD_eq_getElem?_getD] at this
            rw [List.getElem?_eq_getElem (by rw [HL.out.1]; exact hk), List.getElem?_eq_getElem (by rw [HL.out.2]; exact hk)] at this ⊢
            simpa using this
          · rw [List.getElem?_eq_none (by rw [HL.out.1]; omega), List.getElem?_eq_none (by rw [HL.out.2]; omega)])))
        go_wp2
        go_ret
        rw [HE.out]
        exact ⟨rfl, q, rfl⟩
  · have ht : ((n : Int) != (m : Int)) = true := by simp only [bne_iff_ne, ne_eq]; omega
    have HD : Hid (decide (a = b) = false) := Lib.hid (decide_eq_false (fun e => hnm (by rw [← HL.out.1, ← HL.out.2, e])))
    rw [HD.out]
    go_enter Try.func14, Try.ntmps14
    go_wp2
    go_ret
    exact ⟨rfl, 0, rfl⟩

end Go.Proofs.Ytcfmpmcdfllibaa

/-
  What is read from step to step.
-/
namespace Go.Proofs.Ytcfmpmcdfllibaa
open Go.RowKit

/-- What is read from step to step: slices that read as lists of cells. -/
structure Bag (w0 w : World) (T : List (Option Addr × Nat × List Value)) : Prop where
  reads : ∀ t ∈ T, Reads w w.heap.size 1 t.1 t.2.1 t.2.2
  below : Below w0.heap.size w0 w
section
variable {w0 w w' : World} {T : List (Option Addr × Nat × List Value)} {A : Option Addr} {n : Nat} {xs : List Value}
theorem Bag.nil (w : World) : Bag w w [] := ⟨fun _ h => absurd h (by simp), Below.refl _ _⟩
theorem Bag.step (h : Bag w0 w T) (hb : Below w.heap.size w w') : Bag w0 w' T := ⟨fun t ht => (h.reads t ht).step hb, bstep h.below hb⟩
theorem Bag.add (h : Bag w0 w T) (hr : Reads w w.heap.size 1 A n xs) : Bag w0 w ((A, n, xs) :: T) := ⟨fun t ht => by
  rcases List.mem_cons.1 ht with rfl | ht
  · exact hr
  · exact h.reads t ht, h.below⟩
theorem Bag.drewN (h : Bag w0 w T) (q : Nat) : Bag w0 (w.drewN q) T := ⟨fun t ht => h.reads t ht, below_drewN h.below q⟩
theorem Bag.get (h : Bag w0 w T) (A : Option Addr) (n : Nat) (xs : List Value) (hm : (A, n, xs) ∈ T) : Reads w w.heap.size 1 A n xs := h.reads _ hm
end
theorem reads_lit {w : World} {e : TypeId} (l : List Int) (cs : Array Value) (n : Nat) (h : cs.toList = encI l) (hn : cs.size = n) : Reads (w.alloc (.cells cs e)) (w.alloc (.cells cs e)).heap.size 1 (some ⟨w.heap.size, 0, none⟩) n (encI l) := by
  have := reads_new w cs e n 1 (by omega)
  rwa [h] at this
theorem below_all {w w1 : World} (h : Below w.heap.size w w1) (o : Obj) : Below w.heap.size w (w1.alloc o) := h.alloc h.size o
theorem Bag.alloc {w0 w : World} {T : List (Option Addr × Nat × List Value)} (h : Bag w0 w T) (o : Obj) : Bag w0 (w.alloc o) T := h.step ((Below.refl _ w).alloc (Nat.le_refl _) o)
end Go.Proofs.Ytcfmpmcdfllibaa
