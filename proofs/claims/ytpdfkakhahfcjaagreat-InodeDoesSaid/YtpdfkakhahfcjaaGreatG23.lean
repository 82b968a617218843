/-
  The document's own answer: an inode got, one that is not free, what it holds, its blocks.
-/
import Derived.Test.YtpdfkakhahfcjaaGreatG22
import Derived.Test.YtpdfkakhahfcjaaGreatG15
import Derived.Deep.DeepCutAuto
namespace Go.Proofs.YtpdfkakhahfcjaaGreat
open Go.RowKit

theorem sound_shaped {img : List ByteArray} (hs : SoundP img) {i : Nat} (hi : i < cntA img.length) : shapedR img (rawI img i) (recI img i) = true := by
  have hC := (first_le hs.fit.1.1 hs.fit.1.2).2.2.2.1
  exact ((form_iff hs.fit (by omega) fun b hb => (by
    have := hs.named b (named_all hi hb)
    exact ⟨this.1, taken_lt this.2⟩)).1 (hs.form i hi)).1
theorem sound_in {img : List ByteArray} (hs : SoundP img) {i : Nat} (hi : i < cntA img.length) {b : Nat} (hb : b ∈ namedR (recI img i)) : firstA img.length ≤ b ∧ b < img.length := by
  have := hs.named b (named_all hi hb)
  exact ⟨this.1, taken_lt this.2⟩
theorem sound_free {img : List ByteArray} (hs : SoundP img) {i : Nat} (hi : i < cntA img.length) (h0 : (recI img i).kind = 0) : rawI img i = zeroN 32 := by
  have := hs.form i hi
  unfold isFormI at this
  rw [if_pos h0] at this
  simpa [recI] using this
theorem zero_named {img : List ByteArray} {i : Nat} (h : rawI img i = zeroN 32) : namedR (recI img i) = [] := by
  have h0 := rec_zero h
  have hi : (recI img i).ind = 0 := by
    have hb : ∀ k, byA (rawI img i) k = 0 := fun k => by
      rw [h]
      unfold byA
      rw [zeroN_toList, List.getD_eq_getElem?_getD, List.getElem?_replicate]
      split <;> rfl
    show w2 _ 13 = 0
    unfold w2
    rw [hb, hb]
  unfold namedR dataR
  rw [h0.2, hi]
  simp [needN]

set_option maxRecDepth 100000 in
set_option maxHeartbeats 4000000 in
theorem refGet_any (A : Option Addr) (n c : Nat) (img : List ByteArray) (i : Int) (w : World) (h : Reads w w.heap.size 1 A n (encS img)) (hf : FitA img) :
    Calls Tryz.prog 35 #[.slice A n c, .int .i64 i] w (GetP w (getI img i)) := by
  have hz := (zero_of_info info7).1
  have hl := h.lenS
  have h8 : 8 ≤ n := by have := hf.1; omega
  have h5 : n ≤ 512 := by have := hf.1; omega
  have ci := fun W => refInodes_any A n c (by unfold maxLen; omega) W
  have hcn : cntA n ≤ 128 := by unfold cntA; omega
  have HG : Hid (getI img i = if i < 0 ∨ (cntA n : Int) ≤ i then (zeroR 0, 15) else (recI img i.toNat, 0)) := Lib.hid (by unfold getI; rw [hl])
  have H := Lib.hid h
  have cRaw := fun (k : Nat) (hk : k < cntA n) W hW => refRaw_any A n c img k W hW hf hk
  have cRd := fun (k : Nat) W => refRead_any (rawI img k) (rawI_size img k) W
  unfold valI at cRd
  unfold GetP valI
  obtain ⟨C, hC⟩ : ∃ C, C = cntA n := ⟨_, rfl⟩
  rw [← hC] at ci HG hcn cRaw
  clear h hl hC
  by_cases h0 : i < 0
  · have hd0 : decide (i < 0) = true := decide_eq_true h0
    have HE : Hid (getI img i = (zeroR 0, 15)) := Lib.hid (by rw [HG.out, if_pos (.inl h0)])
    go_enter Tryz.func35, Tryz.ntmps35
    go_wp2_with (first | (refine wpList_built rfl _ _ rfl _ built7 ?_) | (refine wpList_store_row rfl _ _ _ rfl w.heap.size (cellsI (zeroR 0)).toArray rfl rfl _ (cellsI (zeroR 0)).toArray (heap_alloc_new w _) (sizeI okz) (holdI okz okz) (all_oneCell_toArray (cellsI_one _)) ?_))
    have HX := Lib.hid (And.intro ((BI.new w (zeroR 0)).setRow (zeroR 0)) (((Below.refl w.heap.size w).alloc (Nat.le_refl _) (.cells (cellsI (zeroR 0)).toArray 47)).trans (below_setRow _ (Nat.le_refl _) (cellsI (zeroR 0)).toArray)))
    have hlv := HX.out.1.loadVar okz
    rw [HE.out]
    exact bodyPost_ret (v := .tuple #[valI (zeroR 0), .int .i64 15]) (results_rec2 rfl _ rfl rfl hlv) rfl ⟨rfl, HX.out.2⟩
  have hd0 : decide (i < 0) = false := decide_eq_false h0
  obtain ⟨k, rfl⟩ : ∃ k : Nat, i = k := ⟨i.toNat, by omega⟩
  by_cases h1 : C ≤ k
  · have h1i : (C : Int) ≤ (k : Int) := by omega
    have h1d : decide ((C : Int) ≤ (k : Int)) = true := decide_eq_true h1i
    have h1n : decide (C ≤ k) = true := decide_eq_true h1
    have HE : Hid (getI img k = (zeroR 0, 15)) := Lib.hid (by rw [HG.out, if_pos (.inr h1i)])
    go_enter Tryz.func35, Tryz.ntmps35
    go_wp2_with (first | (refine wpList_built rfl _ _ rfl _ built7 ?_) | (refine wpList_store_row rfl _ _ _ rfl w.heap.size (cellsI (zeroR 0)).toArray rfl rfl _ (cellsI (zeroR 0)).toArray (heap_alloc_new w _) (sizeI okz) (holdI okz okz) (all_oneCell_toArray (cellsI_one _)) ?_) | (go_at_call 17; refine (ci _).mono ?_; rintro e w2 ⟨rfl, rfl⟩))
    have HX := Lib.hid (And.intro ((BI.new w (zeroR 0)).setRow (zeroR 0)) (((Below.refl w.heap.size w).alloc (Nat.le_refl _) (.cells (cellsI (zeroR 0)).toArray 47)).trans (below_setRow _ (Nat.le_refl _) (cellsI (zeroR 0)).toArray)))
    have hlv := HX.out.1.loadVar okz
    rw [HE.out]
    exact bodyPost_ret (v := .tuple #[valI (zeroR 0), .int .i64 15]) (results_rec2 rfl _ rfl rfl hlv) rfl ⟨rfl, HX.out.2⟩
  · have h1i : ¬ (C : Int) ≤ (k : Int) := by omega
    have h1d : decide ((C : Int) ≤ (k : Int)) = false := decide_eq_false h1i
    have h1n : decide (C ≤ k) = false := decide_eq_false h1
    have HE : Hid (getI img k = (recI img k, 0)) := Lib.hid (by rw [HG.out, if_neg (by omega), Int.toNat_natCast])
    have hk : k ≤ 1024 := by omega
    have HOK := Lib.hid (recI_ok img k hk)
    have cr := cRaw k (by omega) (w.alloc (.cells (cellsI (zeroR 0)).toArray 47)) (H.out.alloc _)
    have cd := cRd k (w.alloc (.cells (cellsI (zeroR 0)).toArray 47))
    rw [recS_cells img k] at cd
    generalize rawI img k = raw at cr cd
    generalize recI img k = r at HE HOK cd
    go_enter Tryz.func35, Tryz.ntmps35
    go_wp2_with (first | (go_at_call 17; refine (ci _).mono ?_; rintro e w2 ⟨rfl, rfl⟩) | (go_at_call 19; refine cr.mono ?_; rintro e w2 ⟨rfl, rfl⟩))
    refine cd.mono ?_
    rintro e w3 ⟨rfl, hb3⟩
    have hh := (hb3.block w.heap.size (by simp)).trans (heap_alloc_new w _)
    have hbb := ((Below.refl w.heap.size w).alloc (Nat.le_refl _) (.cells (cellsI (zeroR 0)).toArray 47)).trans (hb3.mono (by simp))
    have HB := Lib.hid (And.intro (show BI w3 w.heap.size (zeroR 0) from hh) hbb)
    clear hb3 hbb cd
    go_wp2_with (refine wpList_store_row rfl _ _ _ rfl w.heap.size (cellsI r).toArray rfl rfl _ (cellsI (zeroR 0)).toArray (hh) (sizeI HOK.out) (holdI okz HOK.out) (all_oneCell_toArray (cellsI_one _)) ?_)
    have HX := Lib.hid (And.intro ((HB.out.1).setRow r) (HB.out.2.trans (below_setRow w3 (Nat.le_refl _) (cellsI r).toArray)))
    have hlv := HX.out.1.loadVar HOK.out
    rw [HE.out]
    exact bodyPost_ret (v := .tuple #[valI r, .int .i64 0]) (results_rec2 rfl _ rfl rfl hlv) rfl ⟨rfl, HX.out.2⟩

/-- What held tells: the inode, and the error. -/
def heldS (img : List ByteArray) (i : Int) : RecI × Int := ((getI img i).1, if (getI img i).2 = 0 ∧ (getI img i).1.kind = 0 then 20 else (getI img i).2)

set_option maxRecDepth 100000 in
set_option maxHeartbeats 4000000 in
theorem refHeld_any (A : Option Addr) (n c : Nat) (img : List ByteArray) (i : Int) (w : World) (h : Reads w w.heap.size 1 A n (encS img)) (hf : FitA img) :
    Calls Tryz.prog 41 #[.slice A n c, .int .i64 i] w (GetP w (heldS img i)) := by
  have hz := (zero_of_info info7).1
  have hl := h.lenS
  have hok := (getI_ok img i (by have := hf.1; omega)).1
  have cG := refGet_any A n c img i (w.alloc (.cells (cellsI (zeroR 0)).toArray 47)) (h.alloc _) hf
  have HH : Hid (heldS img i = ((getI img i).1, if (getI img i).2 = 0 ∧ (getI img i).1.kind = 0 then 20 else (getI img i).2)) := Lib.hid rfl
  unfold GetP valI at cG ⊢
  clear h hl
  generalize getI img i = x at hok cG HH
  obtain ⟨r, ec⟩ := x
  dsimp only at hok cG HH
  have HR := Lib.hid hok
  clear hok
  have B0 := BI.new w (zeroR 0)
  have hb0 := (Below.refl w.heap.size w).alloc (Nat.le_refl _) (.cells (cellsI (zeroR 0)).toArray 47)
  go_enter Tryz.func41, Tryz.ntmps41
  go_wp2_with fail
  refine cG.mono ?_
  rintro e w1 ⟨rfl, hb1⟩
  have B1 := B0.step hb1
  have bb1 := hb0.trans (hb1.mono (by simp))
  have hh1 := heap_alloc_new w1 (.cells (cellsI (zeroR 0)).toArray 47)
  have hne : w.heap.size ≠ w1.heap.size := by have := B1.lt; omega
  have bts : Below w1.heap.size w1 ((w1.alloc (.cells (cellsI (zeroR 0)).toArray 47)).setRow w1.heap.size (cellsI r).toArray) := ((Below.refl _ _).alloc (Nat.le_refl _) _).trans (below_setRow _ (Nat.le_refl _) _)
  have K2 := Lib.hid (And.intro ((show BI (w1.alloc (.cells (cellsI (zeroR 0)).toArray 47)) w1.heap.size (zeroR 0) from hh1).setRow r) (And.intro (B1.step bts) (bstep bb1 bts)))
  have hk2 : ((w1.alloc (.cells (cellsI (zeroR 0)).toArray 47)).setRow w1.heap.size (cellsI r).toArray).cell? ⟨w1.heap.size, 0, none⟩ = some (.int .i64 (r.kind : Int)) := K2.out.1.cell rfl
  clear bts hb1 cG bb1 B1 B0 hb0
  by_cases he : ec = 0
  · subst he
    by_cases hk0 : r.kind = 0
    · have HE : Hid (heldS img i = (r, 20)) := Lib.hid (by rw [HH.out, if_pos ⟨rfl, hk0⟩])
      have hkb : ((r.kind : Int) == 0) = true := by rw [hk0]; rfl
      clear hk0
      go_wp2_with (first | (refine wpList_store_row rfl _ _ _ rfl w1.heap.size (cellsI r).toArray rfl rfl _ (cellsI (zeroR 0)).toArray hh1 (sizeI HR.out) (holdI okz HR.out) (all_oneCell_toArray (cellsI_one _)) ?_) | (refine wpList_load_mid rfl _ _ rfl w1.heap.size 0 rfl (cellsI r) _ K2.out.1.range Tryz.underlying47 rfl (by rw [cellsI_length HR.out]; exact sizeIn) ?_) | (refine wpList_store_row rfl _ _ _ rfl w.heap.size (cellsI r).toArray rfl rfl _ (cellsI (zeroR 0)).toArray K2.out.2.1 (sizeI HR.out) (holdI okz HR.out) (all_oneCell_toArray (cellsI_one _)) ?_))
      have HX := Lib.hid (And.intro (K2.out.2.1.setRow r) (K2.out.2.2.trans (below_setRow ((w1.alloc (.cells (cellsI (zeroR 0)).toArray 47)).setRow w1.heap.size (cellsI r).toArray) (Nat.le_refl _) (cellsI r).toArray)))
      have hlv := HX.out.1.loadVar HR.out
      rw [HE.out]
      exact bodyPost_ret (v := .tuple #[valI r, .int .i64 20]) (results_rec2 rfl _ rfl rfl hlv) rfl ⟨rfl, HX.out.2⟩
    · have HE : Hid (heldS img i = (r, 0)) := Lib.hid (by rw [HH.out, if_neg (fun h => hk0 h.2)])
      have hkb : ((r.kind : Int) == 0) = false := by rw [beq_eq_false_iff_ne]; omega
      clear hk0
      go_wp2_with (first | (refine wpList_store_row rfl _ _ _ rfl w1.heap.size (cellsI r).toArray rfl rfl _ (cellsI (zeroR 0)).toArray hh1 (sizeI HR.out) (holdI okz HR.out) (all_oneCell_toArray (cellsI_one _)) ?_) | (refine wpList_load_mid rfl _ _ rfl w1.heap.size 0 rfl (cellsI r) _ K2.out.1.range Tryz.underlying47 rfl (by rw [cellsI_length HR.out]; exact sizeIn) ?_) | (refine wpList_store_row rfl _ _ _ rfl w.heap.size (cellsI r).toArray rfl rfl _ (cellsI (zeroR 0)).toArray K2.out.2.1 (sizeI HR.out) (holdI okz HR.out) (all_oneCell_toArray (cellsI_one _)) ?_))
      have HX := Lib.hid (And.intro (K2.out.2.1.setRow r) (K2.out.2.2.trans (below_setRow ((w1.alloc (.cells (cellsI (zeroR 0)).toArray 47)).setRow w1.heap.size (cellsI r).toArray) (Nat.le_refl _) (cellsI r).toArray)))
      have hlv := HX.out.1.loadVar HR.out
      rw [HE.out]
      exact bodyPost_ret (v := .tuple #[valI r, .int .i64 0]) (results_rec2 rfl _ rfl rfl hlv) rfl ⟨rfl, HX.out.2⟩
  · have HE : Hid (heldS img i = (r, ec)) := Lib.hid (by rw [HH.out, if_neg (fun h => he h.1)])
    have heb : (ec == 0) = false := by rw [beq_eq_false_iff_ne]; exact he
    clear he
    go_wp2_with (first | (refine wpList_store_row rfl _ _ _ rfl w1.heap.size (cellsI r).toArray rfl rfl _ (cellsI (zeroR 0)).toArray hh1 (sizeI HR.out) (holdI okz HR.out) (all_oneCell_toArray (cellsI_one _)) ?_) | (refine wpList_load_mid rfl _ _ rfl w1.heap.size 0 rfl (cellsI r) _ K2.out.1.range Tryz.underlying47 rfl (by rw [cellsI_length HR.out]; exact sizeIn) ?_) | (refine wpList_store_row rfl _ _ _ rfl w.heap.size (cellsI r).toArray rfl rfl _ (cellsI (zeroR 0)).toArray K2.out.2.1 (sizeI HR.out) (holdI okz HR.out) (all_oneCell_toArray (cellsI_one _)) ?_))
    have HX := Lib.hid (And.intro (K2.out.2.1.setRow r) (K2.out.2.2.trans (below_setRow ((w1.alloc (.cells (cellsI (zeroR 0)).toArray 47)).setRow w1.heap.size (cellsI r).toArray) (Nat.le_refl _) (cellsI r).toArray)))
    have hlv := HX.out.1.loadVar HR.out
    rw [HE.out]
    exact bodyPost_ret (v := .tuple #[valI r, .int .i64 ec]) (results_rec2 rfl _ rfl rfl hlv) rfl ⟨rfl, HX.out.2⟩

end Go.Proofs.YtpdfkakhahfcjaaGreat

/-
  The document's own answer: what an inode holds, and its blocks.
-/
namespace Go.Proofs.YtpdfkakhahfcjaaGreat
open Go.RowKit

theorem getI_cases (img : List ByteArray) (i : Int) : (getI img i = (zeroR 0, 15)) ∨ ∃ k : Nat, i = k ∧ k < cntA img.length ∧ getI img i = (recI img k, 0) := by
  unfold getI
  split
  · exact .inl rfl
  · next h => exact .inr ⟨i.toNat, by omega, by omega, rfl⟩
theorem heldI_of {img : List ByteArray} {i : Int} (h : getI img i = (zeroR 0, 15)) : heldI img i = (zeroR 0, 15) := by unfold heldI; rw [h]; rfl
theorem heldI_at {img : List ByteArray} {k : Nat} (h : getI img (k : Int) = (recI img k, 0)) : heldI img (k : Int) = if (recI img k).kind = 0 then (zeroR 0, 20) else (recI img k, 0) := by
  unfold heldI
  rw [h, if_neg (by simp), Int.toNat_natCast]
theorem heldS_two (img : List ByteArray) (i : Int) : (heldS img i).2 = (heldI img i).2 := by
  rcases getI_cases img i with h | ⟨k, rfl, hk, h⟩
  · rw [heldI_of h]; unfold heldS; rw [h]; rfl
  · rw [heldI_at h]; unfold heldS; rw [h]
    by_cases h0 : (recI img k).kind = 0
    · rw [if_pos h0, if_pos ⟨rfl, h0⟩]
    · rw [if_neg h0, if_neg (fun hh => h0 hh.2)]
theorem blksN_at {img : List ByteArray} (hs : SoundP img) {k : Nat} (hk : k < cntA img.length) (h : getI img (k : Int) = (recI img k, 0)) : blksN img (k : Int) = namedR (recI img k) := by
  unfold blksN
  rw [heldI_at h]
  by_cases h0 : (recI img k).kind = 0
  · rw [if_pos h0, if_neg (by decide), zero_named (sound_free hs hk h0)]
  · rw [if_neg h0, if_pos rfl]
theorem blksN_no {img : List ByteArray} {i : Int} (h : getI img i = (zeroR 0, 15)) : blksN img i = [] := by
  unfold blksN
  rw [heldI_of h, if_neg (by decide)]

set_option maxRecDepth 100000 in
set_option maxHeartbeats 4000000 in
theorem refBlocks_any (A : Option Addr) (n c : Nat) (img : List ByteArray) (i : Int) (w : World) (h : Reads w w.heap.size 1 A n (encS img)) (hs : SoundP img) :
    Calls Tryz.prog 43 #[.slice A n c, .int .i64 i] w (RowP w (blksN img i)) := by
  obtain ⟨i0, hi0, hz0, hz1, hz2⟩ := info_parts infoI
  have hz7 := (zero_of_info info7).1
  have hl := h.lenS
  have H := Lib.hid h
  have HS := Lib.hid hs
  have cG := refGet_any A n c img i w h hs.fit
  have cNa := fun (r : RecI) W hW h1 h2 h3 => refNamed_any A n c img r W hW hs.fit h1 h2 h3
  unfold RowP valI at cNa
  unfold GetP valI at cG
  unfold RowP
  clear h hs
  rcases getI_cases img i with hg | ⟨k, rfl, hk, hg⟩
  · rw [hg] at cG
    have HE := Lib.hid (blksN_no hg)
    clear hg
    have hok := okz
    dsimp only at cG
    go_enter Tryz.func43, Tryz.ntmps43
    go_wp2_with fail
    refine cG.mono ?_
    rintro e w1 ⟨rfl, hb1⟩
    have hh1 := heap_alloc_new w1 (.cells (cellsI (zeroR 0)).toArray 47)
    have K2 : Hid (Below w.heap.size w ((w1.alloc (.cells (cellsI (zeroR 0)).toArray 47)).setRow w1.heap.size (cellsI (zeroR 0)).toArray)) := Lib.hid (bstep hb1 (((Below.refl _ _).alloc (Nat.le_refl _) _).trans (below_setRow _ (Nat.le_refl _) _)))
    clear hb1 cG
    go_wp2_with (refine wpList_store_row rfl _ _ _ rfl w1.heap.size (cellsI (zeroR 0)).toArray rfl rfl _ (cellsI (zeroR 0)).toArray hh1 (sizeI hok) (holdI okz hok) (all_oneCell_toArray (cellsI_one _)) ?_)
    go_ret
    rw [HE.out]
    exact ⟨none, 0, rfl, own_nil, K2.out⟩
  · rw [hg] at cG
    have HE := Lib.hid (blksN_at HS.out hk hg)
    have hC := (first_le HS.out.fit.1.1 HS.out.fit.1.2).2.2.2.1
    have HR := Lib.hid (recI_ok img k (by omega))
    have hcd := shaped_cond (sound_shaped HS.out hk)
    have HNM := Lib.hid (named_S HS.out.fit (by omega) (sound_shaped HS.out hk))
    clear hg
    dsimp only at cG
    generalize recI img k = r at *
    have HC := Lib.hid hcd
    clear hcd
    have hr7 := cellsI_length HR.out
    go_enter Tryz.func43, Tryz.ntmps43
    go_wp2_with fail
    refine cG.mono ?_
    rintro e w1 ⟨rfl, hb1⟩
    have hh1 := heap_alloc_new w1 (.cells (cellsI (zeroR 0)).toArray 47)
    have K2 := Lib.hid (And.intro ((show BI (w1.alloc (.cells (cellsI (zeroR 0)).toArray 47)) w1.heap.size (zeroR 0) from hh1).setRow r) (bstep hb1 (((Below.refl w1.heap.size w1).alloc (Nat.le_refl _) (.cells (cellsI (zeroR 0)).toArray 47)).trans (below_setRow _ (Nat.le_refl _) (cellsI r).toArray))))
    clear hb1 cG
    go_wp2_with (first | (refine wpList_store_row rfl _ _ _ rfl w1.heap.size (cellsI r).toArray rfl rfl _ (cellsI (zeroR 0)).toArray hh1 (sizeI HR.out) (holdI okz HR.out) (all_oneCell_toArray (cellsI_one _)) ?_) | (refine wpList_load_mid rfl _ _ rfl w1.heap.size 0 rfl (cellsI r) _ K2.out.1.range Tryz.underlying47 rfl (by rw [hr7]; exact sizeIn) ?_))
    generalize (w1.alloc (.cells (cellsI (zeroR 0)).toArray 47)).setRow w1.heap.size (cellsI r).toArray = w2 at K2 ⊢
    generalize w1.heap.size = g at K2 ⊢
    refine (cNa r w2 (H.out.step K2.out.2) HR.out.bl HC.out.2.1 (fun h4 => by have h6 := HC.out.2.2.2 (HC.out.2.2.1.1 h4); omega)).mono ?_
    rintro e w3 ⟨A3, c3, rfl, ho3, hb3⟩
    have hN68 := HC.out.2.1
    have hdl := dataS_length img r (needN r.size)
    generalize dataS img r (needN r.size) = ds at HNM ho3 hdl ⊢
    have hds : ds.length ≤ 68 := by omega
    clear hdl
    have hci := (K2.out.1.step hb3).ind HR.out.bl
    have K3 := Lib.hid (And.intro (own_base ho3 K2.out.2.size) (bstep K2.out.2 hb3))
    clear ho3 hb3
    by_cases h0 : r.ind = 0
    · have hi0 : ¬ (0 : Int) < (r.ind : Int) := by omega
      have hi0d : decide ((0 : Int) < (r.ind : Int)) = false := decide_eq_false hi0
      have hi0n : decide (0 < r.ind) = false := decide_eq_false (by omega)
      have HN2 : Hid (namedR r = ds) := Lib.hid (by rw [← HNM.out, if_pos h0, List.append_nil])
      go_wp2
      go_ret
      rw [HE.out, HN2.out]
      exact ⟨A3, c3, rfl, K3.out.1, K3.out.2⟩
    · have hi0i : (0 : Int) < (r.ind : Int) := by omega
      have hi0d : decide ((0 : Int) < (r.ind : Int)) = true := decide_eq_true hi0i
      have hi0n : decide (0 < r.ind) = true := decide_eq_true (by omega)
      have HN2 : Hid (namedR r = ds ++ [r.ind]) := Lib.hid (by rw [← HNM.out, if_neg h0])
      have hwz : w.heap.size ≤ w3.heap.size := K3.out.2.size
      go_wp2_with (at_builtin; refine wpList_append_reads _ rfl (.tmp 22) (.tmp 25) 49 rfl w.heap.size 3 i0 _ 1 8 Tryz.underlying49 hi0 hz0 hz1 hz2 rfl (by omega) (.slice A3 ds.length c3) ds.length (encN ds) rfl (own_alloc K3.out.1 _) _ (some ⟨w3.heap.size, 0, none⟩) 1 1 (encN [r.ind]) rfl (reads_new w3 _ 3 1 1 rfl) (encN_one _) (by unfold maxLen; omega) (by omega) (by simp; omega) ?_; intro A7 c7 w7 ho7 hg7 _)
      have K7 : Hid (w7.ownsRow w.heap.size 3 1 (.slice A7 (ds.length + 1) c7) (ds.length + 1) (encN (ds ++ [r.ind])) ∧ Below w.heap.size w w7) := Lib.hid ⟨by rw [encN_app]; exact ho7, (K3.out.2.alloc hwz _).grown hg7 (by simp; omega) (fun q hq => own_row_ge K3.out.1 _ hq)⟩
      clear ho7 hg7
      go_wp2
      go_ret
      rw [HE.out, HN2.out]
      exact ⟨A7, c7, by simp, by simpa using K7.out.1, K7.out.2⟩

/-- What the first k of them hold. -/
def flatK (img : List ByteArray) (l : List Nat) (k : Nat) : List UInt8 := (l.take k).flatMap fun b => (blk img b).data.toList
theorem flatK_succ {img : List ByteArray} {l : List Nat} {k : Nat} (h : k < l.length) : flatK img l (k + 1) = flatK img l k ++ (blk img (l.getD k 0)).data.toList := by
  unfold flatK
  rw [List.take_add_one, List.getElem?_eq_getElem h, List.getD_eq_getElem?_getD, List.getElem?_eq_getElem h]
  simp only [Option.toList_some, List.flatMap_append, List.flatMap_cons, List.flatMap_nil, List.append_nil, Option.getD_some]
theorem flatK_len {img : List ByteArray} (hf : FitA img) {l : List Nat} (hl : ∀ b ∈ l, b < img.length) : ∀ k, k ≤ l.length → (flatK img l k).length = 128 * k
  | 0, _ => rfl
  | k + 1, h => by
    rw [flatK_succ (by omega), List.length_append, flatK_len hf hl k (by omega)]
    have hm : l.getD k 0 ∈ l := by rw [List.getD_eq_getElem?_getD, List.getElem?_eq_getElem (by omega)]; exact List.getElem_mem _
    have := blk_fit_size hf (hl _ hm)
    have e : (blk img (l.getD k 0)).data.toList.length = 128 := by simpa using this
    rw [e]; omega
theorem flatR_K {img : List ByteArray} (hf : FitA img) {r : RecI} (hl : ∀ b ∈ dataR r, b < img.length) : flatR img r = flatK img (dataR r) (dataR r).length := by
  unfold flatR flatK
  rw [List.take_of_length_le (Nat.le_refl _)]
  have : ∀ l : List Nat, (∀ b ∈ l, b < img.length) → (l.flatMap fun i => (blkI img i).data.toList) = l.flatMap fun b => (blk img b).data.toList := by
    intro l
    induction l with
    | nil => intro _; rfl
    | cons a l ih => intro h; rw [List.flatMap_cons, List.flatMap_cons, ih fun b hb => h b (List.mem_cons_of_mem _ hb), blkI_of hf (h a List.mem_cons_self)]
  exact this _ hl
theorem readI_err {img : List ByteArray} {i : Int} (h : (heldI img i).2 ≠ 0) : readI img i = (⟨#[]⟩, (heldI img i).2) := by unfold readI; rw [if_neg h]

end Go.Proofs.YtpdfkakhahfcjaaGreat
