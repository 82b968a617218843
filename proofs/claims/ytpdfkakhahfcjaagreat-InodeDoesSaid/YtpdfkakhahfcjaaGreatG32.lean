/-
  The document's own answer: an inode taken away.
-/
import Derived.Test.YtpdfkakhahfcjaaGreatG31
import Derived.Test.YtpdfkakhahfcjaaGreatG23
import Derived.Test.YtpdfkakhahfcjaaGreatG30
import Derived.Test.YtpdfkakhahfcjaaGreatG16
import Derived.Test.YtpdfkakhahfcjaaGreatG29
import Derived.Test.YtpdfkakhahfcjaaGreatG13
import Derived.Test.YtpdfkakhahfcjaaGreatG15
import Derived.Test.YtpdfkakhahfcjaaGreatG17
namespace Go.Proofs.YtpdfkakhahfcjaaGreat
open Go.RowKit

theorem okW_zero : OkW (zeroR 0) := ⟨rfl, by decide, by decide, by decide, by decide⟩
theorem heldS_ok (img : List ByteArray) (i : Int) (h : img.length ≤ 512) : OkR (heldS img i).1 := (getI_ok img i h).1
set_option maxRecDepth 100000 in
set_option maxHeartbeats 4000000 in
theorem refDrop_any (A : Option Addr) (n c : Nat) (img : List ByteArray) (i : Int) (w : World) (h : Reads w w.heap.size 1 A n (encS img)) (hs : SoundP img) :
    Calls Tryz.prog 11 #[.slice A n c, .int .i64 i] w fun e w' => ImgsO w w' (dropI img i).1 (dropI img i).2 e := by
  have hz7 := (zero_of_info info7).1
  have hl := h.lenS
  have h8 : 8 ≤ n := by have := hs.fit.1; omega
  have h5 : n ≤ 512 := by have := hs.fit.1; omega
  have cH := refHeld_any A n c img i w h hs.fit
  have cO := fun W hW => refOwn_any A n c img W hW (by omega)
  unfold GetP valI at cH
  have hok := heldS_ok img i (by omega)
  have h2 := heldS_two img i
  have H := Lib.hid h
  by_cases hne : (heldI img i).2 = 0
  rotate_left
  · have HB : Hid (dropI img i = (img, (heldI img i).2)) := Lib.hid (by unfold dropI; rw [if_pos hne])
    rw [HB.out]
    have hnb : ((heldI img i).2 != 0) = true := by rw [bne_iff_ne]; exact hne
    rw [h2] at cH
    clear HB hne h2 hs h
    generalize (heldI img i).2 = ec at *
    generalize (heldS img i).1 = r at *
    have HR := Lib.hid hok
    clear hok
    go_enter Tryz.func11, Tryz.ntmps11
    go_wp2_with fail
    refine cH.mono ?_
    rintro e w1 ⟨rfl, hb1⟩
    have hh1 := heap_alloc_new w1 (.cells (cellsI (zeroR 0)).toArray 47)
    have K2 := Lib.hid (bstep hb1 (((Below.refl w1.heap.size w1).alloc (Nat.le_refl _) (.cells (cellsI (zeroR 0)).toArray 47)).trans (below_setRow _ (Nat.le_refl _) (cellsI r).toArray)))
    clear hb1 cH
    go_wp2_with (refine wpList_store_row rfl _ _ _ rfl w1.heap.size (cellsI r).toArray rfl rfl _ (cellsI (zeroR 0)).toArray hh1 (sizeI HR.out) (holdI okz HR.out) (all_oneCell_toArray (cellsI_one _)) ?_)
    generalize (w1.alloc (.cells (cellsI (zeroR 0)).toArray 47)).setRow w1.heap.size (cellsI r).toArray = w2 at K2 ⊢
    refine (cO _ (H.out.step K2.out)).mono ?_
    rintro e w3 ⟨A3, c3, rfl, ho3, hb3⟩
    obtain ⟨g3, rfl, hO3⟩ := OwI.of ho3 (by omega)
    have K3 := Lib.hid (And.intro (hO3.low K2.out.size) (bstep K2.out hb3))
    clear ho3 hb3 hO3 K2
    go_wp2
    go_ret2
    exact ⟨g3, n, c3, rfl, K3.out.1, h5, K3.out.2⟩
  · rcases getI_cases img i with hg | ⟨k, rfl, hk, hg⟩
    · rw [heldI_of hg] at hne; cases hne
    have hkd : (recI img k).kind ≠ 0 := fun h0 => by rw [heldI_at hg, if_pos h0] at hne; cases hne
    have hH : heldI img (k : Int) = (recI img k, 0) := by rw [heldI_at hg, if_neg hkd]
    have hq := (soundQ_iff img).1 hs
    obtain ⟨m, hgv, hml, hmf, _, _⟩ := gave_all hq.fit (hq.once k hk) (hq.named k hk)
    have HB : Hid (dropI img (k : Int) = (putI m (2 + k / 4) (32 * (k % 4)) (textR (zeroR 0)), 0)) := Lib.hid (by
      unfold dropI
      rw [hH, if_neg (by simp), hgv, if_pos rfl]
      rfl)
    rw [HB.out]
    have cB := fun W hW => refBlocks_any A n c img (k : Int) W hW hs
    rw [blksN_at hs hk hg] at cB
    have cV := fun B nb cb W hW hB hm => refGive_any A B n c nb cb img (castN (namedR (recI img k))) W hW hs.fit.map hB hm
    rw [hgv] at cV
    have cP := fun B nb cb W hW h8 h5 hi => refPut_any B nb cb m k (zeroR 0) W hW hmf.2.1 h8 h5 hi okW_zero rfl (textR_size okz)
    rw [show valI (zeroR 0) = .agg #[.int .i64 0, .int .i64 0, .int .i64 0, .int .i64 0, .int .i64 0, .int .i64 0, .int .i64 0] from rfl] at cP
    have hnl : (namedR (recI img k)).length ≤ 69 := namedR_len (recI_ok img k (by have := (first_le h8 h5).2.2.2.1; rw [← hl] at h8 h5; have := (first_le h8 h5).2.2.2.1; omega))
    have HN := Lib.hid (encI_nat (namedR (recI img k)))
    have hmlen : m.length = n := by omega
    have hkn : k < cntA n := by rw [← hl]; exact hk
    have hbt : Tryz.prog.built 47 [] = some #[.int .i64 0, .int .i64 0, .int .i64 0, .int .i64 0, .int .i64 0, .int .i64 0, .int .i64 0] := by kernel_rfl
    rw [h2, hne] at cH
    unfold ImgsA at cV
    unfold RowP at cB
    clear HB hne h2 hs h hH hkd hg hq hgv hml hmf hk cO
    generalize (heldS img (k : Int)).1 = r at *
    generalize putI m (2 + k / 4) (32 * (k % 4)) (textR (zeroR 0)) = mm at *
    have HR := Lib.hid hok
    clear hok
    generalize namedR (recI img k) = nl at *
    go_enter Tryz.func11, Tryz.ntmps11
    go_wp2_with fail
    refine cH.mono ?_
    rintro e w1 ⟨rfl, hb1⟩
    have hh1 := heap_alloc_new w1 (.cells (cellsI (zeroR 0)).toArray 47)
    have K2 := Lib.hid (bstep hb1 (((Below.refl w1.heap.size w1).alloc (Nat.le_refl _) (.cells (cellsI (zeroR 0)).toArray 47)).trans (below_setRow _ (Nat.le_refl _) (cellsI r).toArray)))
    clear hb1 cH
    go_wp2_with (refine wpList_store_row rfl _ _ _ rfl w1.heap.size (cellsI r).toArray rfl rfl _ (cellsI (zeroR 0)).toArray hh1 (sizeI HR.out) (holdI okz HR.out) (all_oneCell_toArray (cellsI_one _)) ?_)
    generalize (w1.alloc (.cells (cellsI (zeroR 0)).toArray 47)).setRow w1.heap.size (cellsI r).toArray = w2 at K2 ⊢
    refine (cB _ (H.out.step K2.out)).mono ?_
    rintro e w3 ⟨A3, c3, rfl, ho3, hb3⟩
    have K3 := Lib.hid (And.intro (Reads.of_own ho3) (bstep K2.out hb3))
    clear ho3 hb3 K2 cB
    go_wp2_with fail
    refine (cV _ _ _ _ (H.out.step K3.out.2) (by have := K3.out.1; rw [← show encI (castN nl) = encN nl from HN.out] at this; exact this) (by omega)).mono ?_
    rintro e w4 ⟨A4, n4, c4, rfl, hr4, hn4, hb4⟩
    have hn4e : n4 = n := by have := hr4.lenS; omega
    subst hn4e
    have K4 := Lib.hid (And.intro hr4 (bstep K3.out.2 hb4))
    clear hr4 hb4 K3 cV
    go_wp2_with fail
    refine (cP _ _ _ _ K4.out.1 h8 h5 hkn).mono ?_
    rintro e w5 ⟨g5, c5, rfl, hO5, hb5⟩
    have K5 := Lib.hid (And.intro (hO5.low K4.out.2.size) (bstep K4.out.2 hb5))
    clear hO5 hb5 K4 cP
    go_wp2
    go_ret2
    exact ⟨g5, _, c5, rfl, K5.out.1, h5, K5.out.2⟩

end Go.Proofs.YtpdfkakhahfcjaaGreat

/-
  The document's own answer: an inode made.
-/
namespace Go.Proofs.YtpdfkakhahfcjaaGreat
open Go.RowKit

theorem okW_kind {q : Nat} (h : q ≤ 2) : OkW { zeroR 0 with kind := q } := ⟨rfl, by show q ≤ 255; omega, by simp [zeroR], by simp [zeroR], by simp [zeroR]⟩
theorem okR_kind {q : Nat} (h : q ≤ 2) : OkR { zeroR 0 with kind := q } := ⟨rfl, by simp [zeroR], by simp [zeroR], by show q ≤ 255; omega, by simp [zeroR], by simp [zeroR]⟩
theorem built1 (a : Int) : Tryz.prog.built 47 [(0, .int .i64 a)] = some #[.int .i64 a, .int .i64 0, .int .i64 0, .int .i64 0, .int .i64 0, .int .i64 0, .int .i64 0] := by kernel_rfl
theorem newI_here {img : List ByteArray} (hs : SoundP img) {k q : Nat} (hk : k < cntA img.length) (h0 : (recI img k).kind = 0) :
    saveR img { recI img k with kind := q } = putI img (2 + k / 4) (32 * (k % 4)) (textR { zeroR 0 with kind := q }) := by
  rw [zero_rec (sound_free hs hk h0)]
  rfl

set_option maxRecDepth 100000 in
set_option maxHeartbeats 8000000 in
theorem refNew_any (A : Option Addr) (n c : Nat) (img : List ByteArray) (x : Int) (w : World) (h : Reads w w.heap.size 1 A n (encS img)) (hs : SoundP img) :
    Calls Tryz.prog 8 #[.slice A n c, .int .i64 x] w fun e w' => ImgNO w w' (newI img x).1 (newI img x).2.1 (newI img x).2.2 e := by
  have hz7 := (zero_of_info info7).1
  have hl := h.lenS
  have h8 : 8 ≤ n := by have := hs.fit.1; omega
  have h5 : n ≤ 512 := by have := hs.fit.1; omega
  have cO := fun W hW => refOwn_any A n c img W hW (by omega)
  have H := Lib.hid h
  by_cases hx : x ≠ 1 ∧ x ≠ 2
  · have HB : Hid (newI img x = (img, 0, 21)) := Lib.hid (by unfold newI; rw [if_pos hx])
    rw [HB.out]
    have h1 : (x != 1) = true := by rw [bne_iff_ne]; exact hx.1
    have h2 : (x != 2) = true := by rw [bne_iff_ne]; exact hx.2
    clear hx HB hs h hz7
    go_enter Tryz.func8, Tryz.ntmps8
    go_wp2_with fail
    refine (cO _ H.out).mono ?_
    rintro e w3 ⟨A3, c3, rfl, ho3, hb3⟩
    obtain ⟨g3, rfl, hO3⟩ := OwI.of ho3 (by omega)
    have K3 := Lib.hid (And.intro hO3 hb3)
    clear ho3 hb3 hO3 cO
    go_wp2
    go_ret3
    exact ⟨g3, n, c3, rfl, K3.out.1, h5, K3.out.2⟩
  obtain ⟨q, rfl, hq⟩ : ∃ q : Nat, x = q ∧ q ≤ 2 := ⟨x.toNat, by omega, by omega⟩
  obtain ⟨C, hC⟩ : ∃ C, C = cntA n := ⟨_, rfl⟩
  have hC128 : C ≤ 128 := by have := (first_le h8 h5).2.2.2.1; omega
  have ci := fun W => refInodes_any A n c (by unfold maxLen; omega) W
  rw [← hC] at ci
  have HE : Hid (newI img q = match freeI img C with | some i => (saveR img { recI img i with kind := q }, i, (0 : Int)) | none => (img, 0, (18 : Int))) := Lib.hid (by unfold newI; rw [if_neg hx, Int.toNat_natCast, hl, hC]; rfl)
  have cG := fun (k : Nat) W hW => refGet_any A n c img (k : Int) W hW hs.fit
  have cP := fun k W hW hi => refPut_any A n c img k { zeroR 0 with kind := q } W hW hs.fit.2.1 h8 h5 hi (okW_kind hq) rfl (textR_size (okR_kind hq))
  rw [show valI { zeroR 0 with kind := q } = .agg #[.int .i64 (q : Int), .int .i64 0, .int .i64 0, .int .i64 0, .int .i64 0, .int .i64 0, .int .i64 0] from rfl] at cP
  rw [← hC] at cP
  have HN := Lib.hid (fun (k : Nat) (hk : k < C) h0 => newI_here hs (k := k) (q := q) (by rw [hl, ← hC]; exact hk) h0)
  have HG := Lib.hid (fun (k : Nat) (hk : k < C) => show getI img (k : Int) = (recI img k, 0) by unfold getI; rw [if_neg (by rw [hl, ← hC]; omega), Int.toNat_natCast])
  have HOK := Lib.hid (fun (k : Nat) (hk : k < C) => recI_ok img k (by omega))
  have hbt := built1 (q : Int)
  unfold GetP valI at cG
  have hor : ((q : Int) != 1) = false ∨ (((q : Int) != 1) = true ∧ ((q : Int) != 2) = false) := by
    by_cases e : (q : Int) = 1
    · left; rw [e]; rfl
    · right; exact ⟨by rw [bne_iff_ne]; exact e, by rw [show (q : Int) = 2 by omega]; rfl⟩
  clear hx hs h hC
  rcases hor with h1 | ⟨h1, h2⟩
  all_goals
    go_enter Tryz.func8, Tryz.ntmps8
    go_wp2_with fail
    go_loopg [7, 8, 9] C (fun gk s7 s8 s9 wr => ∃ k : Nat, k ≤ C ∧ C - k ≤ gk ∧ s7 = .int .i64 k ∧ Hid (Below w.heap.size w wr) ∧ Hid (freeI img k = none))
    case atStart => exact ⟨0, Nat.zero_le _, by omega, rfl, Lib.hid (Below.refl _ _), Lib.hid rfl⟩
    case round =>
      obtain ⟨k, hkC, hgk, rfl, J, F⟩ := hrel
      have cik := ci wr
      by_cases hlt : k < C
      · have hkl : (k : Int) < (C : Int) := by omega
        have HR := Lib.hid (HOK.out k hlt)
        have HFK := Lib.hid (fun h0 => freeI_here F.out h0 hlt)
        have HFN : Hid ((recI img k).kind ≠ 0 → freeI img (k + 1) = none) := Lib.hid fun h0 => freeI_none.2 fun i hi => by
          by_cases e : i = k
          · subst e; exact h0
          · exact freeI_none.1 F.out i (by omega)
        have hnk := HN.out k hlt
        have HEK : Hid ((recI img k).kind = 0 → newI img q = (putI img (2 + k / 4) (32 * (k % 4)) (textR { zeroR 0 with kind := q }), k, 0)) := Lib.hid fun e => by rw [HE.out, HFK.out e, ← hnk e]
        have cGk := cG k
        rw [HG.out k hlt] at cGk
        dsimp only at cGk
        clear hnk
        go_wp2_with (go_at_call 17; refine cik.mono ?_; rintro e w2 ⟨rfl, rfl⟩)
        refine (cGk _ (H.out.step J.out)).mono ?_
        rintro e w1 ⟨rfl, hb1⟩
        have hh1 := heap_alloc_new w1 (.cells (cellsI (zeroR 0)).toArray 47)
        have K2 := Lib.hid (And.intro ((show BI (w1.alloc (.cells (cellsI (zeroR 0)).toArray 47)) w1.heap.size (zeroR 0) from hh1).setRow (recI img k)) (bstep (bstep J.out hb1) (((Below.refl w1.heap.size w1).alloc (Nat.le_refl _) (.cells (cellsI (zeroR 0)).toArray 47)).trans (below_setRow _ (Nat.le_refl _) (cellsI (recI img k)).toArray))))
        have hck := K2.out.1.cell (j := 0) (v := .int .i64 ((recI img k).kind : Int)) rfl
        clear hb1 cGk J cik
        by_cases h0 : (recI img k).kind = 0
        · have HX := Lib.hid (HEK.out h0)
          have hk0 : (((recI img k).kind : Int) == 0) = true := by rw [h0]; rfl
          have cPk := fun W hW => cP k W hW hlt
          clear h0 HEK HFN HFK F cP
          generalize putI img (2 + k / 4) (32 * (k % 4)) (textR { zeroR 0 with kind := q }) = mm at *
          generalize recI img k = r at *
          go_wp2_with (refine wpList_store_row rfl _ _ _ rfl w1.heap.size (cellsI r).toArray rfl rfl _ (cellsI (zeroR 0)).toArray hh1 (sizeI HR.out) (holdI okz HR.out) (all_oneCell_toArray (cellsI_one _)) ?_)
          refine (cPk _ (H.out.step K2.out.2)).mono ?_
          rintro e w5 ⟨g5, c5, rfl, hO5, hb5⟩
          have K5 := Lib.hid (And.intro (hO5.low K2.out.2.size) (bstep K2.out.2 hb5))
          clear hO5 hb5 K2 cPk
          go_wp2
          go_ret3
          rw [HX.out]
          exact ⟨g5, _, c5, rfl, K5.out.1, h5, K5.out.2⟩
        · have HX := Lib.hid (HFN.out h0)
          have hk0 : (((recI img k).kind : Int) == 0) = false := by rw [beq_eq_false_iff_ne]; omega
          clear h0 HEK HFN HFK F cP
          generalize recI img k = r at *
          go_wp2_with (refine wpList_store_row rfl _ _ _ rfl w1.heap.size (cellsI r).toArray rfl rfl _ (cellsI (zeroR 0)).toArray hh1 (sizeI HR.out) (holdI okz HR.out) (all_oneCell_toArray (cellsI_one _)) ?_)
          go_roundg (C - (k + 1))
          case measure => omega
          case rel => exact ⟨k + 1, by omega, by omega, by go_num, Lib.hid K2.out.2, HX⟩
      · have : k = C := by omega
        subst this
        have HX : Hid (newI img q = (img, 0, 18)) := Lib.hid (by rw [HE.out, F.out])
        go_wp2_with (go_at_call 17; refine cik.mono ?_; rintro e w2 ⟨rfl, rfl⟩)
        refine (cO _ (H.out.step J.out)).mono ?_
        rintro e w3 ⟨A3, c3, rfl, ho3, hb3⟩
        obtain ⟨g3, rfl, hO3⟩ := OwI.of ho3 (by omega)
        have K3 := Lib.hid (And.intro (hO3.low J.out.size) (bstep J.out hb3))
        clear ho3 hb3 hO3 cO
        go_wp2
        go_ret3
        rw [HX.out]
        exact ⟨g3, n, c3, rfl, K3.out.1, h5, K3.out.2⟩

end Go.Proofs.YtpdfkakhahfcjaaGreat

/-
  The document's own answer: a block of places.
-/
namespace Go.Proofs.YtpdfkakhahfcjaaGreat
open Go.RowKit

theorem listB_snoc {l : List Nat} {j : Nat} (h : j < l.length) : listB (l.take j) ++ mkB (beL (l.getD j 0) 2) = listB (l.take (j + 1)) := by
  unfold listB
  rw [mkB_append, List.take_add_one, List.getElem?_eq_getElem h, List.flatMap_append, List.getD_eq_getElem?_getD, List.getElem?_eq_getElem h]
  simp
theorem listB_zeros : ∀ k : Nat, listB (List.replicate k 0) = zeroN (2 * k)
  | 0 => by rw [zeroN_mkB]; rfl
  | k + 1 => by
    have h := listB_zeros k
    rw [zeroN_mkB] at h ⊢
    unfold listB at h ⊢
    rw [List.replicate_succ, List.flatMap_cons, ← mkB_append, h, mkB_append, show 2 * (k + 1) = 2 * k + 1 + 1 by omega, List.replicate_succ, List.replicate_succ]
    rfl
theorem listB_pad {l : List Nat} (h : l.length ≤ 64) : listB l ++ zeroN (128 - 2 * l.length) = listB (padN 64 l) := by
  have : listB (padN 64 l) = listB l ++ listB (List.replicate (64 - l.length) 0) := by
    unfold listB padN
    rw [List.flatMap_append, mkB_append]
  rw [this, listB_zeros, show 2 * (64 - l.length) = 128 - 2 * l.length by omega]

set_option maxRecDepth 100000 in
set_option maxHeartbeats 4000000 in
theorem refIndirect_any (A : Option Addr) (n c : Nat) (l : List Nat) (w : World) (h : Reads w w.heap.size 1 A n (encN l)) (hn : n ≤ 64) (hx : ∀ x ∈ l, x < 65536) :
    Calls Tryz.prog 84 #[.slice A n c] w fun e w' => e = .returned (.string (listB (padN 64 l))) ∧ Below w.heap.size w w' := by
  obtain ⟨i0, hi0, hz0, hz1, hz2⟩ := info_parts infoUA
  have hl := h.lenN
  have cb2 := fun (x : Nat) (hx : x < 65536) W => refBe_any x 2 W (by omega) (by omega) (by omega)
  have HL := Lib.hid (And.intro hl hx)
  have hE := listB_pad (l := l) (by omega)
  rw [hl] at hE
  have HE := Lib.hid hE
  have H := Lib.hid h
  clear h hl hx hE
  go_enter Tryz.func84, Tryz.ntmps84
  go_wp2
  go_loopg [3, 4] n (fun gk s3 s4 wr => ∃ j : Nat, j ≤ n ∧ n - j ≤ gk ∧ s4 = .int .i64 j ∧ s3 = .string (listB (l.take j)) ∧ Hid (Below w.heap.size w wr))
  case atStart => exact ⟨0, Nat.zero_le _, by omega, rfl, rfl, Lib.hid (Below.refl _ _)⟩
  case round =>
    obtain ⟨j, hj, hgk, rfl, rfl, J⟩ := hrel
    by_cases hlt : j < n
    · have hji : (j : Int) < (n : Int) := by omega
      obtain ⟨b1, o1, rfl, _, g1⟩ := (H.out.step J.out).nat hlt
      have hbg : l.getD j 0 < 65536 := HL.out.2 _ (by rw [List.getD_eq_getElem?_getD, List.getElem?_eq_getElem (by rw [HL.out.1]; exact hlt)]; exact List.getElem_mem _)
      have cbj := cb2 _ hbg
      have HJ := Lib.hid (listB_snoc (l := l) (j := j) (by rw [HL.out.1]; exact hlt))
      have hno : ¬ 9223372036854775807 < (listB (l.take j)).size + (mkB (beL (l.getD j 0) 2)).size := by rw [listB_size, mkB_size, be_len, List.length_take]; omega
      have hwb : IntKind.u64.wrap (l.getD j 0 : Int) = (l.getD j 0 : Int) := by rw [IntKind.wrap_u64]; omega
      generalize l.getD j 0 = x at *
      generalize listB (l.take j) = t0 at *
      go_wp2_with fail
      refine (cbj _).mono ?_
      rintro e w3 ⟨rfl, hb3⟩
      have JN := Lib.hid (bstep J.out hb3)
      clear hb3 J
      go_wp2
      go_roundg (n - (j + 1))
      case measure => omega
      case rel => exact ⟨j + 1, by omega, by omega, by go_num, by rw [HJ.out], JN⟩
    · have : j = n := by omega
      subst this
      have hsz : (listB (l.take j)).size = 2 * j := by rw [listB_size, List.length_take, HL.out.1]; omega
      have hta : l.take j = l := List.take_of_length_le (by rw [HL.out.1]; exact Nat.le_refl _)
      rw [hta] at hsz
      rw [hta]
      clear hta
      generalize listB l = t at hsz HE ⊢
      obtain ⟨k, hk⟩ : ∃ k, k = 128 - 2 * j := ⟨_, rfl⟩
      rw [← hk] at HE
      have h17 : (128 : Int) - 2 * (j : Int) = (k : Int) := by omega
      have hno2 : ¬ 9223372036854775807 < t.size + (zeroN k).size := by rw [hsz, zeroN_mkB, mkB_size, List.length_replicate]; omega
      have hk128 : k ≤ 128 := by omega
      clear hk
      go_wp2_with (at_make; refine wpList_make_full _ rfl _ _ 53 rfl wr.heap.size 5 i0 _ 1 Tryz.underlying53 hi0 hz0 hz1 .i64 .i64 k k k rfl rfl rfl rfl ?_ ?_ ?_ ?_)
      · rw [hz2]; omega
      · simp only [maxLen]; omega
      · exact Nat.le_refl _
      intro w4 ho4 hg4
      have hb4 : Below wr.heap.size wr w4 := (Below.refl _ _).grown hg4 (Nat.le_refl _) (by intro k hk; cases hk)
      have hcv := made_conv ho4
      have JF := Lib.hid (bstep J.out hb4)
      clear ho4 hg4 hb4 J
      generalize zeroN k = z at *
      go_wp2
      go_ret
      rw [← HE.out]
      exact ⟨rfl, JF.out⟩

end Go.Proofs.YtpdfkakhahfcjaaGreat

/-
  The document's own answer: an inode with these data blocks, and this indirect one.
-/
namespace Go.Proofs.YtpdfkakhahfcjaaGreat
open Go.RowKit

theorem BI.setSize {w : World} {g : Nat} {r : RecI} (h : BI w g r) (x : Nat) : BI (w.setCell ⟨g, 1, none⟩ (.int .i64 (x : Int))) g { r with size := x } := h.setC 1 _ rfl
theorem cellsI_setInd (r : RecI) (h4 : r.bl.length = 4) (x : Nat) : (cellsI r).set 6 (.int .i64 (x : Int)) = cellsI { r with ind := x } := by
  unfold cellsI
  rw [show 6 = 4 + 1 + 1 by omega]
  simp only [List.set_cons_succ]
  rw [List.set_append_right _ _ (by rw [encN_length, h4]; exact Nat.le_refl _), encN_length, h4]
  rfl
theorem BI.setInd {w : World} {g : Nat} {r : RecI} (h : BI w g r) (h4 : r.bl.length = 4) (x : Nat) : BI (w.setCell ⟨g, 6, none⟩ (.int .i64 (x : Int))) g { r with ind := x } := h.setC 6 _ (cellsI_setInd r h4 x)
/-- Its blocks, as far as the j-th is laid. -/
def blL (b l : List Nat) (j : Nat) : List Nat := (List.range j).map (fun k => l.getD k 0) ++ b.drop j
theorem blL_len {b l : List Nat} (h4 : b.length = 4) {j : Nat} (h : j ≤ 4) : (blL b l j).length = 4 := by simp [blL, h4]; omega
theorem blL_zero (b l : List Nat) : blL b l 0 = b := by simp [blL]
theorem blL_set {b l : List Nat} (h4 : b.length = 4) {j : Nat} (h : j < 4) : (blL b l j).set j (l.getD j 0) = blL b l (j + 1) := by
  unfold blL
  rw [List.set_append_right _ _ (by simp), List.length_map, List.length_range, Nat.sub_self, List.range_succ, List.map_append, List.append_assoc, List.drop_eq_getElem_cons (by omega)]
  rfl
theorem blL_end {b l : List Nat} (h4 : b.length = 4) : blL b l 4 = padN 4 (l.take 4) := by
  have hd : b.drop 4 = [] := List.drop_eq_nil_iff.2 (by omega)
  unfold blL padN
  rw [hd]
  match l with
  | [] => rfl
  | [_] => rfl
  | [_, _] => rfl
  | [_, _, _] => rfl
  | _ :: _ :: _ :: _ :: _ => rfl

theorem over_allL {b s : ByteArray} (h : s.size = b.size) : overB b 0 s = s := by
  have hb : b.data.toList.length = b.size := by simp
  unfold overB
  rw [List.take_zero, List.nil_append, Nat.zero_add, List.drop_eq_nil_iff.2 (by rw [hb]; omega), List.append_nil]
  simp [mkB]
set_option maxRecDepth 100000 in
set_option maxHeartbeats 8000000 in
theorem refLaid_any (A B : Option Addr) (n c0 m cm : Nat) (img : List ByteArray) (i : Nat) (r : RecI) (size ind : Nat) (l : List Nat) (w : World) (h : Reads w w.heap.size 1 A n (encS img)) (hl : Reads w w.heap.size 1 B m (encN l))
    (hf : ∀ b ∈ img, b.size = 128) (h8 : 8 ≤ n) (h5 : n ≤ 512) (hi : i < cntA n) (hr : OkR r) (hm : m ≤ 68) (hlx : ∀ x ∈ l, x < 65536) (hin : ind < n) (hi4 : 0 < ind → 4 < m) (hsz : size ≤ 8704) (hcm : m ≤ cm) :
    Calls Tryz.prog 48 #[.slice A n c0, .int .i64 i, valI r, .int .i64 size, .slice B m cm, .int .i64 ind] w fun e w' => ∃ g c, e = .returned (.slice (some ⟨g, 0, none⟩) n c) ∧ OwI w' w.heap.size g n c (saveR img (nameR { r with num := i } size l ind)) ∧ Below w.heap.size w w' := by
  have hlm := hl.lenN
  have hli := h.lenS
  have h4 := hr.bl
  have H := Lib.hid (And.intro h hl)
  have B0 := BI.new w r
  have B1 := B0.setSize size
  have B2 := B1.setInd h4 ind
  have f0 := B0.free 1
  have s0 := B0.size
  have s6 := B0.ind h4
  have f6 := B0.free 6
  have f1 := B1.free 6
  have s1 := B1.ind h4
  have hb0 := (((Below.refl w.heap.size w).alloc (Nat.le_refl _) (.cells (cellsI r).toArray 47)).setCell (p := ⟨w.heap.size, 1, none⟩) (Nat.le_refl _) (.int .i64 (size : Int))).setCell (p := ⟨w.heap.size, 6, none⟩) (Nat.le_refl _) (.int .i64 (ind : Int))
  have K0 : Hid (BI (((w.alloc (.cells (cellsI r).toArray 47)).setCell ⟨w.heap.size, 1, none⟩ (.int .i64 (size : Int))).setCell ⟨w.heap.size, 6, none⟩ (.int .i64 (ind : Int))) w.heap.size { r with size := size, ind := ind, bl := blL r.bl l 0 } ∧ Below w.heap.size w (((w.alloc (.cells (cellsI r).toArray 47)).setCell ⟨w.heap.size, 1, none⟩ (.int .i64 (size : Int))).setCell ⟨w.heap.size, 6, none⟩ (.int .i64 (ind : Int)))) := Lib.hid ⟨by rw [blL_zero]; exact B2, hb0⟩
  clear B0 B1 B2 hb0
  unfold valI
  go_enter Tryz.func48, Tryz.ntmps48
  go_upto_region 1 with fail
  generalize w.alloc (.cells (cellsI r).toArray 47) = wa at *
  go_wp2

  clear f0 s0 f1 s1 s6 f6
  generalize (wa.setCell ⟨w.heap.size, 1, none⟩ (.int .i64 (size : Int))).setCell ⟨w.heap.size, 6, none⟩ (.int .i64 (ind : Int)) = w1 at K0 ⊢
  go_loopg [13] 4 (fun gk s13 wr => ∃ j : Nat, j ≤ 4 ∧ 4 - j ≤ gk ∧ s13 = .int .i64 j ∧ Hid (BI wr w.heap.size { r with size := size, ind := ind, bl := blL r.bl l j } ∧ Below w.heap.size w wr))
  case atStart => exact ⟨0, Nat.zero_le _, by omega, rfl, K0⟩
  case round =>
    clear K0
    obtain ⟨j, hj, hgk, rfl, J⟩ := hrel
    by_cases hlt : j < 4
    · have hji : (j : Int) < 4 := by omega
      have hbl : (blL r.bl l j).length = 4 := blL_len h4 (by omega)
      have c1 := J.out.1.bl (j := j) (by show j < (blL r.bl l j).length; omega)
      have f1 := J.out.1.free (2 + j)
      have b1 : BI (wr.setCell ⟨w.heap.size, 2 + j, none⟩ (.int .i64 0)) w.heap.size { r with size := size, ind := ind, bl := (blL r.bl l j).set j 0 } := J.out.1.setBl (j := j) (by show j < (blL r.bl l j).length; omega) 0
      have e1 : Below w.heap.size w (wr.setCell ⟨w.heap.size, 2 + j, none⟩ (.int .i64 0)) := J.out.2.setCell (p := ⟨w.heap.size, 2 + j, none⟩) (Nat.le_refl _) (.int .i64 0)
      have hset : ((blL r.bl l j).set j 0).set j (l.getD j 0) = blL r.bl l (j + 1) := by rw [List.set_set, blL_set h4 hlt]
      by_cases hjm : j < m
      · have hjm2 : (j : Int) < (m : Int) := by omega
        have hls : j < ((blL r.bl l j).set j 0).length := by simp; omega
        have c2 := b1.bl (j := j) hls
        have f2 := b1.free (2 + j)
        have b2 : BI ((wr.setCell ⟨w.heap.size, 2 + j, none⟩ (.int .i64 0)).setCell ⟨w.heap.size, 2 + j, none⟩ (.int .i64 (l.getD j 0 : Nat))) w.heap.size { r with size := size, ind := ind, bl := ((blL r.bl l j).set j 0).set j (l.getD j 0) } := b1.setBl (j := j) hls (l.getD j 0)
        rw [hset] at b2
        have e2 := e1.setCell (p := ⟨w.heap.size, 2 + j, none⟩) (Nat.le_refl _) (.int .i64 (l.getD j 0 : Nat))
        have JN := Lib.hid (And.intro b2 e2)
        obtain ⟨b3, o3, rfl, _, g3⟩ := (H.out.2.step e1).nat hjm
        clear b1 b2 e1 e2 J hset
        dsimp only at c1 c2
        generalize l.getD j 0 = x at *
        go_wp2
        go_roundg (4 - (j + 1))
        case measure => omega
        case rel => exact ⟨j + 1, by omega, by omega, by go_num, JN⟩
      · have hjm2 : ¬ (j : Int) < (m : Int) := by omega
        have hx0 : l.getD j 0 = 0 := by rw [List.getD_eq_getElem?_getD, List.getElem?_eq_none (by omega)]; rfl
        rw [hx0, List.set_set] at hset
        rw [hset] at b1
        have JN := Lib.hid (And.intro b1 e1)
        clear b1 e1 J hset hx0
        go_wp2
        go_roundg (4 - (j + 1))
        case measure => omega
        case rel => exact ⟨j + 1, by omega, by omega, by go_num, JN⟩
    · have : j = 4 := by omega
      subst this
      have J4 : Hid (BI wr w.heap.size { r with size := size, ind := ind, bl := padN 4 (l.take 4) } ∧ Below w.heap.size w wr) := Lib.hid ⟨by have := J.out.1; rw [blL_end h4] at this; exact this, J.out.2⟩
      clear J
      have hp4 : (padN 4 (l.take 4)).length = 4 := padN_length (by simp; omega)
      have hr3 : OkR { r with size := size, ind := ind, bl := padN 4 (l.take 4) } := ⟨hp4, hr.ls, hr.num, hr.kind, by show size < _; omega, by show ind < _; omega⟩
      have hw3 : OkW { r with size := size, ind := ind, bl := padN 4 (l.take 4) } := ⟨hp4, hr.kind, by show size < _; omega, fun k hk => by
        rcases List.mem_append.1 (show k ∈ l.take 4 ++ List.replicate (4 - (l.take 4).length) 0 from hk) with h1 | h1
        · have := hlx k (List.mem_of_mem_take h1); omega
        · rw [(List.mem_replicate.1 h1).2]; omega, by show ind ≤ _; omega⟩
      have h7 := cellsI_length hr3
      have cP := fun W hW => refPut_any A n c0 img i { r with size := size, ind := ind, bl := padN 4 (l.take 4) } W hW hf h8 h5 hi hw3 h7 (textR_size hr3)
      unfold valI at cP
      have HS : Hid (saveR img (nameR { r with num := i } size l ind) = if ind = 0 then putI img (2 + i / 4) (32 * (i % 4)) (textR { r with size := size, ind := ind, bl := padN 4 (l.take 4) }) else putI (putI img (2 + i / 4) (32 * (i % 4)) (textR { r with size := size, ind := ind, bl := padN 4 (l.take 4) })) ind 0 (listB (padN 64 ((l.drop 4).take 64)))) := Lib.hid rfl
      have hpl := putI_length img (2 + i / 4) (32 * (i % 4)) (textR { r with size := size, ind := ind, bl := padN 4 (l.take 4) })
      clear hw3
      go_wp2_with (refine wpList_load_mid rfl _ _ rfl w.heap.size 0 rfl (cellsI { r with size := size, ind := ind, bl := padN 4 (l.take 4) }) _ J4.out.1.range Tryz.underlying47 rfl (by rw [h7]; exact sizeIn) ?_)
      refine (cP _ (H.out.1.step J4.out.2)).mono ?_
      rintro e w5 ⟨g5, c5, rfl, hO5, hb5⟩
      have K5 := Lib.hid (And.intro (hO5.low J4.out.2.size) (bstep J4.out.2 hb5))
      clear hO5 hb5 J4 cP h7 hr3 hp4
      generalize putI img (2 + i / 4) (32 * (i % 4)) (textR { r with size := size, ind := ind, bl := padN 4 (l.take 4) }) = mm at *
      by_cases h0 : ind = 0
      · have hi0 : ¬ (0 : Int) < (ind : Int) := by omega
        go_wp2
        go_ret
        rw [HS.out, if_pos h0]
        exact ⟨g5, c5, rfl, K5.out.1, K5.out.2⟩
      · have hi0 : (0 : Int) < (ind : Int) := by omega
        have h4m := hi4 (by omega)
        obtain ⟨b3, o3, rfl, _, _⟩ := H.out.2.nat (show 0 < m by omega)
        have hs1 : (4 : Int) ≤ (m : Int) := by omega
        have hs2 : (m : Int) ≤ (cm : Int) := by omega
        have hne : ¬ cm = 4 := by omega
        have hindn : (ind : Int) < (n : Int) := by omega
        have cI := fun W hW => refIndirect_any (some ⟨b3, o3 + 4, none⟩) (m - 4) (cm - 4) (l.drop 4) W hW (by omega) (fun x hx => hlx x (List.mem_of_mem_drop hx))
        have HOV : Hid (putI mm ind 0 (listB (padN 64 ((l.drop 4).take 64))) = mm.set ind (listB (padN 64 (l.drop 4)))) := Lib.hid (by
          rw [List.take_of_length_le (by rw [List.length_drop]; omega)]
          unfold putI
          rw [if_pos (by omega), over_allL (by rw [listB_size, padN_length (by rw [List.length_drop]; omega), blkI_size])])
        go_wp2_with fail
        refine (cI _ ((H.out.2.step K5.out.2).drop (by omega))).mono ?_
        rintro e w6 ⟨rfl, hb6⟩
        have K6 := Lib.hid (And.intro (K5.out.1.step hb6) (bstep K5.out.2 hb6))
        have hc6 := K6.out.1.cell ind hin
        have hf6 := K6.out.1.free ind
        clear hb6 K5 cI
        have K7 := Lib.hid (And.intro (K6.out.1.set ind (listB (padN 64 (l.drop 4)))) (K6.out.1.below_set ind (.string (listB (padN 64 (l.drop 4)))) (Nat.le_refl _) K6.out.2))
        generalize listB (padN 64 (l.drop 4)) = lb at *
        go_wp2
        go_ret
        rw [HS.out, if_neg h0, HOV.out]
        exact ⟨g5, c5, rfl, K7.out.1, K7.out.2⟩

end Go.Proofs.YtpdfkakhahfcjaaGreat

/-
  The document's own answer: blocks given back; the image told is the call's own.
-/
namespace Go.Proofs.YtpdfkakhahfcjaaGreat
open Go.RowKit

set_option maxRecDepth 100000 in
set_option maxHeartbeats 4000000 in
theorem refGiveO_any (A B : Option Addr) (n c m cm : Nat) (img : List ByteArray) (l : List Int) (w : World) (h : Reads w w.heap.size 1 A n (encS img)) (hf : MapP img) (hB : Reads w w.heap.size 1 B m (encI l)) (hm : m ≤ 17592186044416) :
    Calls Tryz.prog 42 #[.slice A n c, .slice B m cm] w fun e w' => ImgsO w w' (giveA img l).1 (giveA img l).2 e := by
  have hl := h.lenS
  have hlm := hB.lenI
  have h8 : 8 ≤ n := by have := hf.1; omega
  have h5 : n ≤ 512 := by have := hf.1; omega
  obtain ⟨F, hF⟩ : ∃ F, F = firstA n := ⟨_, rfl⟩
  have cf := fun A c W => refFirst_any A n c (by unfold maxLen; omega) W
  have co := fun W hW => refOwn_any A n c img W hW (by omega)
  rw [← hF] at cf
  have HO : Hid (∀ x, outA img x ↔ (x < (F : Int) ∨ (n : Int) ≤ x)) := Lib.hid (fun x => by unfold outA; rw [hl, hF])
  have hF34 : F ≤ 34 := by have := first_le h8 h5; omega
  have HL := Lib.hid (And.intro hl hlm)
  have HM := Lib.hid hf
  have H := Lib.hid (And.intro h hB)
  have ct := fun (A : Option Addr) (c : Nat) (ci : List ByteArray) (i : Int) W hW hc => refTaken_any A n c ci i W hW hc
  clear h hB hl hlm hF hf
  go_enter Tryz.func42, Tryz.ntmps42
  go_wp2
  go_loopg [6] m (fun gk s6 wr => ∃ i : Nat, i ≤ m ∧ m - i ≤ gk ∧ s6 = .int .i64 i ∧ Hid (Below w.heap.size w wr) ∧ Hid (∀ k, k < i → ¬ outA img (l.getD k 0)))
  case atStart => exact ⟨0, Nat.zero_le _, by omega, rfl, Lib.hid (Below.refl _ _), Lib.hid fun k hk => absurd hk (Nat.not_lt_zero _)⟩
  case round =>
    obtain ⟨i, hi, hgk, rfl, B0, J⟩ := hrel
    by_cases hlt : i < m
    · have hil : (i : Int) < (m : Int) := by omega
      obtain ⟨b, o, rfl, hbb, g0⟩ := H.out.2.int hlt
      have g1 := (B0.out.cell (p := ⟨b, o + i, none⟩) hbb).trans g0
      clear g0 hbb
      have HLX : Hid (i < l.length) := Lib.hid (by rw [HL.out.2]; exact hlt)
      obtain ⟨x, hx⟩ : ∃ x, x = l.getD i 0 := ⟨_, rfl⟩
      rw [← hx] at g1
      have HX := Lib.hid hx
      clear hx
      by_cases d1 : x < (F : Int)
      · have d1d : decide (x < (F : Int)) = true := decide_eq_true d1
        have HE := Lib.hid (giveA_out (img := img) (l := l) (x := x) (by rw [HX.out]; exact int_mem HLX.out) ((HO.out x).2 (.inl d1)))
        go_wp2
        go_quiet ((go_at_call 22; refine Calls.quiet_of_same ((cf _ _ _).mono fun e w' h => ⟨h.1, h.2.symm⟩)))
        go_wp2_with fail
        refine (co _ (H.out.1.step (below_drewN B0.out nq))).mono ?_
        rintro e w1 ⟨A1, c1, rfl, ho1, hb1⟩
        obtain ⟨g1, rfl, hO1⟩ := OwI.of ho1 (by omega)
        have HR := Lib.hid (And.intro (hO1.low (below_drewN B0.out nq).size) (bstep (below_drewN B0.out nq) hb1))
        clear ho1 hb1 hO1
        go_wp2
        go_ret2
        rw [HE.out]
        exact ⟨g1, n, c1, rfl, HR.out.1, h5, HR.out.2⟩
      · have d1d : decide (x < (F : Int)) = false := decide_eq_false d1
        by_cases d2 : (n : Int) ≤ x
        · have d2d : decide ((n : Int) ≤ x) = true := decide_eq_true d2
          have HE := Lib.hid (giveA_out (img := img) (l := l) (x := x) (by rw [HX.out]; exact int_mem HLX.out) ((HO.out x).2 (.inr d2)))
          go_wp2
          go_quiet ((go_at_call 22; refine Calls.quiet_of_same ((cf _ _ _).mono fun e w' h => ⟨h.1, h.2.symm⟩)))
          go_wp2_with fail
          refine (co _ (H.out.1.step (below_drewN B0.out nq))).mono ?_
          rintro e w1 ⟨A1, c1, rfl, ho1, hb1⟩
          obtain ⟨g1, rfl, hO1⟩ := OwI.of ho1 (by omega)
          have HR := Lib.hid (And.intro (hO1.low (below_drewN B0.out nq).size) (bstep (below_drewN B0.out nq) hb1))
          clear ho1 hb1 hO1
          go_wp2
          go_ret2
          rw [HE.out]
          exact ⟨g1, n, c1, rfl, HR.out.1, h5, HR.out.2⟩
        · have d2d : decide ((n : Int) ≤ x) = false := decide_eq_false d2
          have JN : Hid (∀ k, k < i + 1 → ¬ outA img (l.getD k 0)) := Lib.hid fun k hk => by
            by_cases e : k = i
            · rw [e, ← HX.out, HO.out]; omega
            · exact J.out k (by omega)
          go_wp2
          go_quiet ((go_at_call 22; refine Calls.quiet_of_same ((cf _ _ _).mono fun e w' h => ⟨h.1, h.2.symm⟩)))
          go_wp2
          go_roundg (m - (i + 1))
          case measure => omega
          case rel => exact ⟨i + 1, by omega, by omega, by go_num, Lib.hid (below_drewN B0.out nq), JN⟩
    · have : i = m := by omega
      subst this
      have HIN : Hid (∀ x ∈ l, ¬ outA img x) := Lib.hid fun x hx => by
        obtain ⟨k, hk, e⟩ := List.mem_iff_getElem.1 hx
        have := J.out k (by rw [← HL.out.2]; exact hk)
        rw [List.getD_eq_getElem?_getD, List.getElem?_eq_getElem hk] at this
        rw [← e]; exact this
      have HG := Lib.hid (giveA_in HIN.out)
      clear J
      go_wp2_with fail
      refine (co _ (H.out.1.step B0.out)).mono ?_
      rintro e w1 ⟨A1, c1, rfl, ho1, hb1⟩
      obtain ⟨g1, rfl, hO1⟩ := OwI.of ho1 (by omega)
      have J1 : Hid (OwI w1 w.heap.size g1 n c1 img ∧ Below w.heap.size w w1) := Lib.hid ⟨hO1.low B0.out.size, bstep B0.out hb1⟩
      clear ho1 hb1 B0 hO1
      go_wp2
      go_loopg [7, 8] i (fun gk s7 s8 wr => ∃ (j g2 c2 : Nat) (ci : List ByteArray), j ≤ i ∧ i - j ≤ gk ∧ s8 = .int .i64 j ∧ s7 = .slice (some ⟨g2, 0, none⟩) n c2 ∧ Hid (gaveA img (l.take j) = some ci) ∧ Hid (OwI wr w.heap.size g2 n c2 ci ∧ Below w.heap.size w wr))
      case atStart => exact ⟨0, g1, c1, img, Nat.zero_le _, by omega, rfl, rfl, Lib.hid rfl, J1⟩
      case round =>
        clear J1
        obtain ⟨j, g2, c2, ci, hj, hgk, rfl, rfl, K, J⟩ := hrel
        by_cases hlt : j < i
        · have hil : (j : Int) < (i : Int) := by omega
          obtain ⟨b, o, rfl, hbb, g0⟩ := H.out.2.int hlt
          have HLX : Hid (j < l.length) := Lib.hid (by rw [HL.out.2]; exact hlt)
          have g1 := (J.out.2.cell (p := ⟨b, o + j, none⟩) hbb).trans g0
          have HNO := Lib.hid (HIN.out _ (int_mem HLX.out))
          obtain ⟨x, hx⟩ : ∃ x, x = l.getD j 0 := ⟨_, rfl⟩
          rw [← hx] at g1 HNO
          have HX := Lib.hid hx
          have hxr : (F : Int) ≤ x ∧ x < (n : Int) := by
            have := HNO.out
            rw [HO.out] at this
            omega
          obtain ⟨X, hX⟩ : ∃ X : Nat, x = X := ⟨x.toNat, by omega⟩
          subst hX
          have hXn : X < n := by omega
          have MC := Lib.hid (gave_MapP _ HM.out K.out)
          have cti := ct (some ⟨g2, 0, none⟩) c2 ci X _ J.out.1.reads MC.out.1
          rw [takenA_in (by rw [MC.out.2, HL.out.1]; exact hXn)] at cti
          obtain ⟨t, ht⟩ : ∃ t, t = bitA (blk ci 1) X := ⟨_, rfl⟩
          rw [← ht] at cti
          have HT := Lib.hid ht
          have HB := Lib.hid hbb
          clear hx ht g0 hbb hxr
          cases t with
          | true =>
            have KN := Lib.hid (gave_yes K.out HLX.out (by rw [← HX.out, Int.toNat_natCast]; exact HT.out.symm))
            rw [← HX.out, Int.toNat_natCast] at KN
            have cset := refSet_any (some ⟨g2, 0, none⟩) n c2 ci X false _ J.out.1.reads MC.out.1 (by omega)
            rw [setI_back HT.out.symm] at cset
            go_wp2_with (go_at_call 23; refine cti.mono ?_; rintro e w3 ⟨rfl, rfl⟩)
            refine cset.mono ?_
            rintro e w8 ⟨g8, c9, rfl, hO8, hb8⟩
            have JN := Lib.hid (And.intro (hO8.low J.out.2.size) (bstep J.out.2 hb8))
            clear hO8 hb8 J g1 cset cti
            go_wp2
            go_roundg (i - (j + 1))
            case measure => omega
            case rel => exact ⟨j + 1, _, c9, _, by omega, by omega, by go_num, rfl, KN, JN⟩
          | false =>
            have HE : Hid (giveA img l = (img, 20)) := Lib.hid (by rw [HG.out, gave_no K.out HLX.out (by rw [← HX.out, Int.toNat_natCast]; exact HT.out.symm)])
            have cown := co _ (H.out.1.step J.out.2)
            go_wp2_with (go_at_call 23; refine cti.mono ?_; rintro e w3 ⟨rfl, rfl⟩)
            refine cown.mono ?_
            rintro e w8 ⟨A8, c8, rfl, ho8, hb8⟩
            obtain ⟨g8, rfl, hO8⟩ := OwI.of ho8 (by omega)
            have HR := Lib.hid (And.intro (hO8.low J.out.2.size) (bstep J.out.2 hb8))
            clear hO8 ho8 hb8
            go_wp2
            go_ret2
            rw [HE.out]
            exact ⟨g8, n, c8, rfl, HR.out.1, h5, HR.out.2⟩
        · have : j = i := by omega
          subst this
          have HE : Hid (giveA img l = (ci, 0)) := Lib.hid (by
            have := K.out
            rw [List.take_of_length_le (by rw [HL.out.2]; exact Nat.le_refl _)] at this
            rw [HG.out, this])
          go_wp2
          go_ret2
          rw [HE.out]
          exact ⟨g2, n, c2, rfl, J.out.1, h5, J.out.2⟩


end Go.Proofs.YtpdfkakhahfcjaaGreat

/-
  The document's own answer: an inode made shorter (the walk's first part, and what is known of a sound image).
-/
namespace Go.Proofs.YtpdfkakhahfcjaaGreat
open Go.RowKit

theorem over_none {s : ByteArray} (h : s.size = 128) : s.extract 0 128 ++ zeroN 0 = s := by
  apply ByteArray.ext
  rw [ByteArray.data_append]
  apply Array.ext'
  rw [Array.toList_append, ext_toList, List.drop_zero, Nat.sub_zero, List.take_of_length_le (by simp; exact Nat.le_of_eq h)]
  have : (zeroN 0).data.toList = [] := by rw [zeroN_mkB]; rfl
  rw [this, List.append_nil]
/-- The last block's rest, as the document clears it. -/
theorem last_put {m : List ByteArray} {b size : Nat} (hb : b < m.length) (hs : (blk m b).size = 128) (h0 : 0 < needN size) :
    m.set b ((blk m b).extract 0 (size - (needN size - 1) * 128) ++ zeroN (128 - (size - (needN size - 1) * 128))) = if 0 < size % 128 then putI m b (size % 128) (zeroN (128 - size % 128)) else m := by
  have hbi : blkI m b = blk m b := by unfold blkI; rw [if_pos ⟨hb, hs⟩]
  by_cases h : 0 < size % 128
  · have hk : size - (needN size - 1) * 128 = size % 128 := by unfold needN; omega
    have hz : (zeroN (128 - size % 128)).size = 128 - size % 128 := by rw [zeroN_mkB, mkB_size, List.length_replicate]
    have hc := over_cat (s := blk m b) (t := zeroN (128 - size % 128)) (o := size % 128)
    rw [if_pos h, hk]
    unfold putI
    rw [if_pos hb, hbi, ← hc, hz, hs]
    congr 1
    have e : ((blk m b).extract (size % 128 + (128 - size % 128)) 128) = ByteArray.empty := by
      apply ByteArray.ext
      apply Array.ext'
      rw [ext_toList]
      have : size % 128 + (128 - size % 128) = 128 := by omega
      rw [this]; simp
    rw [e, ByteArray.append_empty]
  · have hk : size - (needN size - 1) * 128 = 128 := by unfold needN at h0 ⊢; omega
    rw [if_neg h, hk, Nat.sub_self, over_none hs]
    unfold blk
    rw [List.getD_eq_getElem?_getD, List.getElem?_eq_getElem hb]
    simp

/-- What is known of an inode of a sound image that is made shorter. -/
structure ShrP (img : List ByteArray) (k size : Nat) (m : List ByteArray) (ind : Nat) : Prop where
  len : img.length = m.length
  ok : OkR (recI img k)
  small : (recI img k).size ≤ 8704
  nd : (dataR (recI img k)).length = needN (recI img k).size
  nle : needN size ≤ needN (recI img k).size
  n68 : needN (recI img k).size ≤ 68
  lt : ∀ x ∈ dataR (recI img k), x < img.length
  indlt : (recI img k).ind < img.length
  give : giveA img (castN (backI (recI img k) size)) = (m, 0)
  blks : ∀ b ∈ m, b.size = 128
  ind4 : 0 < ind → 4 < needN size
  inde : ind = if needN size ≤ 4 ∧ (recI img k).ind ≠ 0 then 0 else (recI img k).ind
  res : shrinkI img (recI img k) size = (saveR (if 0 < size % 128 then putI m (((dataR (recI img k)).take (needN size)).getD (needN size - 1) 0) (size % 128) (zeroN (128 - size % 128)) else m) (nameR (recI img k) size ((dataR (recI img k)).take (needN size)) ind), 0)
theorem shrP_of {img : List ByteArray} (hs : SoundP img) {k : Nat} (hk : k < cntA img.length) (hkd : (recI img k).kind ≠ 0) {size : Nat} (h1 : size ≤ (recI img k).size) : ∃ m ind, ShrP img k size m ind := by
  have hq := (soundQ_iff img).1 hs
  have hkk : (recI img k).kind = 1 ∨ (recI img k).kind = 2 := (form_kind (hq.form k hk)).resolve_left hkd
  have hC := (first_le hq.fit.1.1 hq.fit.1.2).2.2.2.1
  have hr := recI_ok img k (by omega)
  have hfs := form_size hkk (hq.form k hk)
  have hn68 := need_le hfs.1
  have hd0 : (dataR (recI img k)).length = needN (recI img k).size := by rw [dataR_length hr]; omega
  have hnn := need_mono h1
  have hsub : ∀ b ∈ backI (recI img k) size, b ∈ namedR (recI img k) := fun b hb => by
    unfold backI at hb
    unfold namedR
    rcases List.mem_append.1 hb with h | h
    · exact List.mem_append_left _ (List.mem_of_mem_drop h)
    · refine List.mem_append_right _ ?_
      by_cases h4 : needN size ≤ 4 ∧ (recI img k).ind ≠ 0
      · rw [if_pos h4] at h
        rw [if_neg h4.2]; exact h
      · rw [if_neg h4] at h; cases h
  have hnd : (backI (recI img k) size).Nodup := by
    have hone := hq.once k hk
    unfold namedR at hone
    unfold backI
    by_cases h4 : needN size ≤ 4 ∧ (recI img k).ind ≠ 0
    · rw [if_pos h4]
      rw [if_neg h4.2] at hone
      have := List.take_append_drop (needN size) (dataR (recI img k))
      rw [← this, List.append_assoc] at hone
      exact (List.nodup_append.1 hone).2.1
    · rw [if_neg h4, List.append_nil]
      exact ((List.nodup_append.1 hone).1).sublist (List.drop_sublist _ _)
  obtain ⟨m, hgv, hml, hmf, _, _⟩ := gave_all hq.fit hnd (fun b hb => hq.named k hk b (hsub b hb))
  have hin : ∀ x ∈ namedR (recI img k), x < img.length := fun x hx => (sound_in hs hk hx).2
  refine ⟨m, _, hml.symm, hr, hfs.1, hd0, hnn, hn68, fun x hx => hin x (List.mem_append_left _ hx), ?_, hgv, hmf.2.1, ?_, rfl, ?_⟩
  · by_cases h0 : (recI img k).ind = 0
    · rw [h0]; have := hq.fit.1.1; omega
    · exact hin _ (by unfold namedR; rw [if_neg h0]; simp)
  · intro h
    by_cases h4 : needN size ≤ 4 ∧ (recI img k).ind ≠ 0
    · rw [if_pos h4] at h; omega
    · rw [if_neg h4] at h; omega
  · unfold shrinkI
    rw [hgv, if_neg (by simp)]

end Go.Proofs.YtpdfkakhahfcjaaGreat
