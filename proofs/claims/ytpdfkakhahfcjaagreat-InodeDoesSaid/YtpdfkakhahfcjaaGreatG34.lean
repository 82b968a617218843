/-
  The document's own answer: what is known of an inode of a sound image that is made longer.
-/
import Derived.Test.YtpdfkakhahfcjaaGreatG32
import Derived.Test.YtpdfkakhahfcjaaGreatG30
import Derived.Test.YtpdfkakhahfcjaaGreatG05
import Derived.Test.YtpdfkakhahfcjaaGreatG17
import Derived.Test.YtpdfkakhahfcjaaGreatG33
namespace Go.Proofs.YtpdfkakhahfcjaaGreat
open Go.RowKit

/-- What is known of an inode of a sound image that is made longer, where blocks are left. -/
structure GroP (img : List ByteArray) (k size : Nat) (tk : List ByteArray) (LL : List Nat) (ind : Nat) : Prop where
  len : img.length = tk.length
  llen : LL.length = moreN (recI img k).size size
  ltL : ∀ x ∈ LL, x < img.length
  take : takeA img (moreN (recI img k).size size : Int) = (tk, LL, 0)
  blks : ∀ b ∈ tk, b.size = 128
  inde : ind = if needN size - needN (recI img k).size < LL.length then LL.getD (needN size - needN (recI img k).size) 0 else (recI img k).ind
  res : growI img (recI img k) size = (saveR tk (nameR (recI img k) size (dataR (recI img k) ++ LL.take (needN size - needN (recI img k).size)) ind), 0)
/-- Of any inode that is made longer. -/
structure GroA (img : List ByteArray) (k size : Nat) : Prop where
  ok : OkR (recI img k)
  small : (recI img k).size ≤ 8704
  nd : (dataR (recI img k)).length = needN (recI img k).size
  nle : needN (recI img k).size ≤ needN size
  n68 : needN size ≤ 68
  lt : ∀ x ∈ dataR (recI img k), x < img.length
  indlt : (recI img k).ind < img.length
  ind0 : 4 < needN (recI img k).size ↔ 0 < (recI img k).ind
  more : moreN (recI img k).size size = needN size - needN (recI img k).size + if 4 < needN size ∧ (recI img k).ind = 0 then 1 else 0
theorem groA_of {img : List ByteArray} (hs : SoundP img) {k : Nat} (hk : k < cntA img.length) (hkd : (recI img k).kind ≠ 0) {size : Nat} (h1 : (recI img k).size < size) (h2 : size ≤ 8704) : GroA img k size := by
  have hq := (soundQ_iff img).1 hs
  have hkk : (recI img k).kind = 1 ∨ (recI img k).kind = 2 := (form_kind (hq.form k hk)).resolve_left hkd
  have hC := (first_le hq.fit.1.1 hq.fit.1.2).2.2.2.1
  have hr := recI_ok img k (by omega)
  have hfs := form_size hkk (hq.form k hk)
  have hn68 := need_le hfs.1
  have hd0 : (dataR (recI img k)).length = needN (recI img k).size := by rw [dataR_length hr]; omega
  have hnn := need_mono (Nat.le_of_lt h1)
  have hin : ∀ x ∈ namedR (recI img k), x < img.length := fun x hx => (sound_in hs hk hx).2
  refine ⟨hr, hfs.1, hd0, hnn, need_le h2, fun x hx => hin x (List.mem_append_left _ hx), ?_, hfs.2, ?_⟩
  · by_cases h0 : (recI img k).ind = 0
    · rw [h0]; have := hq.fit.1.1; omega
    · exact hin _ (by unfold namedR; rw [if_neg h0]; simp)
  · have h4 := hfs.2
    show needAllN size - needAllN (recI img k).size = _
    unfold needAllN
    by_cases ha : 4 < needN size
    · rw [if_pos ha]
      by_cases hb : 4 < needN (recI img k).size
      · rw [if_pos hb, if_neg (by omega)]; omega
      · rw [if_neg hb, if_pos (by omega)]; omega
    · rw [if_neg ha, if_neg (by omega), if_neg (by omega)]; omega
theorem groF_of {img : List ByteArray} {k size : Nat} (h1 : (recI img k).size < size) (hf : (freeA img).length < moreN (recI img k).size size) : takeA img (moreN (recI img k).size size : Int) = (img, [], 18) ∧ growI img (recI img k) size = (img, 18) := by
  have e : takeA img (moreN (recI img k).size size : Int) = (img, [], 18) := by unfold takeA; rw [if_neg (by omega), if_pos (by omega)]
  refine ⟨e, ?_⟩
  unfold growI
  rw [more_cast (Nat.le_of_lt h1), e, if_pos (by simp)]
theorem groP_of {img : List ByteArray} (hs : SoundP img) {k size : Nat} (h1 : (recI img k).size < size) (hf : ¬ (freeA img).length < moreN (recI img k).size size) : ∃ tk LL ind, GroP img k size tk LL ind := by
  have hq := (soundQ_iff img).1 hs
  have e : takeA img (moreN (recI img k).size size : Int) = (tookA img ((freeA img).take (moreN (recI img k).size size)), (freeA img).take (moreN (recI img k).size size), 0) := by
    unfold takeA
    rw [if_neg (by omega), if_neg (by omega), Int.toNat_natCast]
  have hfit := took_fit hq.fit (n := moreN (recI img k).size size)
  have hF3 := (first_le hq.fit.1.1 hq.fit.1.2).1
  have hlen := (took_MapP hq.fit.map ((freeA img).take (moreN (recI img k).size size)) (fun x hx => by have := (freeTo_mem.1 (List.mem_of_mem_take hx)).2.1; omega)).2.1
  refine ⟨_, _, _, hlen.symm, ?_, fun x hx => (freeTo_mem.1 (List.mem_of_mem_take hx)).1, e, hfit.2.1, rfl, ?_⟩
  · rw [List.length_take]
    exact Nat.min_eq_left (Nat.le_of_not_lt hf)
  · unfold growI
    rw [more_cast (Nat.le_of_lt h1), e, if_neg (by simp)]
    rfl

end Go.Proofs.YtpdfkakhahfcjaaGreat

/-
  The document's own answer: blocks taken, the numbers told with their capacity.
-/
namespace Go.Proofs.YtpdfkakhahfcjaaGreat
open Go.RowKit

def ImgLC (w w' : World) (img : List ByteArray) (l : List Nat) (code : Int) (e : Ending) : Prop := ∃ A n c A2 k c2, e = .returned (.tuple #[.slice A n c, .slice A2 k c2, .int .i64 code]) ∧ Reads w' w'.heap.size 1 A n (encS img) ∧ n ≤ 512 ∧ Reads w' w'.heap.size 1 A2 k (encN l) ∧ k ≤ 512 ∧ k ≤ c2 ∧ Below w.heap.size w w'

set_option maxRecDepth 100000 in
set_option maxHeartbeats 4000000 in
theorem refTakeC_any (A : Option Addr) (n c : Nat) (img : List ByteArray) (x : Int) (w : World) (h : Reads w w.heap.size 1 A n (encS img)) (hf : MapP img) :
    Calls Tryz.prog 49 #[.slice A n c, .int .i64 x] w fun e w' => ImgLC w w' (takeA img x).1 (takeA img x).2.1 (takeA img x).2.2 e := by
  obtain ⟨u0, hu0, hz0, hz1, hz2⟩ := info_parts infoUA
  obtain ⟨i0, hi0, hy0, hy1, hy2⟩ := info_parts infoI
  have hl := h.lenS
  have h8 : 8 ≤ n := by have := hf.1; omega
  have h5 : n ≤ 512 := by have := hf.1; omega
  have co := fun W hW => refOwn_any A n c img W hW (by omega)
  by_cases hx : x < 0
  · have HE : Hid (takeA img x = (img, [], 13)) := Lib.hid (by unfold takeA; rw [if_pos hx])
    go_enter Tryz.func49, Tryz.ntmps49
    go_wp2_with fail
    refine (co _ h).mono ?_
    rintro e w1 ⟨A1, c1, rfl, ho1, hb1⟩
    go_wp2
    go_ret3
    rw [HE.out]
    exact ⟨A1, n, c1, none, 0, 0, rfl, .of_own ho1, h5, Reads.nil, by omega, Nat.le_refl 0, hb1⟩
  · obtain ⟨K, rfl⟩ : ∃ K : Nat, x = K := ⟨x.toNat, by omega⟩
    have cfr := refFree_any A n c img w h hf
    by_cases hK : (freeA img).length < K
    · have HE : Hid (takeA img K = (img, [], 18)) := Lib.hid (by unfold takeA; rw [if_neg hx, if_pos (by omega)])
      have H := Lib.hid h
      generalize (freeA img).length = fr at cfr hK
      have hK2 : (fr : Int) < (K : Int) := by omega
      clear h hl
      go_enter Tryz.func49, Tryz.ntmps49
      go_wp2_with (go_at_call 85; refine cfr.mono ?_; rintro e w8 ⟨rfl, rfl⟩)
      refine (co _ H.out).mono ?_
      rintro e w1 ⟨A1, c1, rfl, ho1, hb1⟩
      go_wp2
      go_ret3
      rw [HE.out]
      exact ⟨A1, n, c1, none, 0, 0, rfl, .of_own ho1, h5, Reads.nil, by omega, Nat.le_refl 0, hb1⟩
    · have HE : Hid (takeA img K = (tookA img ((freeA img).take K), (freeA img).take K, 0)) := Lib.hid (by unfold takeA; rw [if_neg hx, if_neg (by omega), Int.toNat_natCast])
      have HK : Hid (K ≤ (freeA img).length) := Lib.hid (by omega)
      have hfl := freeTo_len (img := img) img.length
      have hKn : K ≤ n := by unfold freeA at hK; omega
      generalize (freeA img).length = fr at cfr hK
      have hK2 : ¬ (fr : Int) < (K : Int) := by omega
      have ct := fun (i : Int) W hW => refTaken_any A n c img i W hW hf
      obtain ⟨F, hF⟩ : ∃ F, F = firstA n := ⟨_, rfl⟩
      have cf := fun W => refFirst_any A n c (by unfold maxLen; omega) W
      rw [← hF] at cf
      have HF : Hid (F = firstA img.length ∧ 3 ≤ F) := Lib.hid ⟨by rw [hl]; exact hF, by have := first_le h8 h5; omega⟩
      have hFn : F ≤ n := by have := first_le h8 h5; omega
      have HL := Lib.hid hl
      have HM := Lib.hid hf
      have H := Lib.hid h
      have hco := co w h
      clear h hl hx hK hF hf hfl
      go_enter Tryz.func49, Tryz.ntmps49
      go_wp2_with (go_at_call 85; refine cfr.mono ?_; rintro e w8 ⟨rfl, rfl⟩)
      refine hco.mono ?_
      rintro e w1 ⟨A1, c1, rfl, ho1, hb1⟩
      obtain ⟨g, rfl, hO⟩ := OwI.of ho1 (by omega)
      have T1 : Hid (Tk w w1 g n c1 img none 0 0 []) := Lib.hid ⟨hO, own_nil, hb1⟩
      clear hO ho1 hb1 hco
      go_wp2_with (go_at_call 22; refine (cf _).mono ?_; rintro e w8 ⟨rfl, rfl⟩)
      go_loopg [7, 8, 9] n (fun gk s7 s8 s9 wr => ∃ (i k : Nat) (g c1 : Nat) (A8 : Option Addr) (c8 : Nat), F ≤ i ∧ i ≤ n ∧ n - i ≤ gk ∧ k ≤ K ∧ s9 = .int .i64 i ∧ s7 = .slice (some ⟨g, 0, none⟩) n c1 ∧ s8 = .slice A8 k c8 ∧ Hid (Tk w wr g n c1 (tookA img (freeTo img i)) A8 k c8 (freeTo img i)))
      case atStart => exact ⟨F, 0, g, c1, none, 0, Nat.le_refl _, hFn, by omega, by omega, rfl, rfl, rfl, by rw [freeTo_zero (by rw [← HF.out.1]; exact Nat.le_refl _)]; exact T1⟩
      case round =>
        clear T1
        obtain ⟨i, k, g, c1, A8, c8, hFi, hi, hgk, hkK, rfl, rfl, rfl, T⟩ := hrel
        by_cases hlt : i < n
        · have hil : (i : Int) < (n : Int) := by omega
          by_cases hk : k < K
          · have hkl : (k : Int) < (K : Int) := by omega
            have cti := ct i wr (H.out.step T.out.below)
            rw [takenA_in (by rw [HL.out]; exact hlt)] at cti
            obtain ⟨t, ht⟩ : ∃ t, t = bitA (blk img 1) i := ⟨_, rfl⟩
            rw [← ht] at cti
            have HT := Lib.hid ht
            clear ht
            cases t with
            | true =>
              have TN : Hid (Tk w wr g n c1 (tookA img (freeTo img (i + 1))) A8 k c8 (freeTo img (i + 1))) := Lib.hid (by rw [freeTo_no HT.out.symm]; exact T.out)
              clear T
              go_wp2_with (go_at_call 23; refine cti.mono ?_; rintro e w3 ⟨rfl, rfl⟩)
              go_roundg (n - (i + 1))
              case measure => omega
              case rel => exact ⟨i + 1, k, g, c1, A8, c8, by omega, by omega, by omega, by omega, by go_num, rfl, rfl, TN⟩
            | false =>
              have HN : Hid (freeTo img (i + 1) = freeTo img i ++ [i]) := Lib.hid (freeTo_yes HT.out.symm (by rw [← HF.out.1]; exact hFi))
              have HB : Hid (bitA (blk (tookA img (freeTo img i)) 1) i = false ∧ MapP (tookA img (freeTo img i))) := Lib.hid ⟨by rw [free_took_bit HM.out (by rw [HL.out]; exact hi) i (Nat.le_refl _)]; exact HT.out.symm, (took_MapP HM.out _ (fun k hk => (free_in HM.out hk (by rw [HL.out]; exact hi)).1)).1⟩
              have hsz := T.out.below.size
              go_wp2_with (first
                | (go_at_call 23; refine cti.mono ?_; rintro e w3 ⟨rfl, rfl⟩)
                | (at_builtin; refine wpList_append_reads _ rfl (.tmp 40) (.tmp 42) 49 rfl w.heap.size 3 i0 _ 1 8 Tryz.underlying49 hi0 hy0 hy1 hy2 rfl (by omega) (.slice A8 k c8) k (encN (freeTo img i)) rfl (own_alloc T.out.ol _) _ (some ⟨wr.heap.size, 0, none⟩) 1 1 [.int .i64 (i : Int)] rfl (reads_new wr #[.int .i64 (i : Int)] 3 1 1 rfl) (by simp [Value.oneCell']) (by simp only [maxLen]; omega) (by omega) (by simp; omega) ?_; intro A6 c6 w6 ho6 hg6 _))
              have T6 := Lib.hid (T.out.app _ ho6 hg6)
              have cset := refSet_any (some ⟨g, 0, none⟩) n c1 (tookA img (freeTo img i)) i true _ T6.out.oi.reads HB.out.2 (by omega)
              rw [setI_turn HB.out.1] at cset
              clear ho6 hg6 T hsz cti
              go_wp2_with fail
              refine cset.mono ?_
              rintro e w8 ⟨g8, c9, rfl, hO8, hb8⟩
              have T8 := Lib.hid (T6.out.image hb8 hO8)
              clear hO8 hb8 T6 cset
              go_wp2_with (at_make; refine wpList_make_full _ rfl _ _ 53 rfl w8.heap.size 5 u0 _ 1 Tryz.underlying53 hu0 hz0 hz1 .i64 .i64 128 128 128 rfl rfl rfl rfl (by rw [hz2]; omega) (by simp only [maxLen]; omega) (Nat.le_refl _) ?_)
              intro w9 ho9 hg9
              have Y9 := made_byt ho9
              have hcv := Y9.conv (P := Tryz.prog) Tryz.underlying53 Tryz.underlying5 Tryz.underlying9 128 128 (by simp)
              rw [mkB_zeros] at hcv
              have hb9 : Below w8.heap.size w8 w9 := (Below.refl _ _).grown hg9 (Nat.le_refl _) (by intro k hk; cases hk)
              have T9 := Lib.hid (T8.out.step hb9)
              have cc := T9.out.oi.cell i hlt
              have ff := T9.out.oi.free i
              have TN : Hid (Tk w (w9.setCell ⟨g8, i, none⟩ (.string zeroB)) g8 n c9 (tookA img (freeTo img (i + 1))) A6 (k + 1) c6 (freeTo img (i + 1))) := Lib.hid (by
                have := T9.out.put i zeroB
                rw [HN.out, took_snoc]
                exact this)
              clear Y9 ho9 hg9 hb9 T8 T9
              go_wp2
              go_roundg (n - (i + 1))
              case measure => omega
              case rel => exact ⟨i + 1, k + 1, g8, c9, A6, c6, by omega, by omega, by omega, by omega, by go_num, rfl, rfl, TN⟩
          · have hkl : ¬ (k : Int) < (K : Int) := by omega
            have HEQ := Lib.hid (free_eq K i (by rw [HL.out]; exact hi) HK.out (by rw [T.out.len]; exact hkK) (.inr (by rw [T.out.len]; omega)))
            go_wp2
            go_ret3
            rw [HE.out, ← HEQ.out]
            exact ⟨_, n, c1, A8, k, c8, rfl, T.out.oi.reads, h5, .of_own T.out.ol, by omega, own_le T.out.ol, T.out.below⟩
        · have : i = n := by omega
          subst this
          have HEQ := Lib.hid (free_eq K i (by rw [HL.out]; exact hi) HK.out (by rw [T.out.len]; exact hkK) (.inl HL.out.symm))
          go_wp2
          go_ret3
          rw [HE.out, ← HEQ.out]
          exact ⟨_, i, c1, A8, k, c8, rfl, T.out.oi.reads, h5, .of_own T.out.ol, by omega, own_le T.out.ol, T.out.below⟩

end Go.Proofs.YtpdfkakhahfcjaaGreat

/-
  The document's own answer: an inode made longer.
-/
namespace Go.Proofs.YtpdfkakhahfcjaaGreat
open Go.RowKit

set_option maxRecDepth 100000 in
set_option maxHeartbeats 20000000 in
theorem refGrow_any (A : Option Addr) (n c : Nat) (img : List ByteArray) (k size : Nat) (w : World) (h : Reads w w.heap.size 1 A n (encS img)) (hs : SoundP img) (hk : k < cntA img.length) (hkd : (recI img k).kind ≠ 0) (h1 : (recI img k).size < size) (h2 : size ≤ 8704) :
    Calls Tryz.prog 15 #[.slice A n c, .int .i64 (k : Int), .int .i64 (size : Int)] w fun e w' => ImgsO w w' (growI img (recI img k) size).1 (growI img (recI img k) size).2 e := by
  have hz7 := (zero_of_info info7).1
  obtain ⟨i0, hj0, hy0, hy1, hy2⟩ := info_parts infoI
  have hl := h.lenS
  have h8 : 8 ≤ n := by have := hs.fit.1; omega
  have h5 : n ≤ 512 := by have := hs.fit.1; omega
  have p := groA_of hs hk hkd h1 h2
  have hg : getI img (k : Int) = (recI img k, 0) := by unfold getI; rw [if_neg (by omega), Int.toNat_natCast]
  have cH := refHeld_any A n c img (k : Int) w h hs.fit
  rw [show heldS img (k : Int) = (recI img k, 0) by unfold heldS; rw [hg]; simp [hkd]] at cH
  unfold GetP valI at cH
  have hC := (first_le hs.fit.1.1 hs.fit.1.2).2.2.2.1
  have hcd := shaped_cond (sound_shaped hs hk)
  have hdr := dataS_rec hs.fit (show k ≤ 1024 by omega) hcd.2.1 (fun h4 => ⟨hcd.2.2.1.1 h4, hcd.2.2.2 (hcd.2.2.1.1 h4)⟩)
  have cN := fun W hW => refNamed_any A n c img (recI img k) W hW hs.fit p.ok.bl (by have := p.nle; have := p.n68; omega) (fun h4 => by rw [← hl]; exact p.indlt)
  rw [hdr] at cN
  unfold RowP valI at cN
  have cS := fun W => refNeeds_any size (by omega) W
  have cO := fun W hW => refOwn_any A n c img W hW (by omega)
  have cT := fun W hW => refTakeC_any A n c img (moreN (recI img k).size size : Int) W hW hs.fit.map
  unfold ImgLC at cT
  have hkn : k < cntA n := by rw [← hl]; exact hk
  have hnum : ({ recI img k with num := k } : RecI) = recI img k := rfl
  have hF := fun hf => groF_of (img := img) (k := k) h1 hf
  have hP := fun hf => groP_of (k := k) hs h1 hf
  have hlt : ∀ x ∈ dataR (recI img k), x < n := fun x hx => by rw [← hl]; exact p.lt x hx
  have hind : (recI img k).ind < n := by rw [← hl]; exact p.indlt
  obtain ⟨hok, hsml, hnd, hnle, h68, _, _, hind0, hmore⟩ := p
  clear hs hcd hdr hg hkd
  by_cases hf : (freeA img).length < moreN (recI img k).size size
  · rw [(hF hf).1] at cT
    rw [(hF hf).2]
    clear hF hP hf
    generalize recI img k = r at *
    have HK := Lib.hid (And.intro hk hkn)
    have H := Lib.hid h
    have HR := Lib.hid hok
    have HNUM := Lib.hid hnum
    have HLT := Lib.hid hlt
    obtain ⟨L, hL⟩ : ∃ L, L = needN r.size := ⟨_, rfl⟩
    obtain ⟨q, hq⟩ : ∃ q, q = needN size := ⟨_, rfl⟩
    have HLQ := Lib.hid (And.intro hL hq)
    rw [← hL] at hnd hnle hind0 hmore
    rw [← hq] at cS hnle h68 hmore
    obtain ⟨mm, hmm⟩ : ∃ mm, mm = moreN r.size size := ⟨_, rfl⟩
    rw [← hmm] at cT hmore
    have HMM := Lib.hid hmm
    have HM := Lib.hid (And.intro hmore hind0)
    have hmm2 : mm ≤ 69 := by rw [hmore]; split <;> omega
    have hdl : (dataR r).length = L := hnd
    clear h hok hnum hlt hk hkn hL hC hq hmm hmore hind0
    have hx0 : decide ((size : Int) < 0) = false := decide_eq_false (by omega)
    have hx1 : decide ((8704 : Int) < (size : Int)) = false := decide_eq_false (by omega)
    have hx2 : decide ((size : Int) ≤ (r.size : Int)) = false := decide_eq_false (by omega)
    have hx2n : decide (size ≤ r.size) = false := decide_eq_false (by omega)
    go_enter Tryz.func15, Tryz.ntmps15
    go_wp2_with fail
    refine cH.mono ?_
    rintro e w1 ⟨rfl, hb1⟩
    have hh1 := heap_alloc_new w1 (.cells (cellsI (zeroR 0)).toArray 47)
    obtain ⟨gx, hgx⟩ : ∃ gx, gx = w1.heap.size := ⟨_, rfl⟩
    have K2 := bstep hb1 (((Below.refl w1.heap.size w1).alloc (Nat.le_refl _) (.cells (cellsI (zeroR 0)).toArray 47)).trans (below_setRow _ (Nat.le_refl _) (cellsI r).toArray))
    have B2 := (BI.new w1 (zeroR 0)).setRow r
    have K2 := Lib.hid (And.intro K2 B2)
    clear hb1 cH B2
    go_upto_region 8 with (refine wpList_store_row rfl _ _ _ rfl w1.heap.size (cellsI r).toArray rfl rfl _ (cellsI (zeroR 0)).toArray hh1 (sizeI HR.out) (holdI okz HR.out) (all_oneCell_toArray (cellsI_one _)) ?_)
    clear hh1
    rw [← hgx] at K2 ⊢
    generalize (w1.alloc (.cells (cellsI (zeroR 0)).toArray 47)).setRow gx (cellsI r).toArray = w2 at K2 ⊢
    clear hgx
    go_wp2_with (refine wpList_load_mid rfl _ _ rfl gx 0 rfl (cellsI r) _ (K2.out.2.range) Tryz.underlying47 rfl (by rw [cellsI_length HR.out]; exact sizeIn) ?_)
    refine (cN w2 (H.out.step K2.out.1)).mono ?_
    rintro e w3 ⟨A3, c3, rfl, ho3, hb3⟩
    rw [hdl] at ho3 ⊢
    have K3 := Lib.hid (And.intro (bstep K2.out.1 hb3) (And.intro (K2.out.2.step hb3) (own_base ho3 K2.out.1.size)))
    have hc6 := K3.out.2.1.ind HR.out.bl
    have hc1 := K3.out.2.1.size
    have hgx3 : gx < w3.heap.size := K3.out.2.1.lt
    clear ho3 hb3 K2 cN
    have hwq : IntKind.i64.wrap ((q : Int) - (L : Int)) = (q : Int) - (L : Int) := by rw [IntKind.wrap_i64]; omega
    by_cases hq4 : 4 < q
    · have hq4i : (4 : Int) < (q : Int) := by omega
      have hq4d : decide ((4 : Int) < (q : Int)) = true := decide_eq_true hq4i
      have hq4n : decide (4 < q) = true := decide_eq_true hq4
      by_cases hi0 : r.ind = 0
      · have hie : ((r.ind : Int) == 0) = true := by simp [hi0]
        have hien : (r.ind == 0) = true := by simp [hi0]
        have hmi : (q : Int) - (L : Int) + 1 = (mm : Int) := by have := HM.out.1; rw [if_pos ⟨hq4, hi0⟩] at this; omega
        have hmw : IntKind.i64.wrap ((q : Int) - (L : Int) + 1) = (q : Int) - (L : Int) + 1 := by rw [IntKind.wrap_i64]; omega
        have HI0 := Lib.hid hi0
        clear hi0
        go_upto_region 26 with (first | (go_at_call 24; refine (cS _).mono ?_; rintro e w4 ⟨rfl, rfl⟩))
        go_wp2_with fail
        try rw [hmi]
        refine (cT w3 (H.out.step K3.out.1)).mono ?_
        rintro e w5 ⟨A5, n5, c5, A6, k6, c6, rfl, hr5, hn5, hr6, hk6, hkc6, hb5⟩
        go_wp2_with fail
        refine (cO w5 (H.out.step (bstep K3.out.1 hb5))).mono ?_
        rintro e w7 ⟨A7, c7, rfl, ho7, hb7⟩
        obtain ⟨g7, rfl, hO7⟩ := OwI.of ho7 (by omega)
        have KF := Lib.hid (And.intro (hO7.low (bstep K3.out.1 hb5).size) (bstep (bstep K3.out.1 hb5) hb7))
        clear ho7 hb7 hO7 hr5 hr6 hb5
        go_wp2
        go_ret2
        exact ⟨g7, n, c7, rfl, KF.out.1, h5, KF.out.2⟩
      · have hie : ((r.ind : Int) == 0) = false := by simp [hi0]
        have hien : (r.ind == 0) = false := by simp [hi0]
        have hmi : (q : Int) - (L : Int) = (mm : Int) := by have := HM.out.1; rw [if_neg (fun h => hi0 h.2)] at this; omega
        have hmw : IntKind.i64.wrap ((q : Int) - (L : Int) + 0) = (q : Int) - (L : Int) := by rw [IntKind.wrap_i64]; omega
        go_upto_region 26 with (first | (go_at_call 24; refine (cS _).mono ?_; rintro e w4 ⟨rfl, rfl⟩))
        go_wp2_with fail
        try rw [hmi]
        refine (cT w3 (H.out.step K3.out.1)).mono ?_
        rintro e w5 ⟨A5, n5, c5, A6, k6, c6, rfl, hr5, hn5, hr6, hk6, hkc6, hb5⟩
        go_wp2_with fail
        refine (cO w5 (H.out.step (bstep K3.out.1 hb5))).mono ?_
        rintro e w7 ⟨A7, c7, rfl, ho7, hb7⟩
        obtain ⟨g7, rfl, hO7⟩ := OwI.of ho7 (by omega)
        have KF := Lib.hid (And.intro (hO7.low (bstep K3.out.1 hb5).size) (bstep (bstep K3.out.1 hb5) hb7))
        clear ho7 hb7 hO7 hr5 hr6 hb5
        go_wp2
        go_ret2
        exact ⟨g7, n, c7, rfl, KF.out.1, h5, KF.out.2⟩
    · have hq4i : ¬ (4 : Int) < (q : Int) := by omega
      have hq4d : decide ((4 : Int) < (q : Int)) = false := decide_eq_false hq4i
      have hq4n : decide (4 < q) = false := decide_eq_false hq4
      have hmi : (q : Int) - (L : Int) = (mm : Int) := by have := HM.out.1; rw [if_neg (fun h => hq4 h.1)] at this; omega
      have hmw : IntKind.i64.wrap ((q : Int) - (L : Int) + 0) = (q : Int) - (L : Int) := by rw [IntKind.wrap_i64]; omega
      go_upto_region 26 with (first | (go_at_call 24; refine (cS _).mono ?_; rintro e w4 ⟨rfl, rfl⟩))
      go_wp2_with fail
      try rw [hmi]
      refine (cT w3 (H.out.step K3.out.1)).mono ?_
      rintro e w5 ⟨A5, n5, c5, A6, k6, c6, rfl, hr5, hn5, hr6, hk6, hkc6, hb5⟩
      go_wp2_with fail
      refine (cO w5 (H.out.step (bstep K3.out.1 hb5))).mono ?_
      rintro e w7 ⟨A7, c7, rfl, ho7, hb7⟩
      obtain ⟨g7, rfl, hO7⟩ := OwI.of ho7 (by omega)
      have KF := Lib.hid (And.intro (hO7.low (bstep K3.out.1 hb5).size) (bstep (bstep K3.out.1 hb5) hb7))
      clear ho7 hb7 hO7 hr5 hr6 hb5
      go_wp2
      go_ret2
      exact ⟨g7, n, c7, rfl, KF.out.1, h5, KF.out.2⟩
  · obtain ⟨tk, LL, ind, pp⟩ := hP hf
    have hpl := pp.len
    rw [pp.take] at cT
    rw [pp.res]
    have hll := pp.llen
    have hltL : ∀ x ∈ LL, x < n := fun x hx => by rw [← hl]; exact pp.ltL x hx
    have hblk := pp.blks
    have hinde := pp.inde
    have htn : tk.length = n := by omega
    clear hF hP hf pp hpl cO
    generalize recI img k = r at *
    have HK := Lib.hid (And.intro hk hkn)
    have H := Lib.hid h
    have HR := Lib.hid hok
    have HNUM := Lib.hid hnum
    have HLT := Lib.hid hlt
    obtain ⟨L, hL⟩ : ∃ L, L = needN r.size := ⟨_, rfl⟩
    obtain ⟨q, hq⟩ : ∃ q, q = needN size := ⟨_, rfl⟩
    have HLQ := Lib.hid (And.intro hL hq)
    rw [← hL] at hnd hnle hind0 hmore
    rw [← hq] at cS hnle h68 hmore
    obtain ⟨mm, hmm⟩ : ∃ mm, mm = moreN r.size size := ⟨_, rfl⟩
    rw [← hmm] at cT hmore
    have HMM := Lib.hid hmm
    have HM := Lib.hid (And.intro hmore hind0)
    have hmm2 : mm ≤ 69 := by rw [hmore]; split <;> omega
    have hdl : (dataR r).length = L := hnd
    have HLL := Lib.hid (And.intro hll (And.intro hltL (And.intro hblk hinde)))
    obtain ⟨X, hX⟩ : ∃ X, X = saveR tk (nameR r size (dataR r ++ LL.take (needN size - needN r.size)) ind) := ⟨_, rfl⟩
    rw [← hX]
    have HX := Lib.hid hX
    clear hll hltL hblk hinde hX
    clear h hok hnum hlt hk hkn hL hC hq hmm hmore hind0
    have hx0 : decide ((size : Int) < 0) = false := decide_eq_false (by omega)
    have hx1 : decide ((8704 : Int) < (size : Int)) = false := decide_eq_false (by omega)
    have hx2 : decide ((size : Int) ≤ (r.size : Int)) = false := decide_eq_false (by omega)
    have hx2n : decide (size ≤ r.size) = false := decide_eq_false (by omega)
    go_enter Tryz.func15, Tryz.ntmps15
    go_wp2_with fail
    refine cH.mono ?_
    rintro e w1 ⟨rfl, hb1⟩
    have hh1 := heap_alloc_new w1 (.cells (cellsI (zeroR 0)).toArray 47)
    obtain ⟨gx, hgx⟩ : ∃ gx, gx = w1.heap.size := ⟨_, rfl⟩
    have K2 := bstep hb1 (((Below.refl w1.heap.size w1).alloc (Nat.le_refl _) (.cells (cellsI (zeroR 0)).toArray 47)).trans (below_setRow _ (Nat.le_refl _) (cellsI r).toArray))
    have B2 := (BI.new w1 (zeroR 0)).setRow r
    have K2 := Lib.hid (And.intro K2 B2)
    clear hb1 cH B2
    go_upto_region 8 with (refine wpList_store_row rfl _ _ _ rfl w1.heap.size (cellsI r).toArray rfl rfl _ (cellsI (zeroR 0)).toArray hh1 (sizeI HR.out) (holdI okz HR.out) (all_oneCell_toArray (cellsI_one _)) ?_)
    clear hh1
    rw [← hgx] at K2 ⊢
    generalize (w1.alloc (.cells (cellsI (zeroR 0)).toArray 47)).setRow gx (cellsI r).toArray = w2 at K2 ⊢
    clear hgx
    go_wp2_with (refine wpList_load_mid rfl _ _ rfl gx 0 rfl (cellsI r) _ (K2.out.2.range) Tryz.underlying47 rfl (by rw [cellsI_length HR.out]; exact sizeIn) ?_)
    refine (cN w2 (H.out.step K2.out.1)).mono ?_
    rintro e w3 ⟨A3, c3, rfl, ho3, hb3⟩
    rw [hdl] at ho3 ⊢
    have K3 := Lib.hid (And.intro (bstep K2.out.1 hb3) (And.intro (K2.out.2.step hb3) (own_base ho3 K2.out.1.size)))
    have hc6 := K3.out.2.1.ind HR.out.bl
    have hc1 := K3.out.2.1.size
    have hgx3 : gx < w3.heap.size := K3.out.2.1.lt
    clear ho3 hb3 K2 cN
    have hwq : IntKind.i64.wrap ((q : Int) - (L : Int)) = (q : Int) - (L : Int) := by rw [IntKind.wrap_i64]; omega
    by_cases hq4 : 4 < q
    · have hq4i : (4 : Int) < (q : Int) := by omega
      have hq4d : decide ((4 : Int) < (q : Int)) = true := decide_eq_true hq4i
      have hq4n : decide (4 < q) = true := decide_eq_true hq4
      by_cases hi0 : r.ind = 0
      · have hie : ((r.ind : Int) == 0) = true := by simp [hi0]
        have hien : (r.ind == 0) = true := by simp [hi0]
        have hmi : (q : Int) - (L : Int) + 1 = (mm : Int) := by have := HM.out.1; rw [if_pos ⟨hq4, hi0⟩] at this; omega
        have hmw : IntKind.i64.wrap ((q : Int) - (L : Int) + 1) = (q : Int) - (L : Int) + 1 := by rw [IntKind.wrap_i64]; omega
        have HI0 := Lib.hid hi0
        clear hi0
        obtain ⟨v, hv⟩ : ∃ v, v = q - L := ⟨_, rfl⟩
        have hvi : (q : Int) - (L : Int) = (v : Int) := by omega
        have HV := Lib.hid (show v = q - L ∧ L + v = q ∧ v + 1 = mm from ⟨hv, by omega, by omega⟩)
        clear hv
        go_upto_region 26 with (first | (go_at_call 24; refine (cS _).mono ?_; rintro e w4 ⟨rfl, rfl⟩))
        go_wp2_with fail
        try rw [hmi]
        try rw [show (v : Int) + 1 = (mm : Int) by have := HV.out; omega]
        refine (cT w3 (H.out.step K3.out.1)).mono ?_
        rintro e w5 ⟨A5, n5, c5, A6, k6, c6, rfl, hr5, hn5, hr6, hk6, hkc6, hb5⟩
        have hn5e : n = n5 := by have := hr5.lenS; omega
        subst hn5e
        have hk6e : k6 = v + 1 := by have := hr6.lenN; have h9 := HLL.out.1; have := HMM.out; have := HV.out; omega
        subst hk6e
        have K5 := Lib.hid (And.intro hr5 (And.intro hr6 (And.intro (bstep K3.out.1 hb5) (And.intro (K3.out.2.1.step hb5) (own_below K3.out.2.2 hb5)))))
        have hgx5 : gx < w5.heap.size := K5.out.2.2.2.1.lt
        have h35 : w3.heap.size ≤ w5.heap.size := hb5.size
        clear hr5 hr6 hb5 cT hn5 hk6 K3 hc6 hc1 cS
        obtain ⟨b6, o6, rfl, hb6, gq6⟩ := K5.out.2.1.nat (show v < v + 1 by omega)
        obtain ⟨ix, hix⟩ : ∃ ix, ix = LL.getD v 0 := ⟨_, rfl⟩
        rw [← hix] at gq6
        have HIX := Lib.hid hix
        clear hix
        have hv0 : (0 : Int) ≤ (v : Int) := by omega
        have hv1 : (v : Int) < (v : Int) + 1 := by omega
        have hv2 : v < v + 1 := by omega
        have hsh6 := slice_head (some ⟨b6, o6, none⟩) (L := v + 1) (c := c6) (q := v) (by omega)
        have hr3 := Reads.of_own K5.out.2.2.2.2
        have HR6 := Lib.hid (reads_take K5.out.2.1 (q := v) (by omega))
        have HR3 := Lib.hid hr3
        have hL68 : L ≤ 68 := by omega
        have hv68 : v ≤ 69 := by have := HV.out; omega
        clear hr3
        go_wp2_with (first
          | (at_builtin; refine wpList_append_reads _ rfl (.tmp 144) (.tmp 145) 49 rfl w5.heap.size 3 i0 _ 1 8 Tryz.underlying49 hj0 hy0 hy1 hy2 rfl (by omega) (.slice none 0 0) 0 [] rfl own_nil _ A3 L c3 (encN (dataR r)) rfl HR3.out (encN_one _) (by unfold maxLen; omega) (by omega) (by omega) ?_; intro A7 c7 w7 ho7 hg7 _; simp only [Nat.zero_add, List.nil_append] at ho7 ⊢; have HB7 := Lib.hid (show Below w5.heap.size w5 w7 from (Below.refl _ _).grown hg7 (Nat.le_refl _) (by intro k hk; cases hk)); have HO7 := Lib.hid ho7; clear ho7 hg7)
          | (at_builtin; refine wpList_append_reads _ rfl (.tmp 147) (.tmp 150) 49 rfl w5.heap.size 3 i0 _ 1 8 Tryz.underlying49 hj0 hy0 hy1 hy2 rfl (by omega) (.slice A7 L c7) L (encN (dataR r)) rfl HO7.out _ (some ⟨b6, o6, none⟩) v c6 (encN (LL.take v)) rfl (HR6.out.step HB7.out) (encN_one _) (by unfold maxLen; omega) (by omega) HB7.out.size ?_; intro A8 c8 w8 ho8 hg8 _; have HB8 := Lib.hid (show Below w5.heap.size w5 w8 from HB7.out.grown hg8 HB7.out.size (fun q hq => own_row_ge HO7.out _ hq)); rw [← encN_app] at ho8; have HO8 := Lib.hid ho8; clear ho8 hg8)
          | (refine wpList_load_mid rfl _ _ rfl gx 0 rfl (cellsI r) _ ((K5.out.2.2.2.1.step HB8.out).range) Tryz.underlying47 rfl (by rw [cellsI_length HR.out]; exact sizeIn) ?_))
        have h9 := refLaid_any A5 A8 n c5 (L + v) c8 tk k r size ix (dataR r ++ LL.take v) w8 (K5.out.1.step HB8.out) (Reads.of_own HO8.out) HLL.out.2.2.1 h8 h5 HK.out.2 HR.out (by have := HV.out; omega) (fun x hx => by
          rcases List.mem_append.1 hx with h | h
          · have := HLT.out x h; omega
          · have := HLL.out.2.1 x (List.mem_of_mem_take h); omega) (by rw [HIX.out, List.getD_eq_getElem?_getD, List.getElem?_eq_getElem (by have := HLL.out.1; have := HMM.out; have := HV.out; omega)]; exact HLL.out.2.1 _ (List.getElem_mem _)) (fun h => by have := HV.out; have := HM.out.2; omega) h2 (own_le HO8.out)
        rw [HNUM.out] at h9
        unfold valI at h9
        have HRES : Hid (X = saveR tk (nameR r size (dataR r ++ LL.take v) ix)) := Lib.hid (by
          have e1 := HLQ.out
          have e2 := HV.out
          have e3 : LL.length = mm := by rw [HLL.out.1, ← HMM.out]
          have e4 := HLL.out.2.2.2
          rw [← e1.1, ← e1.2, ← e2.1] at e4
          rw [HX.out, ← e1.1, ← e1.2, ← e2.1]
          rw [if_pos (by omega)] at e4; rw [e4, HIX.out])
        refine h9.mono ?_
        rintro e w9 ⟨g9, c9, rfl, hO9, hb9⟩
        have KF := Lib.hid (And.intro (hO9.low (bstep K5.out.2.2.1 HB8.out).size) (bstep (bstep K5.out.2.2.1 HB8.out) hb9))
        clear hO9 hb9 h9
        go_wp2
        go_ret2
        rw [HRES.out]
        exact ⟨g9, n, c9, rfl, KF.out.1, h5, KF.out.2⟩
      · have hie : ((r.ind : Int) == 0) = false := by simp [hi0]
        have hien : (r.ind == 0) = false := by simp [hi0]
        have hmi : (q : Int) - (L : Int) = (mm : Int) := by have := HM.out.1; rw [if_neg (fun h => hi0 h.2)] at this; omega
        have hmw : IntKind.i64.wrap ((q : Int) - (L : Int) + 0) = (q : Int) - (L : Int) := by rw [IntKind.wrap_i64]; omega
        obtain ⟨v, hv⟩ : ∃ v, v = q - L := ⟨_, rfl⟩
        have hvi : (q : Int) - (L : Int) = (v : Int) := by omega
        have HV := Lib.hid (show v = q - L ∧ L + v = q ∧ v = mm from ⟨hv, by omega, by omega⟩)
        clear hv hmi hmw
        have hvw : IntKind.i64.wrap (v : Int) = (v : Int) := by rw [IntKind.wrap_i64]; have := HV.out; omega
        go_upto_region 26 with (first | (go_at_call 24; refine (cS _).mono ?_; rintro e w4 ⟨rfl, rfl⟩))
        go_wp2_with fail
        try rw [hmi]
        try rw [show (v : Int) + 1 = (mm : Int) by have := HV.out; omega]
        have ev : v = mm := by have := HV.out; omega
        subst ev
        refine (cT w3 (H.out.step K3.out.1)).mono ?_
        rintro e w5 ⟨A5, n5, c5, A6, k6, c6, rfl, hr5, hn5, hr6, hk6, hkc6, hb5⟩
        have hn5e : n = n5 := by have := hr5.lenS; omega
        subst hn5e
        have hk6e : v = k6 := by have := hr6.lenN; have h9 := HLL.out.1; have := HMM.out; have := HV.out; omega
        subst hk6e
        have K5 := Lib.hid (And.intro hr5 (And.intro hr6 (And.intro (bstep K3.out.1 hb5) (And.intro (K3.out.2.1.step hb5) (own_below K3.out.2.2 hb5)))))
        have hgx5 : gx < w5.heap.size := K5.out.2.2.2.1.lt
        have h35 : w3.heap.size ≤ w5.heap.size := hb5.size
        clear hr5 hr6 hb5 cT hn5 hk6 K3 hc6 hc1 cS
        have hsh6 := slice_head A6 (L := v) (c := c6) (q := v) (by omega)
        clear hkc6
        have hr3 := Reads.of_own K5.out.2.2.2.2
        have HR6 := Lib.hid (reads_take K5.out.2.1 (q := v) (by omega))
        have HR3 := Lib.hid hr3
        have hL68 : L ≤ 68 := by omega
        have hv68 : v ≤ 69 := by have := HV.out; omega
        clear hr3
        go_wp2_with (first
          | (at_builtin; refine wpList_append_reads _ rfl (.tmp 144) (.tmp 145) 49 rfl w5.heap.size 3 i0 _ 1 8 Tryz.underlying49 hj0 hy0 hy1 hy2 rfl (by omega) (.slice none 0 0) 0 [] rfl own_nil _ A3 L c3 (encN (dataR r)) rfl HR3.out (encN_one _) (by unfold maxLen; omega) (by omega) (by omega) ?_; intro A7 c7 w7 ho7 hg7 _; simp only [Nat.zero_add, List.nil_append] at ho7 ⊢; have HB7 := Lib.hid (show Below w5.heap.size w5 w7 from (Below.refl _ _).grown hg7 (Nat.le_refl _) (by intro k hk; cases hk)); have HO7 := Lib.hid ho7; clear ho7 hg7)
          | (at_builtin; refine wpList_append_reads _ rfl (.tmp 147) (.tmp 150) 49 rfl w5.heap.size 3 i0 _ 1 8 Tryz.underlying49 hj0 hy0 hy1 hy2 rfl (by omega) (.slice A7 L c7) L (encN (dataR r)) rfl HO7.out _ A6 v c6 (encN (LL.take v)) rfl (HR6.out.step HB7.out) (encN_one _) (by unfold maxLen; omega) (by omega) HB7.out.size ?_; intro A8 c8 w8 ho8 hg8 _; have HB8 := Lib.hid (show Below w5.heap.size w5 w8 from HB7.out.grown hg8 HB7.out.size (fun q hq => own_row_ge HO7.out _ hq)); rw [← encN_app] at ho8; have HO8 := Lib.hid ho8; clear ho8 hg8)
          | (refine wpList_load_mid rfl _ _ rfl gx 0 rfl (cellsI r) _ ((K5.out.2.2.2.1.step HB8.out).range) Tryz.underlying47 rfl (by rw [cellsI_length HR.out]; exact sizeIn) ?_))
        have h9 := refLaid_any A5 A8 n c5 (L + v) c8 tk k r size r.ind (dataR r ++ LL.take v) w8 (K5.out.1.step HB8.out) (Reads.of_own HO8.out) HLL.out.2.2.1 h8 h5 HK.out.2 HR.out (by have := HV.out; omega) (fun x hx => by
          rcases List.mem_append.1 hx with h | h
          · have := HLT.out x h; omega
          · have := HLL.out.2.1 x (List.mem_of_mem_take h); omega) hind (fun h => by have := HV.out; have := HM.out.2; omega) h2 (own_le HO8.out)
        rw [HNUM.out] at h9
        unfold valI at h9
        have HRES : Hid (X = saveR tk (nameR r size (dataR r ++ LL.take v) r.ind)) := Lib.hid (by
          have e1 := HLQ.out
          have e2 := HV.out
          have e3 : LL.length = v := by rw [HLL.out.1, ← HMM.out]
          have e4 := HLL.out.2.2.2
          rw [← e1.1, ← e1.2, ← e2.1] at e4
          rw [HX.out, ← e1.1, ← e1.2, ← e2.1]
          rw [if_neg (by omega)] at e4; rw [e4])
        refine h9.mono ?_
        rintro e w9 ⟨g9, c9, rfl, hO9, hb9⟩
        have KF := Lib.hid (And.intro (hO9.low (bstep K5.out.2.2.1 HB8.out).size) (bstep (bstep K5.out.2.2.1 HB8.out) hb9))
        clear hO9 hb9 h9
        go_wp2
        go_ret2
        rw [HRES.out]
        exact ⟨g9, n, c9, rfl, KF.out.1, h5, KF.out.2⟩
    · have hq4i : ¬ (4 : Int) < (q : Int) := by omega
      have hq4d : decide ((4 : Int) < (q : Int)) = false := decide_eq_false hq4i
      have hq4n : decide (4 < q) = false := decide_eq_false hq4
      have hmi : (q : Int) - (L : Int) = (mm : Int) := by have := HM.out.1; rw [if_neg (fun h => hq4 h.1)] at this; omega
      have hmw : IntKind.i64.wrap ((q : Int) - (L : Int) + 0) = (q : Int) - (L : Int) := by rw [IntKind.wrap_i64]; omega
      obtain ⟨v, hv⟩ : ∃ v, v = q - L := ⟨_, rfl⟩
      have hvi : (q : Int) - (L : Int) = (v : Int) := by omega
      have HV := Lib.hid (show v = q - L ∧ L + v = q ∧ v = mm from ⟨hv, by omega, by omega⟩)
      clear hv hmi hmw
      have hvw : IntKind.i64.wrap (v : Int) = (v : Int) := by rw [IntKind.wrap_i64]; have := HV.out; omega
      go_upto_region 26 with (first | (go_at_call 24; refine (cS _).mono ?_; rintro e w4 ⟨rfl, rfl⟩))
      go_wp2_with fail
      try rw [hmi]
      try rw [show (v : Int) + 1 = (mm : Int) by have := HV.out; omega]
      have ev : v = mm := by have := HV.out; omega
      subst ev
      refine (cT w3 (H.out.step K3.out.1)).mono ?_
      rintro e w5 ⟨A5, n5, c5, A6, k6, c6, rfl, hr5, hn5, hr6, hk6, hkc6, hb5⟩
      have hn5e : n = n5 := by have := hr5.lenS; omega
      subst hn5e
      have hk6e : v = k6 := by have := hr6.lenN; have h9 := HLL.out.1; have := HMM.out; have := HV.out; omega
      subst hk6e
      have K5 := Lib.hid (And.intro hr5 (And.intro hr6 (And.intro (bstep K3.out.1 hb5) (And.intro (K3.out.2.1.step hb5) (own_below K3.out.2.2 hb5)))))
      have hgx5 : gx < w5.heap.size := K5.out.2.2.2.1.lt
      have h35 : w3.heap.size ≤ w5.heap.size := hb5.size
      clear hr5 hr6 hb5 cT hn5 hk6 K3 hc6 hc1 cS
      have hsh6 := slice_head A6 (L := v) (c := c6) (q := v) (by omega)
      clear hkc6
      have hr3 := Reads.of_own K5.out.2.2.2.2
      have HR6 := Lib.hid (reads_take K5.out.2.1 (q := v) (by omega))
      have HR3 := Lib.hid hr3
      have hL68 : L ≤ 68 := by omega
      have hv68 : v ≤ 69 := by have := HV.out; omega
      clear hr3
      go_wp2_with (first
        | (at_builtin; refine wpList_append_reads _ rfl (.tmp 144) (.tmp 145) 49 rfl w5.heap.size 3 i0 _ 1 8 Tryz.underlying49 hj0 hy0 hy1 hy2 rfl (by omega) (.slice none 0 0) 0 [] rfl own_nil _ A3 L c3 (encN (dataR r)) rfl HR3.out (encN_one _) (by unfold maxLen; omega) (by omega) (by omega) ?_; intro A7 c7 w7 ho7 hg7 _; simp only [Nat.zero_add, List.nil_append] at ho7 ⊢; have HB7 := Lib.hid (show Below w5.heap.size w5 w7 from (Below.refl _ _).grown hg7 (Nat.le_refl _) (by intro k hk; cases hk)); have HO7 := Lib.hid ho7; clear ho7 hg7)
        | (at_builtin; refine wpList_append_reads _ rfl (.tmp 147) (.tmp 150) 49 rfl w5.heap.size 3 i0 _ 1 8 Tryz.underlying49 hj0 hy0 hy1 hy2 rfl (by omega) (.slice A7 L c7) L (encN (dataR r)) rfl HO7.out _ A6 v c6 (encN (LL.take v)) rfl (HR6.out.step HB7.out) (encN_one _) (by unfold maxLen; omega) (by omega) HB7.out.size ?_; intro A8 c8 w8 ho8 hg8 _; have HB8 := Lib.hid (show Below w5.heap.size w5 w8 from HB7.out.grown hg8 HB7.out.size (fun q hq => own_row_ge HO7.out _ hq)); rw [← encN_app] at ho8; have HO8 := Lib.hid ho8; clear ho8 hg8)
        | (refine wpList_load_mid rfl _ _ rfl gx 0 rfl (cellsI r) _ ((K5.out.2.2.2.1.step HB8.out).range) Tryz.underlying47 rfl (by rw [cellsI_length HR.out]; exact sizeIn) ?_))
      have h9 := refLaid_any A5 A8 n c5 (L + v) c8 tk k r size r.ind (dataR r ++ LL.take v) w8 (K5.out.1.step HB8.out) (Reads.of_own HO8.out) HLL.out.2.2.1 h8 h5 HK.out.2 HR.out (by have := HV.out; omega) (fun x hx => by
        rcases List.mem_append.1 hx with h | h
        · have := HLT.out x h; omega
        · have := HLL.out.2.1 x (List.mem_of_mem_take h); omega) hind (fun h => by have := HV.out; have := HM.out.2; omega) h2 (own_le HO8.out)
      rw [HNUM.out] at h9
      unfold valI at h9
      have HRES : Hid (X = saveR tk (nameR r size (dataR r ++ LL.take v) r.ind)) := Lib.hid (by
        have e1 := HLQ.out
        have e2 := HV.out
        have e3 : LL.length = v := by rw [HLL.out.1, ← HMM.out]
        have e4 := HLL.out.2.2.2
        rw [← e1.1, ← e1.2, ← e2.1] at e4
        rw [HX.out, ← e1.1, ← e1.2, ← e2.1]
        rw [if_neg (by omega)] at e4; rw [e4])
      refine h9.mono ?_
      rintro e w9 ⟨g9, c9, rfl, hO9, hb9⟩
      have KF := Lib.hid (And.intro (hO9.low (bstep K5.out.2.2.1 HB8.out).size) (bstep (bstep K5.out.2.2.1 HB8.out) hb9))
      clear hO9 hb9 h9
      go_wp2
      go_ret2
      rw [HRES.out]
      exact ⟨g9, n, c9, rfl, KF.out.1, h5, KF.out.2⟩

end Go.Proofs.YtpdfkakhahfcjaaGreat
