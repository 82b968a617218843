/-
  The document's own answer: Truncate.
-/
import Derived.Test.YtpdfkakhahfcjaaGreatG33
import Derived.Test.YtpdfkakhahfcjaaGreatG34
import Derived.Test.YtpdfkakhahfcjaaGreatG31
namespace Go.Proofs.YtpdfkakhahfcjaaGreat
open Go.RowKit

set_option maxRecDepth 100000 in
set_option maxHeartbeats 4000000 in
theorem refTrunc_bad (A : Option Addr) (n c : Nat) (img : List ByteArray) (i x : Int) (w : World) (h : Reads w w.heap.size 1 A n (encS img)) (hs : SoundP img) (ec : Int)
    (hb : ((heldI img i).2 ≠ 0 ∧ ec = (heldI img i).2) ∨ ((heldI img i).2 = 0 ∧ x < 0 ∧ ec = 13) ∨ ((heldI img i).2 = 0 ∧ ¬ x < 0 ∧ 8704 < x ∧ ec = 12)) :
    Calls Tryz.prog 15 #[.slice A n c, .int .i64 i, .int .i64 x] w fun e w' => ImgsO w w' img ec e := by
  have hz7 := (zero_of_info info7).1
  have hl := h.lenS
  have h8 : 8 ≤ n := by have := hs.fit.1; omega
  have h5 : n ≤ 512 := by have := hs.fit.1; omega
  have cH := refHeld_any A n c img i w h hs.fit
  have cO := fun W hW => refOwn_any A n c img W hW (by omega)
  unfold GetP valI at cH
  have hok := heldS_ok img i (by omega)
  have h2 := heldS_two img i
  have H := Lib.hid h
  rw [h2] at cH
  clear h2 hs h
  generalize (heldI img i).2 = eh at *
  generalize (heldS img i).1 = r at *
  have HR := Lib.hid hok
  clear hok
  have hbb : (eh != 0) = true ∧ eh ≠ 0 ∧ ec = eh ∨ (eh != 0) = false ∧ eh = 0 ∧ decide (x < 0) = true ∧ x < 0 ∧ ec = 13 ∨ (eh != 0) = false ∧ eh = 0 ∧ decide (x < 0) = false ∧ ¬ x < 0 ∧ decide (8704 < x) = true ∧ 8704 < x ∧ ec = 12 := by
    rcases hb with ⟨a, b⟩ | ⟨a, b, d⟩ | ⟨a, b, d, e⟩
    · exact .inl ⟨by rw [bne_iff_ne]; exact a, a, b⟩
    · exact .inr (.inl ⟨by simp [a], a, decide_eq_true b, b, d⟩)
    · exact .inr (.inr ⟨by simp [a], a, decide_eq_false b, b, decide_eq_true d, d, e⟩)
  clear hb
  go_enter Tryz.func15, Tryz.ntmps15
  go_wp2_with fail
  refine cH.mono ?_
  rintro e w1 ⟨rfl, hb1⟩
  have hh1 := heap_alloc_new w1 (.cells (cellsI (zeroR 0)).toArray 47)
  have K2 := Lib.hid (bstep hb1 (((Below.refl w1.heap.size w1).alloc (Nat.le_refl _) (.cells (cellsI (zeroR 0)).toArray 47)).trans (below_setRow _ (Nat.le_refl _) (cellsI r).toArray)))
  clear hb1 cH
  go_upto_region 2 with (refine wpList_store_row rfl _ _ _ rfl w1.heap.size (cellsI r).toArray rfl rfl _ (cellsI (zeroR 0)).toArray hh1 (sizeI HR.out) (holdI okz HR.out) (all_oneCell_toArray (cellsI_one _)) ?_)
  clear hh1
  generalize (w1.alloc (.cells (cellsI (zeroR 0)).toArray 47)).setRow w1.heap.size (cellsI r).toArray = w2 at K2 ⊢
  rcases hbb with ⟨a1, a2, rfl⟩ | ⟨a1, rfl, a3, a4, rfl⟩ | ⟨a1, rfl, a3, a4, a5, a6, rfl⟩
  all_goals
    go_wp2_with fail
    refine (cO _ (H.out.step K2.out)).mono ?_
    rintro e w3 ⟨A3, c3, rfl, ho3, hb3⟩
    obtain ⟨g3, rfl, hO3⟩ := OwI.of ho3 (by omega)
    have K3 := Lib.hid (And.intro (hO3.low K2.out.size) (bstep K2.out hb3))
    clear ho3 hb3 hO3 K2
    go_wp2
    go_ret2
    exact ⟨g3, n, c3, rfl, K3.out.1, h5, K3.out.2⟩

theorem refTrunc_any (A : Option Addr) (n c : Nat) (img : List ByteArray) (i x : Int) (w : World) (h : Reads w w.heap.size 1 A n (encS img)) (hs : SoundP img) :
    Calls Tryz.prog 15 #[.slice A n c, .int .i64 i, .int .i64 x] w fun e w' => ImgsO w w' (truncI img i x).1 (truncI img i x).2 e := by
  by_cases h0 : (heldI img i).2 ≠ 0
  · rw [show truncI img i x = (img, (heldI img i).2) by unfold truncI; rw [if_pos h0]]
    exact refTrunc_bad A n c img i x w h hs _ (.inl ⟨h0, rfl⟩)
  · have h0' : (heldI img i).2 = 0 := Decidable.not_not.1 h0
    by_cases h1 : x < 0
    · rw [show truncI img i x = (img, 13) by unfold truncI; rw [if_neg h0, if_pos h1]]
      exact refTrunc_bad A n c img i x w h hs _ (.inr (.inl ⟨h0', h1, rfl⟩))
    · by_cases h2 : 8704 < x
      · rw [show truncI img i x = (img, 12) by unfold truncI; rw [if_neg h0, if_neg h1, if_pos h2]]
        exact refTrunc_bad A n c img i x w h hs _ (.inr (.inr ⟨h0', h1, h2, rfl⟩))
      · rcases getI_cases img i with hg | ⟨k, rfl, hk, hg⟩
        · rw [heldI_of hg] at h0'; cases h0'
        have hkd : (recI img k).kind ≠ 0 := fun he => by rw [heldI_at hg, if_pos he] at h0'; cases h0'
        have hH : heldI img (k : Int) = (recI img k, 0) := by rw [heldI_at hg, if_neg hkd]
        obtain ⟨size, rfl⟩ : ∃ s : Nat, x = (s : Int) := ⟨x.toNat, by omega⟩
        have ht : truncI img (k : Int) (size : Int) = if (recI img k).size < size then growI img (recI img k) size else shrinkI img (recI img k) size := by
          unfold truncI
          rw [hH, if_neg (by simp), if_neg (by omega), if_neg (by omega), Int.toNat_natCast]
          by_cases h : (recI img k).size < size
          · rw [if_pos h, if_pos (by show ((recI img k).size : Int) < _; omega)]
          · rw [if_neg h, if_neg (by show ¬ ((recI img k).size : Int) < _; omega)]
        rw [ht]
        by_cases h3 : (recI img k).size < size
        · rw [if_pos h3]
          exact refGrow_any A n c img k size w h hs hk hkd h3 (by omega)
        · rw [if_neg h3]
          exact refShrink_any A n c img k size w h hs hk hkd (by omega)

end Go.Proofs.YtpdfkakhahfcjaaGreat

/-
  What the document's loop of Write does, a block at a time: mathematics.
-/
namespace Go.Proofs.YtpdfkakhahfcjaaGreat
open Go.RowKit

structure WrP (C : List ByteArray) (k at_ : Nat) (data : ByteArray) : Prop where
  sound : SoundP C
  hk : k < cntA C.length
  kind : (recI C k).kind ≠ 0
  en : at_ + data.size ≤ 8704
  size : at_ + data.size ≤ (recI C k).size
section
variable {C : List ByteArray} {k at_ : Nat} {data : ByteArray}
theorem WrP.ok (p : WrP C k at_ data) : OkR (recI C k) := recI_ok C k (by have := (first_le p.sound.fit.1.1 p.sound.fit.1.2).2.2.2.1; have := p.hk; omega)
theorem WrP.form (p : WrP C k at_ data) : (recI C k).size ≤ 8704 := by
  have hq := (soundQ_iff C).1 p.sound
  exact (form_size ((form_kind (hq.form k p.hk)).resolve_left p.kind) (hq.form k p.hk)).1
theorem WrP.n68 (p : WrP C k at_ data) : needN (recI C k).size ≤ 68 := need_le p.form
theorem WrP.nd (p : WrP C k at_ data) : (dataR (recI C k)).length = needN (recI C k).size := by rw [dataR_length p.ok]; have := p.n68; omega
theorem WrP.mem (p : WrP C k at_ data) : ∀ b ∈ dataR (recI C k), 2 ≤ b ∧ b < C.length := fun b hb => by
  have h := sound_in p.sound p.hk (b := b) (List.mem_append_left _ hb)
  have := (first_le p.sound.fit.1.1 p.sound.fit.1.2).1
  omega
theorem WrP.nodup (p : WrP C k at_ data) : (dataR (recI C k)).Nodup := (List.nodup_append.1 (((soundQ_iff C).1 p.sound).once k p.hk)).1
theorem WrP.fit (p : WrP C k at_ data) {q : Nat} (hq : q ≤ needN (recI C k).size) : ∀ x ∈ foldW at_ (at_ + data.size) data C (recI C k) q, x.size = 128 :=
  (laid_to p.sound.fit (r := recI C k) rfl p.en p.n68 p.nd p.nodup p.mem q hq).1.2.1
/-- Where the loop stands. -/
def WJ (C : List ByteArray) (r : RecI) (at_ : Nat) (data : ByteArray) (j : Nat) (m : List ByteArray) : Prop :=
  (j < data.size ∧ m = foldW at_ (at_ + data.size) data C r ((at_ + j) / 128) ∧ (j = 0 ∨ (at_ + j) % 128 = 0)) ∨ (j = data.size ∧ m = laidW at_ data C r)
theorem WrP.lenN (p : WrP C k at_ data) : lenR (recI C k) = needN (recI C k).size := by
  have := p.n68
  unfold lenR
  omega
theorem WrP.behind (p : WrP C k at_ data) {q : Nat} (hq : q ≤ needN (recI C k).size) (h : at_ + data.size ≤ 128 * q) : laidW at_ data C (recI C k) = foldW at_ (at_ + data.size) data C (recI C k) q := by
  have := p.n68
  rw [laid_fold, p.lenN, show needN (recI C k).size = q + (needN (recI C k).size - q) by omega, foldW_behind (by omega) p.en h (needN (recI C k).size - q) (by omega)]
theorem WrP.start (p : WrP C k at_ data) : WJ C (recI C k) at_ data 0 C := by
  have h0 : foldW at_ (at_ + data.size) data C (recI C k) (at_ / 128) = C := foldW_ahead (by omega) p.en _ (by omega)
  by_cases hd : data.size = 0
  · right
    refine ⟨hd.symm, ?_⟩
    have hen := p.en
    have h6 := p.n68
    have hsz := p.size
    by_cases h68 : at_ / 128 < needN (recI C k).size
    · rw [p.behind (q := at_ / 128 + 1) (by omega) (by omega), foldW_succ, h0, putW_nat (by omega) (by omega) p.en, if_neg (by omega)]
    · unfold needN at h68
      rw [p.behind (q := at_ / 128) (by unfold needN; omega) (by omega), h0]
  · exact .inl ⟨by omega, by rw [Nat.add_zero, h0], .inl rfl⟩
/-- One round. -/
theorem WrP.step (p : WrP C k at_ data) {j : Nat} {m : List ByteArray} (h : WJ C (recI C k) at_ data j m) (hj : j < data.size) {o u v : Nat} (ho : o = (at_ + j) % 128) (hu : u = min (128 - o) (data.size - j)) (hv : v = (dataR (recI C k)).getD ((at_ + j) / 128) 0) :
    (at_ + j) / 128 < (dataR (recI C k)).length ∧ v < C.length ∧ m.length = C.length ∧ (∀ x ∈ m, x.size = 128) ∧ (blk m v).size = 128 ∧ WJ C (recI C k) at_ data (j + u) (m.set v ((blk m v).extract 0 o ++ data.extract j (j + u) ++ (blk m v).extract (o + u) 128)) := by
  rcases h with ⟨_, hm, ha⟩ | ⟨h, _⟩
  rotate_left
  · omega
  have hen := p.en
  have hsz := p.size
  have hq : (at_ + j) / 128 < needN (recI C k).size := by unfold needN; omega
  have hq2 : (at_ + j) / 128 < (dataR (recI C k)).length := by rw [p.nd]; exact hq
  have hv2 : v ∈ dataR (recI C k) := by rw [hv, List.getD_eq_getElem?_getD, List.getElem?_eq_getElem hq2]; exact List.getElem_mem _
  have hvn := (p.mem v hv2).2
  have hml : m.length = C.length := by rw [hm, foldW_length]
  have hms : ∀ x ∈ m, x.size = 128 := by rw [hm]; exact p.fit (by omega)
  have hbs : (blk m v).size = 128 := hms _ (by unfold blk; rw [List.getD_eq_getElem?_getD, List.getElem?_eq_getElem (by omega)]; exact List.getElem_mem _)
  refine ⟨hq2, hvn, hml, hms, hbs, ?_⟩
  have hb := foldW_block (img := C) (r := recI C k) p.en rfl hj (q := (at_ + j) / 128) rfl ha
  have hxs : (data.extract j (j + u)).size = u := by rw [ByteArray.size_extract]; omega
  have hset : foldW at_ (at_ + data.size) data C (recI C k) ((at_ + j) / 128 + 1) = m.set v ((blk m v).extract 0 o ++ data.extract j (j + u) ++ (blk m v).extract (o + u) 128) := by
    rw [hb, ← hm, pair_data hq, ← hv, ← ho, ← hu]
    unfold putI
    have hbi : blkI m v = blk m v := by unfold blkI; rw [if_pos ⟨by omega, hbs⟩]
    have hc := over_cat (s := blk m v) (t := data.extract j (j + u)) (o := o)
    rw [hxs, hbs] at hc
    rw [if_pos (by omega), hbi, ← hc]
  rcases next_block (at_ := at_) hj (q := (at_ + j) / 128) rfl with ⟨h1, h2⟩ | ⟨h1, h2, h3⟩
  · rw [← ho, ← hu] at h1
    right
    refine ⟨h1, ?_⟩
    rw [← hset, p.behind (by omega) h2]
  · rw [← ho, ← hu] at h1 h2 h3
    exact .inl ⟨h1, by rw [h2, hset], .inr h3⟩
theorem WrP.last (_p : WrP C k at_ data) {m : List ByteArray} (h : WJ C (recI C k) at_ data data.size m) : m = laidW at_ data C (recI C k) := by
  rcases h with ⟨h, _⟩ | ⟨_, h⟩
  · omega
  · exact h
end
/-- The image that is written into. -/
theorem wrP_of {img : List ByteArray} (hs : SoundP img) {k at_ : Nat} {data : ByteArray} (hk : k < cntA img.length) (hkd : (recI img k).kind ≠ 0) (hen : at_ + data.size ≤ 8704) {C : List ByteArray}
    (hC : ((recI img k).size < at_ + data.size ∧ truncI img (k : Int) ((at_ + data.size : Nat) : Int) = (C, 0)) ∨ (¬ (recI img k).size < at_ + data.size ∧ C = img)) : WrP C k at_ data ∧ C.length = img.length := by
  rcases hC with ⟨h1, h2⟩ | ⟨h1, rfl⟩
  · rcases trunc_sound ((soundQ_iff img).1 hs) hk hkd hen with ⟨h3, _⟩ | ⟨c, d, ind, h3, h4, _⟩
    · rw [h2] at h3; cases h3
    · rw [h2] at h3
      obtain rfl : C = c := by cases h3; rfl
      have hl := h4.len
      refine ⟨⟨(soundQ_iff C).2 h4.sound, by rw [hl]; exact hk, by rw [h4.rec1]; exact hkd, hen, by rw [h4.rec1]; exact Nat.le_refl _⟩, hl⟩
  · exact ⟨⟨hs, hk, hkd, hen, by omega⟩, rfl⟩

end Go.Proofs.YtpdfkakhahfcjaaGreat
