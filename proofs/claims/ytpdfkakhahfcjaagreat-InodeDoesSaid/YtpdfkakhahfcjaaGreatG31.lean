/-
  Bytes written: which, and that the image stays sound.
-/
import Derived.Test.YtpdfkakhahfcjaaGreatG30
import Derived.Below
import Derived.Test.YtpdfkakhahfcjaaGreatG25
import Derived.Test.YtpdfkakhahfcjaaGreatG20
namespace Go.Proofs.YtpdfkakhahfcjaaGreat
open Go.RowKit

theorem putW_nat {at_ en k b : Nat} {data : ByteArray} {img : List ByteArray} (hk : k < 68) (_ha : at_ ≤ en) (_he : en ≤ 8704) :
    putW at_ en data img (k, b) = if max at_ (128 * k) < min en (128 * k + 128) then putI img b (max at_ (128 * k) - 128 * k) (data.extract (max at_ (128 * k) - at_) (min en (128 * k + 128) - at_)) else img := by
  have h1 : IntKind.i64.wrap (128 * (k : Int)) = ((128 * k : Nat) : Int) := by rw [IntKind.wrap_i64]; omega
  have h2 : IntKind.i64.wrap (((128 * k : Nat) : Int) + 128) = ((128 * k + 128 : Nat) : Int) := by rw [IntKind.wrap_i64]; omega
  unfold putW
  dsimp only
  rw [h1, h2]
  have h3 : max (at_ : Int) ((128 * k : Nat) : Int) = ((max at_ (128 * k) : Nat) : Int) := by omega
  have h4 : min (en : Int) ((128 * k + 128 : Nat) : Int) = ((min en (128 * k + 128) : Nat) : Int) := by omega
  rw [h3, h4]
  by_cases h : max at_ (128 * k) < min en (128 * k + 128)
  · rw [if_pos h, if_pos (by omega)]
    congr 2 <;> omega
  · rw [if_neg h, if_neg (by omega)]
/-- The k-th block as it is then. -/
def newB (c : List ByteArray) (at_ en : Nat) (data : ByteArray) (l : List Nat) (k : Nat) : ByteArray :=
  if max at_ (128 * k) < min en (128 * k + 128) then overB (blkI c (l.getD k 0)) (max at_ (128 * k) - 128 * k) (data.extract (max at_ (128 * k) - at_) (min en (128 * k + 128) - at_)) else blkI c (l.getD k 0)
theorem newB_size {c : List ByteArray} {at_ en k : Nat} {data : ByteArray} {l : List Nat} (hd : en = at_ + data.size) : (newB c at_ en data l k).size = 128 := by
  unfold newB
  split
  · rw [overB_size (by rw [blkI_size, ByteArray.size_extract]; omega), blkI_size]
  · exact blkI_size _ _
/-- Its bytes. -/
theorem newB_getD {c : List ByteArray} {at_ en k j : Nat} {data : ByteArray} {l : List Nat} (hd : en = at_ + data.size) (hj : j < 128) :
    (newB c at_ en data l k).data.toList.getD j 0 = if at_ ≤ 128 * k + j ∧ 128 * k + j < en then data.data.toList.getD (128 * k + j - at_) 0 else (blkI c (l.getD k 0)).data.toList.getD j 0 := by
  unfold newB
  by_cases h : max at_ (128 * k) < min en (128 * k + 128)
  · rw [if_pos h, overB_getD (by rw [blkI_size, ByteArray.size_extract]; omega), ByteArray.size_extract]
    by_cases h2 : at_ ≤ 128 * k + j ∧ 128 * k + j < en
    · rw [if_pos (by omega), if_pos h2, ext_getD (by omega)]
      congr 1
      omega
    · rw [if_neg (by omega), if_neg h2]
  · rw [if_neg h, if_neg (by omega)]
theorem pair_data {r : RecI} {k : Nat} (hk : k < needN r.size) : (r.bl ++ r.ls).getD k 0 = (dataR r).getD k 0 := by
  unfold dataR
  rw [List.getD_eq_getElem?_getD, List.getD_eq_getElem?_getD, List.getElem?_take, if_pos hk]
/-- The blocks written one behind the other. -/
theorem laid_to {c : List ByteArray} (hf : FitA c) {r : RecI} {at_ en : Nat} {data : ByteArray} (hd : en = at_ + data.size) (he : en ≤ 8704) (hn68 : needN r.size ≤ 68) (hlen : (dataR r).length = needN r.size)
    (hnd : (dataR r).Nodup) (hin : ∀ b ∈ dataR r, 2 ≤ b ∧ b < c.length) :
    ∀ k, k ≤ needN r.size → FitA ((pairsR r k).foldl (putW at_ en data) c) ∧ ((pairsR r k).foldl (putW at_ en data) c).length = c.length ∧ blk ((pairsR r k).foldl (putW at_ en data) c) 1 = blk c 1 ∧
      (∀ j, j < k → blkI ((pairsR r k).foldl (putW at_ en data) c) ((dataR r).getD j 0) = newB c at_ en data (dataR r) j) ∧ (∀ b, (∀ j, j < k → (dataR r).getD j 0 ≠ b) → blkI ((pairsR r k).foldl (putW at_ en data) c) b = blkI c b)
  | 0, _ => ⟨hf, rfl, rfl, fun j hj => by omega, fun b _ => rfl⟩
  | k + 1, hk => by
    obtain ⟨h1, h2, h3, h4, h5⟩ := laid_to hf hd he hn68 hlen hnd hin k (by omega)
    have hkl : k < (dataR r).length := by omega
    have hmem : (dataR r).getD k 0 ∈ dataR r := by rw [List.getD_eq_getElem?_getD, List.getElem?_eq_getElem hkl]; exact List.getElem_mem _
    have hb := hin _ hmem
    have hne : ∀ j, j < k → (dataR r).getD j 0 ≠ (dataR r).getD k 0 := fun j hj e => by
      rw [List.getD_eq_getElem?_getD, List.getElem?_eq_getElem (by omega), List.getD_eq_getElem?_getD, List.getElem?_eq_getElem hkl] at e
      exact List.pairwise_iff_getElem.1 hnd j k (by omega) hkl hj (by simpa using e)
    have hold := h5 ((dataR r).getD k 0) hne
    rw [pairsR_succ, List.foldl_append]
    show FitA (putW at_ en data _ _) ∧ (putW at_ en data _ _).length = _ ∧ blk (putW at_ en data _ _) 1 = _ ∧ (∀ j, j < k + 1 → blkI (putW at_ en data _ _) _ = _) ∧ ∀ b, _ → blkI (putW at_ en data _ _) b = _
    rw [pair_data (by omega), putW_nat (by omega) (by omega) he]
    generalize (pairsR r k).foldl (putW at_ en data) c = m at *
    generalize hB : (dataR r).getD k 0 = B at *
    by_cases h : max at_ (128 * k) < min en (128 * k + 128)
    · rw [if_pos h]
      have hsz : max at_ (128 * k) - 128 * k + (data.extract (max at_ (128 * k) - at_) (min en (128 * k + 128) - at_)).size ≤ 128 := by rw [ByteArray.size_extract]; omega
      have hbl := fun j => blkI_put (img := m) (i := B) (by rw [h2]; exact hb.2) hsz j
      refine ⟨fit_put h1 hb.1 hsz, by rw [putI_length, h2], by rw [map_put _ hb.1, h3], fun j hj => ?_, fun b hbn => ?_⟩
      · rw [hbl]
        rcases Nat.lt_or_ge j k with hjk | hjk
        · rw [if_neg (hne j hjk), h4 j hjk]
        · obtain rfl : j = k := by omega
          rw [if_pos hB, hold]
          unfold newB
          rw [if_pos h, hB]
      · rw [hbl, if_neg (fun e => hbn k (by omega) (by rw [hB, e])), h5 b fun j hj => hbn j (by omega)]
    · rw [if_neg h]
      refine ⟨h1, h2, h3, fun j hj => ?_, fun b hbn => h5 b fun j hj => hbn j (by omega)⟩
      rcases Nat.lt_or_ge j k with hjk | hjk
      · exact h4 j hjk
      · obtain rfl : j = k := by omega
        rw [hB, hold]
        unfold newB
        rw [if_neg h, hB]
/-- A byte of what an inode's blocks hold. -/
theorem flat_getD {img : List ByteArray} {r : RecI} {p : Nat} (hp : p < 128 * (dataR r).length) : (flatR img r).getD p 0 = (blkI img ((dataR r).getD (p / 128) 0)).data.toList.getD (p % 128) 0 := by
  unfold flatR
  generalize dataR r = l at *
  induction l generalizing p with
  | nil => simp at hp
  | cons a l ih =>
    have ha : (blkI img a).data.toList.length = 128 := by simpa using blkI_size img a
    rw [List.flatMap_cons, List.getD_eq_getElem?_getD]
    rcases Nat.lt_or_ge p 128 with h | h
    · rw [List.getElem?_append_left (by omega), Nat.div_eq_of_lt h, Nat.mod_eq_of_lt h, ← List.getD_eq_getElem?_getD]; rfl
    · rw [List.getElem?_append_right (by omega), ha, ← List.getD_eq_getElem?_getD, ih (p := p - 128) (by simp at hp; omega)]
      rw [show p / 128 = (p - 128) / 128 + 1 by omega, show (p - 128) % 128 = p % 128 by omega]
      rfl
theorem flatR_len (img : List ByteArray) (r : RecI) : (flatR img r).length = 128 * (dataR r).length := by unfold flatR; exact flatI_length img _

/-- WRITTEN: the image is sound, the inode as it was, its bytes what was written. -/
theorem laid_sound {c : List ByteArray} (hs : SoundQ c) {i : Nat} (hi : i < cntA c.length) (hk : (recI c i).kind ≠ 0) {at_ : Nat} {data : ByteArray} (he : at_ + data.size ≤ (recI c i).size) :
    Chg c (laidW at_ data c (recI c i)) i (recI c i) ∧ ∀ p, p < 128 * needN (recI c i).size → (flatR (laidW at_ data c (recI c i)) (recI c i)).getD p 0 = if at_ ≤ p ∧ p < at_ + data.size then data.data.toList.getD (p - at_) 0 else (flatR c (recI c i)).getD p 0 := by
  have hC := (first_le hs.fit.1.1 hs.fit.1.2).2.2.2.1
  have hF3 := (first_le hs.fit.1.1 hs.fit.1.2).1
  have hr := recI_ok c i (by omega)
  have hkk : (recI c i).kind = 1 ∨ (recI c i).kind = 2 := (form_kind (hs.form i hi)).resolve_left hk
  have hfm := hs.form i hi
  have hfs := form_size hkk hfm
  have hn68 := need_le hfs.1
  have hlen : (dataR (recI c i)).length = needN (recI c i).size := by rw [dataR_length hr]; omega
  have hnmd := hs.named i hi
  have hone := hs.once i hi
  have hndD : (dataR (recI c i)).Nodup := (List.nodup_append.1 hone).1
  have hin : ∀ b ∈ dataR (recI c i), firstA c.length ≤ b ∧ b < c.length := fun b hb => by
    have := hnmd b (List.mem_append_left _ hb)
    exact ⟨this.1, taken_lt this.2⟩
  have hlen68 : lenR (recI c i) = needN (recI c i).size := by unfold lenR; omega
  obtain ⟨h1, h2, h3, h4, h5⟩ := laid_to hs.fit (r := recI c i) (at_ := at_) (data := data) rfl (by omega) hn68 hlen hndD (fun b hb => by have := hin b hb; omega) (needN (recI c i).size) (Nat.le_refl _)
  have hL : laidW at_ data c (recI c i) = (pairsR (recI c i) (needN (recI c i).size)).foldl (putW at_ (at_ + data.size) data) c := by unfold laidW; rw [hlen68]
  rw [← hL] at h1 h2 h3 h4 h5
  generalize laidW at_ data c (recI c i) = w at *
  clear hL
  have hmemj : ∀ j, j < needN (recI c i).size → (dataR (recI c i)).getD j 0 ∈ dataR (recI c i) := fun j hj => by
    rw [List.getD_eq_getElem?_getD, List.getElem?_eq_getElem (by omega)]; exact List.getElem_mem _
  have hout : ∀ b, b ∉ dataR (recI c i) → blkI w b = blkI c b := fun b hb => h5 b fun j hj e => hb (e ▸ hmemj j hj)
  have hraw : ∀ j, j < cntA c.length → rawI w j = rawI c j := fun j hj => rawI_far (hout _ fun hb => by have := (hin _ hb).1; have := inode_lt hj; omega)
  have hrec : recI w i = recI c i := recI_far (hraw i hi) fun h0 => hout _ fun hb => by
    unfold namedR at hone
    rw [if_neg h0, List.nodup_append] at hone
    exact hone.2.2 _ hb _ (by simp) rfl
  have hflat : ∀ p, p < 128 * needN (recI c i).size → (flatR w (recI c i)).getD p 0 = if at_ ≤ p ∧ p < at_ + data.size then data.data.toList.getD (p - at_) 0 else (flatR c (recI c i)).getD p 0 := fun p hp => by
    rw [flat_getD (by rw [hlen]; exact hp), flat_getD (by rw [hlen]; exact hp), h4 (p / 128) (by omega), newB_getD rfl (by omega), show 128 * (p / 128) + p % 128 = p by omega]
  have hfl := flatR_len w (recI c i)
  have hfl2 := flatR_len c (recI c i)
  have hdrop : (flatR w (recI c i)).drop (recI c i).size = (flatR c (recI c i)).drop (recI c i).size := by
    refine List.ext_getElem (by rw [List.length_drop, List.length_drop, hfl, hfl2]) fun j hj1 hj2 => ?_
    rw [List.length_drop, hfl, hlen] at hj1
    have := hflat ((recI c i).size + j) (by omega)
    rw [if_neg (by omega), List.getD_eq_getElem?_getD, List.getD_eq_getElem?_getD, List.getElem?_eq_getElem (by rw [hfl, hlen]; omega), List.getElem?_eq_getElem (by rw [hfl2, hlen]; omega)] at this
    rw [List.getElem_drop, List.getElem_drop]
    exact this
  have hoth : ∀ j, j < cntA c.length → j ≠ i → rawI w j = rawI c j ∧ ∀ b ∈ namedR (recI c j), blkI w b = blkI c b := fun j hj hne => ⟨hraw j hj, fun b hb => hout b fun hb2 => hs.apart j i hj hi hne b hb (List.mem_append_left _ hb2)⟩
  refine ⟨⟨sound_one hs hi h1 h2 hoth ?_ ?_ ?_ ?_, h2, hrec, hoth⟩, hflat⟩
  · rw [hrec]
    have : isFormI w (recI c i) = isFormI c (recI c i) := by
      unfold isFormI
      rw [hdrop, hfl, ← hfl2, show rawI w (recI c i).num = rawI c (recI c i).num from hraw i hi]
    rw [this]; exact hfm
  · rw [hrec]; exact hone
  · rw [hrec]
    intro b hb
    have := hnmd b hb
    exact ⟨this.1, taken_lt this.2, .inl hb⟩
  · intro b hb1 hb2
    rw [hrec, taken_map h2 h3]
    constructor
    · intro h
      by_cases hn : b ∈ namedR (recI c i)
      · exact .inr hn
      · exact .inl ⟨h, hn⟩
    · rintro (h | h)
      · exact h.1
      · exact (hnmd b h).2

end Go.Proofs.YtpdfkakhahfcjaaGreat

/-
  What is written, block by block: the words for the document's loop.
-/
namespace Go.Proofs.YtpdfkakhahfcjaaGreat
open Go.RowKit

/-- The first q blocks are behind. -/
def foldW (at_ en : Nat) (data : ByteArray) (img : List ByteArray) (r : RecI) (q : Nat) : List ByteArray := (pairsR r q).foldl (putW at_ en data) img
theorem foldW_succ (at_ en : Nat) (data : ByteArray) (img : List ByteArray) (r : RecI) (q : Nat) : foldW at_ en data img r (q + 1) = putW at_ en data (foldW at_ en data img r q) (q, (r.bl ++ r.ls).getD q 0) := by
  unfold foldW
  rw [pairsR_succ, List.foldl_append]
  rfl
theorem foldW_length (at_ en : Nat) (data : ByteArray) (img : List ByteArray) (r : RecI) : ∀ q, (foldW at_ en data img r q).length = img.length
  | 0 => rfl
  | q + 1 => by rw [foldW_succ, putW_length, foldW_length at_ en data img r q]
theorem laid_fold (at_ : Nat) (data : ByteArray) (img : List ByteArray) (r : RecI) : laidW at_ data img r = foldW at_ (at_ + data.size) data img r (lenR r) := rfl
/-- Ahead of the place nothing is written. -/
theorem foldW_ahead {at_ en : Nat} {data : ByteArray} {img : List ByteArray} {r : RecI} (ha : at_ ≤ en) (he : en ≤ 8704) : ∀ q, 128 * q ≤ at_ → foldW at_ en data img r q = img
  | 0, _ => rfl
  | q + 1, h => by
    rw [foldW_succ, foldW_ahead ha he q (by omega), putW_nat (by omega) ha he, if_neg (by omega)]
/-- Behind its end nothing is. -/
theorem foldW_behind {at_ en : Nat} {data : ByteArray} {img : List ByteArray} {r : RecI} (ha : at_ ≤ en) (he : en ≤ 8704) {q : Nat} (h : en ≤ 128 * q) : ∀ d, q + d ≤ 68 → foldW at_ en data img r (q + d) = foldW at_ en data img r q
  | 0, _ => rfl
  | d + 1, hd => by
    rw [← Nat.add_assoc, foldW_succ, putW_nat (by omega) ha he, if_neg (by omega), foldW_behind ha he h d (by omega)]
/-- A block of the document's loop: k bytes are written, so many come now. -/
theorem foldW_block {at_ en k : Nat} {data : ByteArray} {img : List ByteArray} {r : RecI} (he : en ≤ 8704) (hd : en = at_ + data.size) (hk : k < data.size) {q : Nat} (hq : (at_ + k) / 128 = q) (ho : k = 0 ∨ (at_ + k) % 128 = 0) :
    foldW at_ en data img r (q + 1) = putI (foldW at_ en data img r q) ((r.bl ++ r.ls).getD q 0) ((at_ + k) % 128) (data.extract k (k + min (128 - (at_ + k) % 128) (data.size - k))) := by
  have hmx : max at_ (128 * q) = at_ + k := by omega
  rw [foldW_succ, putW_nat (by omega) (by omega) he, hmx, if_pos (by omega), show at_ + k - 128 * q = (at_ + k) % 128 by omega, show at_ + k - at_ = k by omega, show min en (128 * q + 128) - at_ = k + min (128 - (at_ + k) % 128) (data.size - k) by omega]
/-- Where the loop stands behind it. -/
theorem next_block {at_ k q s : Nat} (hk : k < s) (hq : (at_ + k) / 128 = q) : (k + min (128 - (at_ + k) % 128) (s - k) = s ∧ at_ + s ≤ 128 * (q + 1)) ∨ (k + min (128 - (at_ + k) % 128) (s - k) < s ∧ (at_ + (k + min (128 - (at_ + k) % 128) (s - k))) / 128 = q + 1 ∧ (at_ + (k + min (128 - (at_ + k) % 128) (s - k))) % 128 = 0) := by
  omega

end Go.Proofs.YtpdfkakhahfcjaaGreat

/-
  The law for drawn regions whose last operation is their one store, and waits, step by step, for all the others.
-/
namespace Go.Proofs.YtpdfkakhahfcjaaGreat
open Go.RowKit

theorem RelL.mk {F : Nat → Oper → Prop} : ∀ {l : List Oper} {i : Nat}, (∀ k o, l[k]? = some o → F (i + k) o) → RelL F l i
  | [], _, _ => trivial
  | o :: r, i, h => ⟨h 0 o rfl, RelL.mk fun k o' hk => by
      have := h (k + 1) o' (by simpa using hk)
      rwa [show i + (k + 1) = i + 1 + k by omega] at this⟩
theorem AllL.all {F : Nat → Prop} : ∀ {l : List Nat}, AllL F l → ∀ j ∈ l, F j
  | [], _, j, h => by cases h
  | k :: r, hl, j, h => by
    rcases List.mem_cons.1 h with rfl | h
    · exact hl.1
    · exact AllL.all hl.2 j h
/-- Every operation has one that waits for it, but the last: so with the last all have been carried out. -/
def chainB (tab : List (List Nat)) (z : Nat) : Bool := (List.range z).all fun i => (List.range (z + 1)).any fun k => decide (i < k) && (tab.getD k []).contains i
theorem chain_all {tab : List (List Nat)} {z : Nat} (h : chainB tab z = true) {L : Nat → Bool} (hc : ClosedL tab L) (hz : L z = true) : ∀ i, i ≤ z → L i = true := by
  have key : ∀ d i, i + d = z → L i = true := by
    intro d
    induction d using Nat.strongRecOn with
    | _ d ih =>
      intro i hi
      rcases Nat.eq_zero_or_pos d with h0 | h0
      · obtain rfl : i = z := by omega
        exact hz
      · have h1 := List.all_eq_true.1 h i (List.mem_range.2 (by omega))
        obtain ⟨k, hk, h2⟩ := List.any_eq_true.1 h1
        have hk := List.mem_range.1 hk
        simp only [Bool.and_eq_true, decide_eq_true_eq, List.contains_iff_mem] at h2
        exact hc k (ih (z - k) (by omega) k (by omega)) i (by simpa using h2.2)
  intro i hi
  exact key (z - i) i (by omega)

section
variable {P : Program} {ops : Array Oper} {Q : Exit → Act → World → Prop}
/-- THE LAW. D: what holds ahead of the store; E: behind it; R i: what i's value meets. -/
theorem wp_region_last (tab : List (List Nat)) (z : Nat) (D E : World → Prop) (R : Nat → Value → World → Prop) {id : Nat} {a0 : Act} {w : World} (hm : P.follows .mixedOrders = true) (hok : relOk3 ops a0.tmps.size = true) (htab : (ops.toList.map fun o => waitsL o.after.toList) = tab)
    (hz : ops.size = z + 1) (hch : chainB tab z = true) (hnz : (tab.all fun l => !l.contains z) = true) (hD0 : D w.drew) (hD : ∀ w w', Below w.heap.size w w' → D w → D w') (hR : ∀ j v w w', Below w.heap.size w w' → R j v w → R j v w')
    (hops : RelL (fun i o => ∀ (V : Nat → Value) (w : World), D w → AllL (fun j => R j (V j) w) (waitsL o.after.toList) →
      GivesG P ops o (laidL V ops.toList 0 a0) w (fun v w' => (i ≠ z → Below w.heap.size w w' ∧ R i v w') ∧ (i = z → E w'))) ops.toList 0)
    (hend : ∀ (V : Nat → Value) (w : World), E w → Q .normal (laidL V ops.toList 0 a0) w) : (Code.region id ops true).wp P Q a0 w := by
  refine wp_region_rel4 tab (fun L w => ClosedL tab L ∧ (∀ i, z < i → L i = false) ∧ (L z = false → D w) ∧ (L z = true → E w)) (fun i w w' => i ≤ z ∧ (i ≠ z → Below w.heap.size w w') ∧ (i = z → E w')) (fun i L v w => i = z ∨ L z = true ∨ R i v w) hm hok htab
    ⟨ClosedL.start _, fun _ _ => rfl, fun _ => hD0, fun h => by cases h⟩ ?_ ?_ ?_ ?_
  · intro i L w w' hi hw ⟨hc, hb, h1, h2⟩ ⟨hle, hs1, hs2⟩
    refine ⟨hc.step hw, fun k hk => ?_, fun h => ?_, fun h => ?_⟩
    · show (if k = i then true else L k) = false
      rw [if_neg (by omega)]; exact hb k hk
    · have h : (if z = i then true else L z) = false := h
      by_cases e : z = i
      · rw [if_pos e] at h; cases h
      · rw [if_neg e] at h
        exact hD w w' (hs1 (Ne.symm e)) (h1 h)
    · have h : (if z = i then true else L z) = true := h
      by_cases e : z = i
      · exact hs2 e.symm
      · rw [if_neg e] at h
        rw [chain_all hch hc h i hle] at hi; cases hi
  · intro i j L v w w' hij hj hi ⟨hle, hs1, hs2⟩ h
    rcases h with h | h | h
    · exact .inl h
    · refine .inr (.inl ?_)
      show (if z = i then true else L z) = true
      split
      · rfl
      · exact h
    · by_cases e : i = z
      · exact .inr (.inl (if_pos e.symm))
      · exact .inr (.inr (hR j v w w' (hs1 e) h))
  · refine RelL.mk fun i o ho V L w hi ⟨hc, hb, h1, h2⟩ hw => ?_
    rw [Nat.zero_add] at hi ⊢
    have hlt : i < ops.size := by
      rw [Array.getElem?_toList] at ho
      exact (Array.getElem?_eq_some_iff.1 ho).1
    have hzf : L z = false := by
      cases hz' : L z with
      | false => rfl
      | true => rw [chain_all hch hc hz' i (by omega)] at hi; cases hi
    have ht : waitsL o.after.toList ∈ tab := by rw [← htab]; exact List.mem_map.2 ⟨o, List.mem_of_getElem? ho, rfl⟩
    have h3 := RelL.get hops i o ho V w (h1 hzf) (AllL.mk fun j hj => by
      have h4 := (AllL.all hw j hj).2
      rcases h4 with h4 | h4 | h4
      · subst h4
        have := List.all_eq_true.1 hnz _ ht
        simp only [Bool.not_eq_true', List.contains_eq_mem, decide_eq_false_iff_not] at this
        exact absurd hj this
      · rw [hzf] at h4; cases h4
      · exact h4)
    rw [Nat.zero_add] at h3
    have mono : ∀ {T T' : Value → World → Prop}, (∀ v w', T v w' → T' v w') → GivesG P ops o (laidL V ops.toList 0 a0) w T → GivesG P ops o (laidL V ops.toList 0 a0) w T' := by
      intro T T' hT hg
      unfold GivesG at hg ⊢
      split
      · rename_i hgd
        simp only [hgd] at hg
        exact fun K hK => hg K fun v w' h => hK v w' (hT v w' h)
      · rename_i g want hgd
        simp only [hgd] at hg
        split
        · rename_i hy
          rw [if_pos hy] at hg
          exact fun K hK => hg K fun v w' h => hK v w' (hT v w' h)
        · rename_i hy
          rw [if_neg hy] at hg
          exact hT _ _ hg
    refine mono (fun v w' h => ?_) h3
    refine ⟨⟨by omega, fun hne => (h.1 hne).1, h.2⟩, ?_⟩
    by_cases e : i = z
    · exact .inl e
    · exact .inr (.inr (h.1 e).2)
  · intro V L w hL ⟨_, _, _, h2⟩ _
    exact hend V w (h2 (hL z (by omega)))
end
end Go.Proofs.YtpdfkakhahfcjaaGreat

/-
  The document's own answer: an inode laid into an image of its own.
-/
namespace Go.Proofs.YtpdfkakhahfcjaaGreat
open Go.RowKit

theorem OwI.low {w : World} {b base g n c : Nat} {img : List ByteArray} (h : OwI w base g n c img) (hb : b ≤ base) : OwI w b g n c img :=
  ⟨⟨h.own.1, h.own.2.imp id fun ⟨g', cap, cur, e, h2, r⟩ => ⟨g', cap, cur, e, Nat.le_trans hb h2, r⟩⟩, h.pos⟩
theorem over_cat {s t : ByteArray} {o : Nat} : s.extract 0 o ++ t ++ s.extract (o + t.size) s.size = overB s o t := by
  apply ByteArray.ext
  rw [ByteArray.data_append, ByteArray.data_append]
  apply Array.ext'
  have e1 : (s.extract (o + t.size) s.size).data.toList = s.data.toList.drop (o + t.size) := by rw [ext_toList, List.take_of_length_le (by simp)]
  have e2 : (s.extract 0 o).data.toList = s.data.toList.take o := by rw [ext_toList, List.drop_zero, Nat.sub_zero]
  rw [Array.toList_append, Array.toList_append, e1, e2]
  simp [overB, mkB]
def putV (g n c i j m : Nat) (r : RecI) (s t : ByteArray) : Nat → Value → World → Prop
  | 0 => eqV (.slice (some ⟨g, 0, none⟩) n c)
  | 1 => eqV (.int .i64 (i : Int))
  | 2 => eqV (.int .i64 (j : Int))
  | 3 => eqV (.int .i64 (2 + (j : Int)))
  | 4 => eqV (.string s)
  | 5 => eqV (.int .i64 (32 * (m : Int)))
  | 6 => eqV (.string (s.extract 0 (32 * m)))
  | 7 => eqV (valI r)
  | 8 => eqV (.string t)
  | 9 => eqV (.string (s.extract 0 (32 * m) ++ t))
  | 10 => eqV (.string s)
  | 11 => eqV (.int .i64 (32 * (m : Int)))
  | 12 => eqV (.int .i64 (32 * (m : Int) + 32))
  | 13 => eqV (.string (s.extract (32 * m + 32) 128))
  | 14 => eqV (.string (s.extract 0 (32 * m) ++ t ++ s.extract (32 * m + 32) 128))
  | 15 => eqV (.pointer (some ⟨g, 2 + j, none⟩))
  | _ => fun _ _ => True
theorem putV_stable (g n c i j m : Nat) (r : RecI) (s t : ByteArray) (k : Nat) (v : Value) (w w' : World) (h : putV g n c i j m r s t k v w) : putV g n c i j m r s t k v w' := by
  match k, h with
  | 0, h => exact h
  | 1, h => exact h
  | 2, h => exact h
  | 3, h => exact h
  | 4, h => exact h
  | 5, h => exact h
  | 6, h => exact h
  | 7, h => exact h
  | 8, h => exact h
  | 9, h => exact h
  | 10, h => exact h
  | 11, h => exact h
  | 12, h => exact h
  | 13, h => exact h
  | 14, h => exact h
  | 15, h => exact h
  | _ + 16, _ => trivial
/-- Ahead of the store, and behind it. -/
def stP (w0 : World) (base g gx n c : Nat) (r : RecI) (img img' : List ByteArray) (L : Nat → Bool) (W : World) : Prop :=
  ((L 16 = false ∧ OwI W base g n c img) ∨ (L 16 = true ∧ OwI W base g n c img')) ∧ BI W gx r ∧ Below w0.heap.size w0 W
def doP (g k : Nat) (u : ByteArray) (i : Nat) (w w' : World) : Prop := (i ≠ 16 → Below w.heap.size w w') ∧ (i = 16 → w' = w.setCell ⟨g, k, none⟩ (.string u))
theorem stP_step {w0 : World} {base g gx n c k : Nat} {r : RecI} {img : List ByteArray} {u : ByteArray} (hb : w0.heap.size ≤ base) (hgx : gx < g) {i : Nat} {L : Nat → Bool} {w w' : World} (hi : L i = false) (hC : stP w0 base g gx n c r img (img.set k u) L w) (hs : doP g k u i w w') :
    stP w0 base g gx n c r img (img.set k u) (fun j => if j = i then true else L j) w' := by
  unfold stP at hC ⊢
  by_cases e : i = 16
  · subst e
    obtain rfl := hs.2 rfl
    rcases hC with ⟨⟨_, h1⟩ | ⟨h, _⟩, h2, h3⟩
    · exact ⟨.inr ⟨if_pos rfl, h1.set k u⟩, (Below.heap_setCell w ⟨g, k, none⟩ _ gx (by show gx ≠ g; omega)).trans h2, h1.below_set k _ hb h3⟩
    · rw [h] at hi; cases hi
  · have hB := hs.1 e
    rcases hC with ⟨⟨h0, h1⟩ | ⟨h0, h1⟩, h2, h3⟩
    · exact ⟨.inl ⟨(if_neg (Ne.symm e)).trans h0, h1.step hB⟩, h2.step hB, bstep h3 hB⟩
    · exact ⟨.inr ⟨(if_neg (Ne.symm e)).trans h0, h1.step hB⟩, h2.step hB, bstep h3 hB⟩

set_option maxRecDepth 100000 in
set_option maxHeartbeats 8000000 in
theorem refPut_any (A : Option Addr) (n c0 : Nat) (img : List ByteArray) (i : Nat) (r : RecI) (w : World) (h : Reads w w.heap.size 1 A n (encS img)) (hf : ∀ b ∈ img, b.size = 128) (h8 : 8 ≤ n) (h5 : n ≤ 512) (hi : i < cntA n) (hr : OkW r) (h7 : (cellsI r).length = 7) (hts : (textR r).size = 32) :
    Calls Tryz.prog 36 #[.slice A n c0, .int .i64 i, valI r] w fun e w' => ∃ g c, e = .returned (.slice (some ⟨g, 0, none⟩) n c) ∧ OwI w' w.heap.size g n c (putI img (2 + i / 4) (32 * (i % 4)) (textR r)) ∧ Below w.heap.size w w' := by
  have hmx : Tryz.prog.follows .mixedOrders = true := by kernel_rfl
  have hl := h.lenS
  have hat := inode_at h8 h5 hi
  have hC := (first_le h8 h5).2.2.2.1
  have hbs : blkI img (2 + i / 4) = blk img (2 + i / 4) := by
    unfold blkI
    rw [if_pos ⟨by omega, hf _ (by unfold blk; rw [List.getD_eq_getElem?_getD, List.getElem?_eq_getElem (by omega)]; exact List.getElem_mem _)⟩]
  have hsz : (blk img (2 + i / 4)).size = 128 := by rw [← hbs]; exact blkI_size _ _
  have hp : putI img (2 + i / 4) (32 * (i % 4)) (textR r) = img.set (2 + i / 4) (overB (blk img (2 + i / 4)) (32 * (i % 4)) (textR r)) := by unfold putI; rw [if_pos (by omega), hbs]
  rw [hp]
  have cw := fun W => refWrite_any r hr W
  have h0 : Below w.heap.size w (w.alloc (.cells (cellsI r).toArray 47)) := (Below.refl _ w).alloc (Nat.le_refl _) _
  have cO := refOwn_any A n c0 img (w.alloc (.cells (cellsI r).toArray 47)) (h.alloc _) (by omega)
  have hB := BI.new w r
  have hcat := over_cat (s := blk img (2 + i / 4)) (t := textR r) (o := 32 * (i % 4))
  rw [hts, hsz] at hcat
  rw [← hcat]
  have HX := Lib.hid (And.intro hB h0)
  clear h hf hr hbs hp hcat hB h0
  obtain ⟨s, hs⟩ : ∃ s, s = blk img (2 + i / 4) := ⟨_, rfl⟩
  rw [← hs] at hsz ⊢
  generalize textR r = t at cw hts ⊢
  have h4 : (i : Int).tmod 4 = ((i % 4 : Nat) : Int) := by rw [Int.tmod_eq_emod_of_nonneg (by omega)]; omega
  have h4e : (i : Int) % 4 = ((i % 4 : Nat) : Int) := by omega
  have hd : (i : Int).tdiv 4 = ((i / 4 : Nat) : Int) := by rw [Int.tdiv_eq_ediv_of_nonneg (by omega)]; omega
  have hde : (i : Int) / 4 = ((i / 4 : Nat) : Int) := by omega
  have hm4 : i % 4 < 4 := Nat.mod_lt _ (by omega)
  have hj : i / 4 ≤ 1024 := by omega
  generalize i % 4 = m at *
  generalize i / 4 = j at *
  have hw1 : IntKind.i64.wrap (2 + (j : Int)) = 2 + (j : Int) := by rw [IntKind.wrap_i64]; omega
  have hw2 : (2 + (j : Int)).toNat = 2 + j := by omega
  have hw3 : (2 + (j : Int)) < (n : Int) := by omega
  have hw4 : (0 : Int) ≤ 2 + (j : Int) := by omega
  have hw5 : IntKind.i64.wrap (32 * (m : Int)) = 32 * (m : Int) := by rw [IntKind.wrap_i64]; omega
  have hw6 : IntKind.i64.wrap (32 * (m : Int) + 32) = 32 * (m : Int) + 32 := by rw [IntKind.wrap_i64]; omega
  have hw7 : (32 * (m : Int)).toNat = 32 * m := by omega
  have hw8 : (32 * (m : Int) + 32).toNat = 32 * m + 32 := by omega
  have hw9 : (0 : Int) ≤ 32 * (m : Int) := by omega
  have hw9b : (0 : Int) ≤ 32 * (m : Int) + 32 := by omega
  have hw10 : 32 * (m : Int) ≤ 128 := by omega
  have hw11 : 32 * (m : Int) + 32 ≤ 128 := by omega
  have x1 : (s.extract 0 (32 * m)).size = 32 * m := by rw [ByteArray.size_extract]; omega
  have x2 : (s.extract (32 * m + 32) 128).size = 96 - 32 * m := by rw [ByteArray.size_extract]; omega
  have hno1 : ¬ 9223372036854775807 < (s.extract 0 (32 * m)).size + t.size := by omega
  have hno2 : ¬ 9223372036854775807 < (s.extract 0 (32 * m) ++ t).size + (s.extract (32 * m + 32) 128).size := by rw [ByteArray.size_append]; omega
  clear x1 x2
  unfold valI
  go_enter Tryz.func36, Tryz.ntmps36
  go_wp2_with fail
  refine cO.mono ?_
  rintro e w1 ⟨A1, c, rfl, ho1, hb1⟩
  obtain ⟨g, rfl, hO1⟩ := OwI.of ho1 (by omega)
  have hcell := hO1.cell (2 + j) (by omega)
  rw [← hs] at hcell
  have HS := Lib.hid hs
  clear hs
  have hlo : w.heap.size ≤ (w.alloc (.cells (cellsI r).toArray 47)).heap.size := by simp
  have hgx : w.heap.size < (w.alloc (.cells (cellsI r).toArray 47)).heap.size := by simp
  have hgx2 : w.heap.size < g := by have := hO1.ge; omega
  have HY : Hid (OwI w1 w.heap.size g n c img ∧ BI w1 w.heap.size r ∧ Below w.heap.size w w1) := Lib.hid ⟨hO1.low hlo, HX.out.1.step hb1, bstep HX.out.2 hb1⟩
  clear ho1 hb1 hO1 cO HX hlo hgx
  go_upto_region 4 with fail
  have hO := HY.out
  refine wp_region_rel2 (stP w w.heap.size g w.heap.size n c r img (img.set (2 + j) (s.extract 0 (32 * m) ++ t ++ s.extract (32 * m + 32) 128))) (doP g (2 + j) (s.extract 0 (32 * m) ++ t ++ s.extract (32 * m + 32) 128)) (putV g n c i j m r s t) hmx (by kernel_rfl) ⟨.inl ⟨rfl, hO.1.step (Below.refl _ _).drew⟩, hO.2.1.step (Below.refl _ _).drew, hO.2.2.drew⟩ (fun k L a b hk hC hs => stP_step (Nat.le_refl _) hgx2 hk hC hs) (fun k l v a b _ _ h => putV_stable g n c i j m r s t l v a b h) ?_ ?_
  · clear hcell HY hO
    refine ⟨?_, ?_, ?_, ?_, ?_, ?_, ?_, ?_, ?_, ?_, ?_, ?_, ?_, ?_, ?_, ?_, ?_, trivial⟩
    · intro V L W hL hC hd K hK
      clear hd
      simp only [laidL, Act.put, List.setIfInBounds_toArray, List.set_cons_zero, List.set_cons_succ] at hK ⊢
      go_simp
      exact hK _ _ ⟨⟨fun _ => Below.refl _ _, fun h => absurd h (by decide)⟩, rfl⟩
    · intro V L W hL hC hd K hK
      clear hd
      simp only [laidL, Act.put, List.setIfInBounds_toArray, List.set_cons_zero, List.set_cons_succ] at hK ⊢
      go_simp
      exact hK _ _ ⟨⟨fun _ => Below.refl _ _, fun h => absurd h (by decide)⟩, rfl⟩
    · intro V L W hL hC hd K hK
      have q1 : putV g n c i j m r s t 1 (V 1) W := hd.1
      have e1 : V 1 = .int .i64 (i : Int) := q1
      clear q1
      clear hd
      simp only [laidL, Act.put, List.setIfInBounds_toArray, List.set_cons_zero, List.set_cons_succ] at hK ⊢
      generalize V 1 = v1 at e1 hK ⊢
      subst e1
      go_simp
      exact hK _ _ ⟨⟨fun _ => Below.refl _ _, fun h => absurd h (by decide)⟩, congrArg (Value.int .i64) (by first | rfl | omega | (rw [IntKind.wrap_i64]; omega))⟩
    · intro V L W hL hC hd K hK
      have q2 : putV g n c i j m r s t 2 (V 2) W := hd.1
      have e2 : V 2 = .int .i64 (j : Int) := q2
      clear q2
      clear hd
      simp only [laidL, Act.put, List.setIfInBounds_toArray, List.set_cons_zero, List.set_cons_succ] at hK ⊢
      generalize V 2 = v2 at e2 hK ⊢
      subst e2
      go_simp
      exact hK _ _ ⟨⟨fun _ => Below.refl _ _, fun h => absurd h (by decide)⟩, rfl⟩
    · intro V L W hL hC hd K hK
      clear hd
      simp only [laidL, Act.put, List.setIfInBounds_toArray, List.set_cons_zero, List.set_cons_succ] at hK ⊢
      go_simp
      exact hK _ _ ⟨⟨fun _ => Below.refl _ _, fun h => absurd h (by decide)⟩, rfl⟩
    · intro V L W hL hC hd K hK
      clear hd
      simp only [laidL, Act.put, List.setIfInBounds_toArray, List.set_cons_zero, List.set_cons_succ] at hK ⊢
      go_simp
      exact hK _ _ ⟨⟨fun _ => Below.refl _ _, fun h => absurd h (by decide)⟩, rfl⟩
    · intro V L W hL hC hd K hK
      have q4 : putV g n c i j m r s t 4 (V 4) W := hd.1
      have e4 : V 4 = .string s := q4
      clear q4
      have q5 : putV g n c i j m r s t 5 (V 5) W := hd.2.1
      have e5 : V 5 = .int .i64 (32 * (m : Int)) := q5
      clear q5
      clear hd
      simp only [laidL, Act.put, List.setIfInBounds_toArray, List.set_cons_zero, List.set_cons_succ] at hK ⊢
      generalize V 4 = v4 at e4 hK ⊢
      subst e4
      generalize V 5 = v5 at e5 hK ⊢
      subst e5
      go_simp
      exact hK _ _ ⟨⟨fun _ => Below.refl _ _, fun h => absurd h (by decide)⟩, rfl⟩
    · intro V L W hL hC hd K hK
      clear hd
      simp only [laidL, Act.put, List.setIfInBounds_toArray, List.set_cons_zero, List.set_cons_succ] at hK ⊢
      have hB := hC.2.1
      refine wp_load_mid 47 (.tmp 5) rfl _ 0 rfl (cellsI r) _ hB.range Tryz.underlying47 rfl (by rw [h7]; exact sizeIn) ?_
      exact hK _ _ ⟨⟨fun _ => Below.refl _ _, fun h => absurd h (by decide)⟩, rfl⟩
    · intro V L W hL hC hd K hK
      have q7 : putV g n c i j m r s t 7 (V 7) W := hd.1
      have e7 : V 7 = valI r := q7
      clear q7
      clear hd
      simp only [laidL, Act.put, List.setIfInBounds_toArray, List.set_cons_zero, List.set_cons_succ] at hK ⊢
      generalize V 7 = v7 at e7 hK ⊢
      subst e7
      go_simp
      go_at_call 52
      refine (cw _).mono ?_
      rintro e w3 ⟨rfl, hb3⟩
      exact hK _ _ ⟨⟨fun _ => hb3, fun h => absurd h (by decide)⟩, rfl⟩
    · intro V L W hL hC hd K hK
      have q6 : putV g n c i j m r s t 6 (V 6) W := hd.1
      have e6 : V 6 = .string (s.extract 0 (32 * m)) := q6
      clear q6
      have q8 : putV g n c i j m r s t 8 (V 8) W := hd.2.1
      have e8 : V 8 = .string t := q8
      clear q8
      clear hd
      simp only [laidL, Act.put, List.setIfInBounds_toArray, List.set_cons_zero, List.set_cons_succ] at hK ⊢
      generalize V 6 = v6 at e6 hK ⊢
      subst e6
      generalize V 8 = v8 at e8 hK ⊢
      subst e8
      have hno1 : ¬ 9223372036854775807 < min (32 * m) 128 + 32 := by omega
      go_simp
      exact hK _ _ ⟨⟨fun _ => Below.refl _ _, fun h => absurd h (by decide)⟩, rfl⟩
    · intro V L W hL hC hd K hK
      clear hd
      simp only [laidL, Act.put, List.setIfInBounds_toArray, List.set_cons_zero, List.set_cons_succ] at hK ⊢
      go_simp
      exact hK _ _ ⟨⟨fun _ => Below.refl _ _, fun h => absurd h (by decide)⟩, rfl⟩
    · intro V L W hL hC hd K hK
      clear hd
      simp only [laidL, Act.put, List.setIfInBounds_toArray, List.set_cons_zero, List.set_cons_succ] at hK ⊢
      go_simp
      exact hK _ _ ⟨⟨fun _ => Below.refl _ _, fun h => absurd h (by decide)⟩, rfl⟩
    · intro V L W hL hC hd K hK
      have q11 : putV g n c i j m r s t 11 (V 11) W := hd.1
      have e11 : V 11 = .int .i64 (32 * (m : Int)) := q11
      clear q11
      clear hd
      simp only [laidL, Act.put, List.setIfInBounds_toArray, List.set_cons_zero, List.set_cons_succ] at hK ⊢
      generalize V 11 = v11 at e11 hK ⊢
      subst e11
      go_simp
      exact hK _ _ ⟨⟨fun _ => Below.refl _ _, fun h => absurd h (by decide)⟩, rfl⟩
    · intro V L W hL hC hd K hK
      have q10 : putV g n c i j m r s t 10 (V 10) W := hd.1
      have e10 : V 10 = .string s := q10
      clear q10
      have q12 : putV g n c i j m r s t 12 (V 12) W := hd.2.1
      have e12 : V 12 = .int .i64 (32 * (m : Int) + 32) := q12
      clear q12
      clear hd
      simp only [laidL, Act.put, List.setIfInBounds_toArray, List.set_cons_zero, List.set_cons_succ] at hK ⊢
      generalize V 10 = v10 at e10 hK ⊢
      subst e10
      generalize V 12 = v12 at e12 hK ⊢
      subst e12
      go_simp
      exact hK _ _ ⟨⟨fun _ => Below.refl _ _, fun h => absurd h (by decide)⟩, rfl⟩
    · intro V L W hL hC hd K hK
      have q9 : putV g n c i j m r s t 9 (V 9) W := hd.1
      have e9 : V 9 = .string (s.extract 0 (32 * m) ++ t) := q9
      clear q9
      have q13 : putV g n c i j m r s t 13 (V 13) W := hd.2.1
      have e13 : V 13 = .string (s.extract (32 * m + 32) 128) := q13
      clear q13
      clear hd
      simp only [laidL, Act.put, List.setIfInBounds_toArray, List.set_cons_zero, List.set_cons_succ] at hK ⊢
      generalize V 9 = v9 at e9 hK ⊢
      subst e9
      generalize V 13 = v13 at e13 hK ⊢
      subst e13
      have hno2 : ¬ 9223372036854775807 < min (32 * m) 128 + 32 + (96 - 32 * m) := by omega
      go_simp
      exact hK _ _ ⟨⟨fun _ => Below.refl _ _, fun h => absurd h (by decide)⟩, rfl⟩
    · intro V L W hL hC hd K hK
      have q0 : putV g n c i j m r s t 0 (V 0) W := hd.1
      have e0 : V 0 = .slice (some ⟨g, 0, none⟩) n c := q0
      clear q0
      have q3 : putV g n c i j m r s t 3 (V 3) W := hd.2.1
      have e3 : V 3 = .int .i64 (2 + (j : Int)) := q3
      clear q3
      clear hd
      simp only [laidL, Act.put, List.setIfInBounds_toArray, List.set_cons_zero, List.set_cons_succ] at hK ⊢
      generalize V 0 = v0 at e0 hK ⊢
      subst e0
      generalize V 3 = v3 at e3 hK ⊢
      subst e3
      have hw3b : (2 + (j : Int)) < (n : Int) := hw3
      go_simp
      exact hK _ _ ⟨⟨fun _ => Below.refl _ _, fun h => absurd h (by decide)⟩, rfl⟩
    · intro V L W hL hC hd K hK
      have q15 : putV g n c i j m r s t 15 (V 15) W := hd.1
      have e15 : V 15 = .pointer (some ⟨g, 2 + j, none⟩) := q15
      clear q15
      have q14 : putV g n c i j m r s t 14 (V 14) W := hd.2.1
      have e14 : V 14 = .string (s.extract 0 (32 * m) ++ t ++ s.extract (32 * m + 32) 128) := q14
      clear q14
      clear hd
      simp only [laidL, Act.put, List.setIfInBounds_toArray, List.set_cons_zero, List.set_cons_succ] at hK ⊢
      generalize V 15 = v15 at e15 hK ⊢
      subst e15
      generalize V 14 = v14 at e14 hK ⊢
      subst e14
      have hs := HS.out
      have hO : OwI W w.heap.size g n c img := by
        rcases hC.1 with ⟨_, h⟩ | ⟨h, _⟩
        · exact h
        · rw [h] at hL; cases hL
      have hc1 := hO.cell (2 + j) (by omega)
      rw [← hs] at hc1
      clear hs
      have hc2 := hO.free (2 + j)
      have hs := HS.out
      have hO : OwI W w.heap.size g n c img := by
        rcases hC.1 with ⟨_, h⟩ | ⟨h, _⟩
        · exact h
        · rw [h] at hL; cases hL
      have hc1 := hO.cell (2 + j) (by omega)
      rw [← hs] at hc1
      have hc2 := hO.free (2 + j)
      clear hs hC hO
      generalize s.extract 0 (32 * m) ++ t ++ s.extract (32 * m + 32) 128 = u at hK ⊢
      go_simp
      exact hK undef _ ⟨⟨fun h => absurd rfl h, fun _ => rfl⟩, trivial⟩
  · intro V L W hL hC hV
    have hE : OwI W w.heap.size g n c (img.set (2 + j) (s.extract 0 (32 * m) ++ t ++ s.extract (32 * m + 32) 128)) ∧ Below w.heap.size w W := by
      refine ⟨?_, hC.2.2⟩
      rcases hC.1 with ⟨h, _⟩ | ⟨_, h⟩
      · rw [hL 16 (by decide)] at h; cases h
      · exact h
    have HE := Lib.hid hE
    clear hV hL hC hE hcell HY hO
    simp only [laidL, Act.put, List.setIfInBounds_toArray, List.set_cons_zero, List.set_cons_succ]
    go_wp2
    go_ret
    exact ⟨g, c, rfl, HE.out.1, HE.out.2⟩

end Go.Proofs.YtpdfkakhahfcjaaGreat
