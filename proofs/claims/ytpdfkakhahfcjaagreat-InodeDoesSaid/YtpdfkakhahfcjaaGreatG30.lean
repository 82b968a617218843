/-
  Images of inodes stay sound: one made, one taken away, one made longer.
-/
import Derived.Test.YtpdfkakhahfcjaaGreatG29
namespace Go.Proofs.YtpdfkakhahfcjaaGreat
open Go.RowKit

/-- What taking does to the blocks. -/
theorem took_blk : ∀ (L : List Nat) (img : List ByteArray), (∀ k ∈ L, 2 ≤ k ∧ k < img.length) → ∀ b, b ≠ 1 → blkI (tookA img L) b = if b ∈ L then zeroB else blkI img b
  | [], img, _, b, _ => by simp [tookA]
  | i :: L, img, hL, b, hb => by
    have hi := hL i List.mem_cons_self
    have e : tookA img (i :: L) = tookA (take1A img i) L := rfl
    rw [e, took_blk L (take1A img i) (fun k hk => by rw [take1_length]; exact hL k (List.mem_cons_of_mem _ hk)) b hb]
    have h1 : blkI (take1A img i) b = if b = i then zeroB else blkI img b := by
      unfold take1A
      rw [blkI_set (by rw [turn1_length]; exact hi.2) zeroB_size]
      by_cases h : b = i
      · rw [if_pos h, if_pos h]
      · rw [if_neg h, if_neg h]
        unfold blkI turn1A
        rw [List.length_set, blk_set_ne (Ne.symm hb)]
    rw [h1]
    by_cases h : b ∈ L
    · rw [if_pos h, if_pos (List.mem_cons_of_mem _ h)]
    · rw [if_neg h]
      by_cases h2 : b = i
      · subst h2; simp
      · rw [if_neg h2, if_neg (by simp [h, h2])]
/-- What giving back does, where all that is given back is taken. -/
theorem gave_all {img : List ByteArray} (hf : FitA img) {L : List Nat} (hn : L.Nodup) (hL : ∀ b ∈ L, firstA img.length ≤ b ∧ takenA img (b : Int) = true) :
    ∃ c, giveA img (castN L) = (c, 0) ∧ c.length = img.length ∧ FitA c ∧ (∀ b, b ≠ 1 → blkI c b = blkI img b) ∧ ∀ b : Nat, firstA img.length ≤ b → b < img.length → (takenA c b = true ↔ takenA img b = true ∧ b ∉ L) := by
  have hm := hf.map
  have hF := first_le hf.1.1 hf.1.2
  have hb : ∀ b ∈ L, b < img.length ∧ bitA (blk img 1) b = true := fun b hb => takenA_nat.1 (hL b hb).2
  obtain ⟨c, h1, h2⟩ := gave_took hm L hn (fun k hk => ⟨by have := hb k hk; have := hf.1; omega, (hb k hk).2⟩)
  have hin : ∀ x ∈ castN L, ¬ outA img x := fun x hx => by
    obtain ⟨k, hk, rfl⟩ := List.mem_map.1 hx
    unfold outA
    have := hL k hk
    have := hb k hk
    omega
  have hbit := fold_bit L (blk img 1) hn (fun i hi => by rw [hm.2]; have := hb i hi; have := hf.1; omega)
  have hlen : c.length = img.length := by rw [h2, List.length_set]
  have hmap : blk c 1 = L.foldl flipA (blk img 1) := by rw [h2]; exact blk_set_self (by have := hf.1; omega)
  refine ⟨c, ?_, hlen, ⟨by rw [hlen]; exact hf.1, fun s hs => ?_, ?_, fun b hb1 => ?_⟩, fun b hb1 => ?_, fun b h3 h4 => ?_⟩
  · rw [giveA_in hin]
    show (match gaveA img (L.map fun k : Nat => (k : Int)) with | none => (img, (20 : Int)) | some c => (c, 0)) = _
    rw [h1]
  · rw [h2] at hs
    rcases List.mem_or_eq_of_mem_set hs with hs | rfl
    · exact hf.2.1 s hs
    · rw [fold_size]; exact hm.2
  · rw [hlen, h2, blk_set_ne (by omega)]; exact hf.2.2.1
  · rw [hlen, hmap, hbit]
    have := hf.2.2.2 b hb1
    by_cases hbL : b ∈ L
    · have h5 := hL b hbL
      have h6 := hb b hbL
      rw [if_pos hbL]
      exact ⟨fun h => by omega, fun h => by omega⟩
    · rw [if_neg hbL]; exact this
  · unfold blkI
    rw [hlen, h2, blk_set_ne (Ne.symm hb1)]
  · rw [takenA_nat, takenA_nat, hlen, hmap, hbit]
    by_cases hbL : b ∈ L
    · rw [if_pos hbL]
      have := (hb b hbL).2
      simp [this, hbL]
    · rw [if_neg hbL]; simp [hbL]
theorem zero_rec {img : List ByteArray} {i : Nat} (h : rawI img i = zeroN 32) : recI img i = zeroR i := by
  have hb : ∀ k, byA (rawI img i) k = 0 := fun k => by
    rw [h]
    unfold byA
    rw [zeroN_toList, List.getD_eq_getElem?_getD, List.getElem?_replicate]
    split <;> rfl
  have hw : ∀ k, w2 (rawI img i) k = 0 := fun k => by unfold w2; rw [hb, hb]
  unfold recI zeroR
  rw [hb, hw, hw, hw, hw, hw, hw, hw]
  rfl
theorem name_zero (i q : Nat) : ({ zeroR i with kind := q } : RecI) = nameR { zeroR i with kind := q } 0 [] 0 := rfl
theorem freeI_some {img : List ByteArray} {C i : Nat} (h : freeI img C = some i) : i < C ∧ (recI img i).kind = 0 := by
  unfold freeI at h
  have h1 := List.find?_some h
  have h2 := List.mem_of_find?_eq_some h
  exact ⟨List.mem_range.1 h2, by simpa using h1⟩
/-- ONE MADE. -/
theorem new_sound {img : List ByteArray} (hs : SoundQ img) {q i : Nat} (hq : q = 1 ∨ q = 2) (hi : i < cntA img.length) (h0 : (recI img i).kind = 0) :
    SoundQ (saveR img { recI img i with kind := q }) ∧ recI (saveR img { recI img i with kind := q }) i = { zeroR i with kind := q } ∧ (∀ b, firstA img.length ≤ b → blkI (saveR img { recI img i with kind := q }) b = blkI img b) := by
  have hsp := (soundQ_iff img).2 hs
  have hz := zero_rec (sound_free hsp hi h0)
  have hC := (first_le hs.fit.1.1 hs.fit.1.2).2.2.2.1
  have hF := (first_le hs.fit.1.1 hs.fit.1.2).1
  rw [hz]
  have hok : OkR { zeroR i with kind := q } := ⟨rfl, by simp [zeroR], (by show i ≤ 1024; omega), by show q ≤ 255; omega, by simp [zeroR], by simp [zeroR]⟩
  have hnm : namedR (recI img i) = [] := zero_named (sound_free hsp hi h0)
  have h := sound_save (img := img) (m := img) hs (r0 := { zeroR i with kind := q }) hok hi hq (size := 0) (ind := 0) (data := []) (by omega) rfl (by simp [needN]) hs.fit rfl (fun i _ _ => ⟨rfl, fun _ _ => rfl⟩) (by simp) (fun b hb => by simp at hb) (fun b h1 h2 => by
    show takenA img b = true ↔ (takenA img b = true ∧ b ∉ namedR (recI img i)) ∨ _
    rw [hnm]; simp) (fun h => by simp [needN] at h)
  rw [← name_zero] at h
  exact ⟨h.1, h.2.1, fun b hb => h.2.2 b hb (by omega)⟩

/-- ONE TAKEN AWAY. -/
theorem drop_sound {img : List ByteArray} (hs : SoundQ img) {i : Nat} (hi : i < cntA img.length) :
    ∃ c, giveA img (castN (namedR (recI img i))) = (c, 0) ∧ SoundQ (saveR c (zeroR i)) ∧ c.length = img.length ∧ recI (saveR c (zeroR i)) i = zeroR i ∧ (∀ b, b ≠ 1 → blkI c b = blkI img b) := by
  have hC := (first_le hs.fit.1.1 hs.fit.1.2).2.2.2.1
  obtain ⟨c, h1, h2, h3, h4, h5⟩ := gave_all hs.fit (hs.once i hi) (hs.named i hi)
  have hv : SvP c (zeroR i) := ⟨zeroR_ok (by omega), fun k hk => by simp [zeroR] at hk; omega, fun k hk => by simp [zeroR] at hk; omega, by show i < _; rw [h2]; exact hi, .inl rfl, fun _ => rfl⟩
  have h8 : 8 ≤ c.length := h3.1.1
  have h5' : c.length ≤ 512 := h3.1.2
  have hrec : recI (saveR c (zeroR i)) i = zeroR i := save_rec h8 h5' hv
  have hraw := fun {j : Nat} (hj : j < cntA c.length) => save_raw h8 h5' hv hj
  have hnz : namedR (zeroR i) = [] := by simp [namedR, dataR, zeroR, needN]
  have htz : textR (zeroR i) = zeroN 32 := by
    have e : textR (zeroR i) = textR (zeroR 0) := rfl
    rw [e]
    decide +kernel
  refine ⟨c, h1, sound_one hs hi (fit_save h3 hv) (by rw [saveR_length, h2]) (fun j hj hne => ⟨?_, fun b hb => ?_⟩) ?_ ?_ ?_ ?_, h2, hrec, h4⟩
  · rw [hraw (by rw [h2]; exact hj), if_neg (show ¬ j = (zeroR i).num from hne)]
    exact rawI_far (h4 _ (by omega))
  · have hF := (hs.named j hj b hb).1
    have hlt := inode_lt hi
    have hF3 := (first_le hs.fit.1.1 hs.fit.1.2).1
    rw [save_blk h8 h5' hv, if_neg (fun h => h.1 rfl), if_neg (show ¬ b = 2 + (zeroR i).num / 4 by show ¬ b = 2 + i / 4; omega), h4 b (by omega)]
  · rw [hrec]
    have : rawI (saveR c (zeroR i)) (zeroR i).num = zeroN 32 := by rw [hraw hv.num, if_pos rfl, htz]
    unfold isFormI
    rw [if_pos (show (zeroR i).kind = 0 from rfl)]
    exact decide_eq_true this
  · rw [hrec, hnz]; exact List.nodup_nil
  · rw [hrec, hnz]; intro b hb; simp at hb
  · intro b hb1 hb2
    rw [hrec, hnz, taken_map (saveR_length c _) (map_save h3 hv), h5 b hb1 hb2]
    simp

/-- The tail of an inode's last block, and a longer one's. -/
theorem tail_zero {img : List ByteArray} (_hf : FitA img) {r : RecI} (hr : OkR r) (hk : r.kind = 1 ∨ r.kind = 2) (h : isFormI img r = true) (hn : 0 < needN r.size) :
    (blkI img ((dataR r).getD (needN r.size - 1) 0)).data.toList.drop (r.size - (needN r.size - 1) * 128) = List.replicate (128 - (r.size - (needN r.size - 1) * 128)) 0 := by
  unfold isFormI at h
  rw [if_neg (by omega), if_pos hk] at h
  split at h
  · cases h
  · next hsz =>
    split at h
    · cases h
    · split at h
      · cases h
      · split at h
        · cases h
        · have h := of_decide_eq_true h
          rw [zeroN_mkB, mkB_inj] at h
          have hft := flat_tail (img := img) hr hn (by omega)
          have hlen : ((flatR img r).drop r.size).length = (flatR img r).length - r.size := List.length_drop
          have e128 : (blkI img ((dataR r).getD (needN r.size - 1) 0)).data.toList.length = 128 := by simpa using blkI_size img ((dataR r).getD (needN r.size - 1) 0)
          have e2 : (flatR img r).length - r.size = 128 - (r.size - (needN r.size - 1) * 128) := by rw [← hlen, hft, List.length_drop, e128]
          rw [← hft, h, e2]
theorem form_kind {img : List ByteArray} {r : RecI} (h : isFormI img r = true) : r.kind = 0 ∨ r.kind = 1 ∨ r.kind = 2 := by
  unfold isFormI at h
  split at h
  · exact .inl (by assumption)
  · split at h
    · exact .inr (by assumption)
    · cases h
theorem form_size {img : List ByteArray} {r : RecI} (hk : r.kind = 1 ∨ r.kind = 2) (h : isFormI img r = true) : r.size ≤ 8704 ∧ (4 < needN r.size ↔ 0 < r.ind) := by
  unfold isFormI at h
  rw [if_neg (by omega), if_pos hk] at h
  split at h
  · cases h
  · next hsz =>
    split at h
    · cases h
    · next hx =>
      refine ⟨by omega, ?_⟩
      by_cases h4 : 4 < needN r.size
      · rw [decide_eq_true h4] at hx
        by_cases h0 : r.ind = 0
        · rw [h0] at hx; exact absurd rfl hx
        · exact ⟨fun _ => by omega, fun _ => h4⟩
      · rw [decide_eq_false h4] at hx
        by_cases h0 : r.ind = 0
        · rw [h0]; exact ⟨fun h => absurd h h4, fun h => by omega⟩
        · have : ((r.ind : Int) != 0) = true := by rw [bne_iff_ne]; omega
          rw [this] at hx; exact absurd rfl hx
end Go.Proofs.YtpdfkakhahfcjaaGreat

/-
  Images of inodes stay sound: one made longer, one made shorter.
-/
namespace Go.Proofs.YtpdfkakhahfcjaaGreat
open Go.RowKit

/-- One inode changed, all else as it was. -/
structure Chg (img c : List ByteArray) (i : Nat) (r : RecI) : Prop where
  sound : SoundQ c
  len : c.length = img.length
  rec1 : recI c i = r
  oth : ∀ j, j < cntA img.length → j ≠ i → rawI c j = rawI img j ∧ ∀ b ∈ namedR (recI img j), blkI c b = blkI img b
theorem chg_save {img m : List ByteArray} (hs : SoundQ img) {r0 : RecI} (hr0 : OkR r0) (hnum : r0.num < cntA img.length) (hk : r0.kind = 1 ∨ r0.kind = 2) {size ind : Nat} {data : List Nat}
    (hsz : size ≤ 8704) (hd : data.length = needN size) (hin : 4 < needN size ↔ 0 < ind) (hm : FitA m) (hl : m.length = img.length)
    (hoth : ∀ i, i < cntA img.length → i ≠ r0.num → rawI m i = rawI img i ∧ ∀ b ∈ namedR (recI img i), blkI m b = blkI img b)
    (hone : (data ++ if ind = 0 then [] else [ind]).Nodup)
    (hnew : ∀ b ∈ data ++ (if ind = 0 then [] else [ind]), firstA img.length ≤ b ∧ b < img.length ∧ (b ∈ namedR (recI img r0.num) ∨ takenA img b = false))
    (htak : ∀ b : Nat, firstA img.length ≤ b → b < img.length → (takenA m b = true ↔ (takenA img b = true ∧ b ∉ namedR (recI img r0.num)) ∨ b ∈ data ++ (if ind = 0 then [] else [ind])))
    (htail : 0 < needN size → (blkI m (data.getD (needN size - 1) 0)).data.toList.drop (size - (needN size - 1) * 128) = List.replicate (128 - (size - (needN size - 1) * 128)) 0) :
    Chg img (saveR m (nameR r0 size data ind)) r0.num (nameR r0 size data ind) ∧ (∀ b, firstA img.length ≤ b → b ≠ ind → blkI (saveR m (nameR r0 size data ind)) b = blkI m b) ∧ blk (saveR m (nameR r0 size data ind)) 1 = blk m 1 := by
  have h := sound_save hs hr0 hnum hk hsz hd hin hm hl hoth hone hnew htak htail
  have hv : SvP m (nameR r0 size data ind) := name_sv hm.1.2 hr0 (by rw [hl]; exact hnum) hsz hd hin fun b hb => by have := hnew b hb; rw [hl]; exact ⟨this.1, this.2.1⟩
  refine ⟨⟨h.1, by rw [saveR_length, hl], h.2.1, fun j hj hne => ?_⟩, h.2.2, map_save hm hv⟩
  have ho := hoth j hj hne
  refine ⟨?_, fun b hb => ?_⟩
  · rw [save_raw hm.1.1 hm.1.2 hv (by rw [hl]; exact hj), if_neg (show ¬ j = (nameR r0 size data ind).num from hne)]; exact ho.1
  · have hF := (hs.named j hj b hb).1
    rw [h.2.2 b hF (fun e => ?_), ho.2 b hb]
    by_cases h0 : ind = 0
    · have := (first_le hs.fit.1.1 hs.fit.1.2).1; omega
    · have hin2 := hnew ind (List.mem_append_right _ (by rw [if_neg h0]; simp))
      subst e
      rcases hin2.2.2 with h | h
      · exact hs.apart j r0.num hj hnum hne b hb h
      · rw [(hs.named j hj b hb).2] at h; cases h
theorem free_map {img c : List ByteArray} (hl : c.length = img.length) (h : blk c 1 = blk img 1) : freeA c = freeA img := by
  unfold freeA freeTo
  rw [hl, h]
theorem need_mono {a b : Nat} (h : a ≤ b) : needN a ≤ needN b := by unfold needN; omega

/-- How many more blocks it takes. -/
def moreN (a b : Nat) : Nat := needAllN b - needAllN a
theorem more_cast {a b : Nat} (h : a ≤ b) : (needAllN b : Int) - (needAllN a : Int) = (moreN a b : Int) := by
  have h1 := need_mono h
  have : needAllN a ≤ needAllN b := by
    unfold needAllN
    split <;> split <;> omega
  unfold moreN
  omega
/-- MADE LONGER. -/
theorem grow_sound {img : List ByteArray} (hs : SoundQ img) {i : Nat} (hi : i < cntA img.length) (hk : (recI img i).kind = 1 ∨ (recI img i).kind = 2) {size : Nat} (h1 : (recI img i).size < size) (h2 : size ≤ 8704) :
    ((freeA img).length < moreN (recI img i).size size ∧ growI img (recI img i) size = (img, 18)) ∨
    ∃ c X ind, growI img (recI img i) size = (c, 0) ∧ Chg img c i (nameR (recI img i) size (dataR (recI img i) ++ X) ind) ∧ (dataR (recI img i) ++ X).length = needN size ∧ (∀ b ∈ dataR (recI img i), blkI c b = blkI img b) ∧ (∀ b ∈ X, blkI c b = zeroB) ∧
      (freeA c).length + moreN (recI img i).size size = (freeA img).length := by
  have hC := (first_le hs.fit.1.1 hs.fit.1.2).2.2.2.1
  have hF3 := (first_le hs.fit.1.1 hs.fit.1.2).1
  have hr := recI_ok img i (by omega)
  have hnum : (recI img i).num = i := rfl
  have hfm := hs.form i hi
  have hfs := form_size hk hfm
  have hnmd := hs.named i hi
  have hone := hs.once i hi
  have htz := fun h => tail_zero hs.fit hr hk hfm h
  have hdl := dataR_length hr
  have hcast := more_cast (Nat.le_of_lt h1)
  by_cases hfree : (freeA img).length < moreN (recI img i).size size
  · left
    refine ⟨hfree, ?_⟩
    have e : takeA img (moreN (recI img i).size size : Int) = (img, [], 18) := by unfold takeA; rw [if_neg (by omega), if_pos (by omega)]
    unfold growI
    rw [hcast, e, if_pos (by simp)]
  right
  have e : takeA img (moreN (recI img i).size size : Int) = (tookA img ((freeA img).take (moreN (recI img i).size size)), (freeA img).take (moreN (recI img i).size size), 0) := by
    unfold takeA
    rw [if_neg (by omega), if_neg (by omega), Int.toNat_natCast]
  have hlen : ((freeA img).take (moreN (recI img i).size size)).length = moreN (recI img i).size size := by rw [List.length_take]; omega
  have hmem : ∀ k ∈ (freeA img).take (moreN (recI img i).size size), firstA img.length ≤ k ∧ k < img.length ∧ bitA (blk img 1) k = false := fun k hk => by
    have := freeTo_mem.1 (List.mem_of_mem_take hk)
    exact ⟨this.2.1, this.1, this.2.2⟩
  have hnd : ((freeA img).take (moreN (recI img i).size size)).Nodup := (freeTo_nodup img img.length).sublist (List.take_sublist _ _)
  have hfit := took_fit hs.fit (n := moreN (recI img i).size size)
  have hfr := took_free hs.fit (n := moreN (recI img i).size size) (by omega)
  have hmp := took_MapP hs.fit.map ((freeA img).take (moreN (recI img i).size size)) (fun k hk => by have := hmem k hk; omega)
  have hbit := took_bit hs.fit.map (fun k hk => by have := hmem k hk; have := hs.fit.1; omega) hnd
  have hgrow : growI img (recI img i) size = (saveR (tookA img ((freeA img).take (moreN (recI img i).size size))) (nameR (recI img i) size (dataR (recI img i) ++ ((freeA img).take (moreN (recI img i).size size)).take (needN size - needN (recI img i).size))
      (if needN size - needN (recI img i).size < ((freeA img).take (moreN (recI img i).size size)).length then ((freeA img).take (moreN (recI img i).size size)).getD (needN size - needN (recI img i).size) 0 else (recI img i).ind)), 0) := by
    unfold growI
    rw [hcast, e, if_neg (by simp)]
  rw [hgrow]
  have hnn := need_mono (Nat.le_of_lt h1)
  have hn68 := need_le h2
  have hmore : moreN (recI img i).size size = needAllN size - needAllN (recI img i).size := rfl
  have hblk := took_blk ((freeA img).take (moreN (recI img i).size size)) img (fun k hk => by have := hmem k hk; omega)
  have hND : namedR (recI img i) = dataR (recI img i) ++ if (recI img i).ind = 0 then [] else [(recI img i).ind] := rfl
  generalize hLL : (freeA img).take (moreN (recI img i).size size) = L at *
  clear hLL e hgrow
  have hd0 : (dataR (recI img i)).length = needN (recI img i).size := by rw [hdl]; omega
  obtain ⟨ind, hind⟩ : ∃ ind, ind = (if needN size - needN (recI img i).size < L.length then L.getD (needN size - needN (recI img i).size) 0 else (recI img i).ind) := ⟨_, rfl⟩
  rw [← hind]
  have hLge : needN size - needN (recI img i).size ≤ L.length := by
    rw [hlen, hmore]; unfold needAllN; split <;> split <;> omega
  have hdat : (dataR (recI img i) ++ L.take (needN size - needN (recI img i).size)).length = needN size := by rw [List.length_append, List.length_take, hd0]; omega
  -- the new blocks, as a list
  have hperm : ((dataR (recI img i) ++ L.take (needN size - needN (recI img i).size)) ++ if ind = 0 then [] else [ind]).Perm (namedR (recI img i) ++ L) ∧ (4 < needN size ↔ 0 < ind) := by
    rw [hND]
    by_cases h4 : 4 < needN (recI img i).size
    · have hl : L.length = needN size - needN (recI img i).size := by rw [hlen, hmore]; unfold needAllN; rw [if_pos h4, if_pos (by omega)]; omega
      have hi0 := hfs.2.1 h4
      have hie : ind = (recI img i).ind := by rw [hind, if_neg (by omega)]
      rw [hie, if_neg (by omega), List.take_of_length_le (by omega)]
      refine ⟨?_, fun _ => hi0, fun _ => by omega⟩
      rw [List.append_assoc, List.append_assoc]
      exact List.perm_append_comm.append_left _
    · have hi0 : (recI img i).ind = 0 := by have := mt hfs.2.2 h4; omega
      rw [if_pos hi0, List.append_nil]
      by_cases h4n : 4 < needN size
      · have hl : L.length = needN size - needN (recI img i).size + 1 := by rw [hlen, hmore]; unfold needAllN; rw [if_neg h4, if_pos h4n]; omega
        have hie : ind = L.getD (needN size - needN (recI img i).size) 0 := by rw [hind, if_pos (by omega)]
        have hm : ind ∈ L := by rw [hie, List.getD_eq_getElem?_getD, List.getElem?_eq_getElem (by omega)]; exact List.getElem_mem _
        have hp : 0 < ind := by have := hmem ind hm; omega
        refine ⟨?_, fun _ => hp, fun _ => h4n⟩
        rw [if_neg (by omega), List.append_assoc]
        have : L.take (needN size - needN (recI img i).size) ++ [ind] = L := by
          have e2 := List.take_append_drop (needN size - needN (recI img i).size) L
          rw [List.drop_eq_getElem_cons (by omega), List.drop_of_length_le (by omega)] at e2
          rw [hie, List.getD_eq_getElem?_getD, List.getElem?_eq_getElem (by omega)]
          exact e2
        rw [this]
      · have hl : L.length = needN size - needN (recI img i).size := by rw [hlen, hmore]; unfold needAllN; rw [if_neg h4, if_neg h4n]
        have hie : ind = 0 := by rw [hind, if_neg (by omega), hi0]
        rw [hie, if_pos rfl, List.append_nil, List.take_of_length_le (by omega)]
        exact ⟨List.Perm.refl _, fun h => absurd h h4n, fun h => by omega⟩
  obtain ⟨hperm, hin⟩ := hperm
  have hdisj : ∀ a ∈ namedR (recI img i), a ∉ L := fun a ha hb => by
    have h3 := (takenA_nat.1 (hnmd a ha).2).2
    rw [(hmem a hb).2.2] at h3; cases h3
  have hcs := chg_save (m := tookA img L) hs hr hi hk h2 hdat hin hfit hmp.2.1 (fun j hj hne => ⟨rawI_far (by rw [hblk _ (by omega), if_neg (fun hm => by have := (hmem _ hm).1; have := inode_lt hj; omega)]), fun b hb => by
      have hF := (hs.named j hj b hb)
      rw [hblk b (by omega), if_neg (fun hm => by
        have h3 := (takenA_nat.1 hF.2).2
        rw [(hmem b hm).2.2] at h3; cases h3)]⟩)
    (hperm.nodup_iff.2 (List.nodup_append.2 ⟨hone, hnd, fun a ha b hb e => hdisj a ha (e ▸ hb)⟩))
    (fun b hb => by
      rcases List.mem_append.1 (hperm.mem_iff.1 hb) with h | h
      · exact ⟨(hnmd b h).1, taken_lt (hnmd b h).2, .inl h⟩
      · refine ⟨(hmem b h).1, (hmem b h).2.1, .inr ?_⟩
        unfold takenA
        rw [Int.toNat_natCast, (hmem b h).2.2, Bool.and_false])
    (fun b hb1 hb2 => by
      rw [hperm.mem_iff, List.mem_append, takenA_nat, hmp.2.1, hbit]
      show _ ↔ (takenA img b = true ∧ b ∉ namedR (recI img i)) ∨ _
      by_cases hbL : b ∈ L
      · rw [if_pos hbL, (hmem b hbL).2.2]
        simp [hbL, hb2]
      · rw [if_neg hbL]
        have := takenA_nat (img := img) (k := b)
        constructor
        · intro h
          by_cases hn : b ∈ namedR (recI img i)
          · exact .inr (.inl hn)
          · exact .inl ⟨this.2 h, hn⟩
        · rintro (h | h | h)
          · exact this.1 h.1
          · exact this.1 (hnmd b h).2
          · exact absurd h hbL)
    (fun hpos => by
      by_cases hlast : needN (recI img i).size < needN size
      · have hm : (dataR (recI img i) ++ L.take (needN size - needN (recI img i).size)).getD (needN size - 1) 0 ∈ L := by
          rw [List.getD_eq_getElem?_getD, List.getElem?_append_right (by omega), List.getElem?_eq_getElem (by rw [List.length_take]; omega)]
          exact List.mem_of_mem_take (List.getElem_mem _)
        have hmm := hmem _ hm
        rw [hblk _ (by omega), if_pos hm]
        have : zeroB.data.toList = List.replicate 128 0 := by rw [← zeroN_eq, zeroN_toList]
        rw [this, List.drop_replicate]
      · have hne : needN size = needN (recI img i).size := by omega
        have hg : (dataR (recI img i) ++ L.take (needN size - needN (recI img i).size)).getD (needN size - 1) 0 = (dataR (recI img i)).getD (needN (recI img i).size - 1) 0 := by
          rw [List.getD_eq_getElem?_getD, List.getElem?_append_left (by omega), hne, List.getD_eq_getElem?_getD]
        have hlm : (dataR (recI img i)).getD (needN (recI img i).size - 1) 0 ∈ dataR (recI img i) := by rw [List.getD_eq_getElem?_getD, List.getElem?_eq_getElem (by omega)]; exact List.getElem_mem _
        have hnl := hdisj _ (List.mem_append_left _ hlm)
        have hlF := hnmd _ (List.mem_append_left _ hlm)
        rw [hg, hblk _ (by omega), if_neg hnl, hne]
        have h3 := htz (by omega)
        have hle : (recI img i).size - (needN (recI img i).size - 1) * 128 ≤ size - (needN (recI img i).size - 1) * 128 := by omega
        obtain ⟨d, hd⟩ : ∃ d, size - (needN (recI img i).size - 1) * 128 = (recI img i).size - (needN (recI img i).size - 1) * 128 + d := ⟨_, (Nat.add_sub_of_le hle).symm⟩
        rw [hd, ← List.drop_drop, h3, List.drop_replicate]
        congr 1
        omega)
  refine ⟨_, L.take (needN size - needN (recI img i).size), ind, rfl, hcs.1, hdat, fun b hb => ?_, fun b hb => ?_, ?_⟩
  · have hF := hnmd b (List.mem_append_left _ hb)
    have hni : b ≠ ind := fun he => by
      by_cases h0 : ind = 0
      · omega
      · have hnp := hperm.nodup_iff.2 (List.nodup_append.2 ⟨hone, hnd, fun a ha b hb e => hdisj a ha (e ▸ hb)⟩)
        rw [if_neg h0, List.nodup_append] at hnp
        exact hnp.2.2 b (List.mem_append_left _ hb) ind (by simp) he
    rw [hcs.2.1 b hF.1 hni, hblk b (by omega), if_neg (hdisj b (List.mem_append_left _ hb))]
  · have hbL := List.mem_of_mem_take hb
    have hmm := hmem b hbL
    have hni : b ≠ ind := fun he => by
      by_cases h0 : ind = 0
      · omega
      · have hnp := hperm.nodup_iff.2 (List.nodup_append.2 ⟨hone, hnd, fun a ha b hb e => hdisj a ha (e ▸ hb)⟩)
        rw [if_neg h0, List.nodup_append] at hnp
        exact hnp.2.2 b (List.mem_append_right _ hb) ind (by simp) he
    rw [hcs.2.1 b hmm.1 hni, hblk b (by omega), if_pos hbL]
  · rw [free_map (img := tookA img L) (saveR_length _ _) hcs.2.2, hfr]
    omega

end Go.Proofs.YtpdfkakhahfcjaaGreat

/-
  Images of inodes stay sound: one made, one taken away, one made shorter; all of Truncate.
-/
namespace Go.Proofs.YtpdfkakhahfcjaaGreat
open Go.RowKit

theorem new_chg {img : List ByteArray} (hs : SoundQ img) {q i : Nat} (hq : q = 1 ∨ q = 2) (hi : i < cntA img.length) (h0 : (recI img i).kind = 0) :
    Chg img (saveR img { recI img i with kind := q }) i { zeroR i with kind := q } := by
  have hsp := (soundQ_iff img).2 hs
  have hz := zero_rec (sound_free hsp hi h0)
  have hC := (first_le hs.fit.1.1 hs.fit.1.2).2.2.2.1
  rw [hz]
  have hok : OkR { zeroR i with kind := q } := ⟨rfl, by simp [zeroR], (by show i ≤ 1024; omega), by show q ≤ 255; omega, by simp [zeroR], by simp [zeroR]⟩
  have hnm : namedR (recI img i) = [] := zero_named (sound_free hsp hi h0)
  have h := (chg_save (img := img) (m := img) hs (r0 := { zeroR i with kind := q }) hok hi hq (size := 0) (ind := 0) (data := []) (by omega) rfl (by simp [needN]) hs.fit rfl (fun i _ _ => ⟨rfl, fun _ _ => rfl⟩) (by simp) (fun b hb => by simp at hb) (fun b h1 h2 => by
    show takenA img b = true ↔ (takenA img b = true ∧ b ∉ namedR (recI img i)) ∨ _
    rw [hnm]; simp) (fun h => by simp [needN] at h)).1
  rw [← name_zero] at h
  exact h
theorem drop_chg {img : List ByteArray} (hs : SoundQ img) {i : Nat} (hi : i < cntA img.length) :
    ∃ c, giveA img (castN (namedR (recI img i))) = (c, 0) ∧ Chg img (saveR c (zeroR i)) i (zeroR i) := by
  obtain ⟨c, h1, h2, h3, h4, h5⟩ := drop_sound hs hi
  have hC := (first_le hs.fit.1.1 hs.fit.1.2).2.2.2.1
  have hv : SvP c (zeroR i) := ⟨zeroR_ok (by omega), fun k hk => by simp [zeroR] at hk; omega, fun k hk => by simp [zeroR] at hk; omega, by show i < _; rw [h3]; exact hi, .inl rfl, fun _ => rfl⟩
  have h8 : 8 ≤ c.length := by rw [h3]; exact hs.fit.1.1
  have h5' : c.length ≤ 512 := by rw [h3]; exact hs.fit.1.2
  refine ⟨c, h1, h2, by rw [saveR_length, h3], h4, fun j hj hne => ⟨?_, fun b hb => ?_⟩⟩
  · rw [save_raw h8 h5' hv (by rw [h3]; exact hj), if_neg (show ¬ j = (zeroR i).num from hne)]
    exact rawI_far (h5 _ (by omega))
  · have hF := (hs.named j hj b hb).1
    have hlt := inode_lt hi
    have hF3 := (first_le hs.fit.1.1 hs.fit.1.2).1
    rw [save_blk h8 h5' hv, if_neg (fun h => h.1 rfl), if_neg (show ¬ b = 2 + (zeroR i).num / 4 by show ¬ b = 2 + i / 4; omega), h5 b (by omega)]

/-- MADE SHORTER. -/
theorem shrink_sound {img : List ByteArray} (hs : SoundQ img) {i : Nat} (hi : i < cntA img.length) (hk : (recI img i).kind = 1 ∨ (recI img i).kind = 2) {size : Nat} (h1 : size ≤ (recI img i).size) :
    ∃ c ind, shrinkI img (recI img i) size = (c, 0) ∧ Chg img c i (nameR (recI img i) size ((dataR (recI img i)).take (needN size)) ind) ∧ (4 < needN size ↔ 0 < ind) := by
  have hC := (first_le hs.fit.1.1 hs.fit.1.2).2.2.2.1
  have hF3 := (first_le hs.fit.1.1 hs.fit.1.2).1
  have hr := recI_ok img i (by omega)
  have hfm := hs.form i hi
  have hfs := form_size hk hfm
  have hnmd := hs.named i hi
  have hone := hs.once i hi
  have hdl := dataR_length hr
  have hnn := need_mono h1
  have h2 : size ≤ 8704 := by omega
  have hn68 := need_le hfs.1
  have hd0 : (dataR (recI img i)).length = needN (recI img i).size := by rw [hdl]; omega
  have hND : namedR (recI img i) = dataR (recI img i) ++ if (recI img i).ind = 0 then [] else [(recI img i).ind] := rfl
  obtain ⟨ind, hind⟩ : ∃ ind, ind = (if needN size ≤ 4 ∧ (recI img i).ind ≠ 0 then 0 else (recI img i).ind) := ⟨_, rfl⟩
  have hin : 4 < needN size ↔ 0 < ind := by
    rw [hind]
    by_cases h4 : needN size ≤ 4
    · by_cases h0 : (recI img i).ind = 0
      · rw [if_neg (fun h => h.2 h0)]; omega
      · rw [if_pos ⟨h4, h0⟩]; omega
    · rw [if_neg (fun h => h4 h.1)]; omega
  have hperm : (((dataR (recI img i)).take (needN size) ++ if ind = 0 then [] else [ind]) ++ backI (recI img i) size).Perm (namedR (recI img i)) := by
    rw [hND]
    unfold backI
    by_cases h4 : needN size ≤ 4
    · by_cases h0 : (recI img i).ind = 0
      · have hi0 : ind = 0 := by rw [hind, if_neg (fun h => h.2 h0), h0]
        rw [if_pos hi0, if_neg (fun h => h.2 h0), if_pos h0, List.append_nil, List.append_nil, List.append_nil, List.take_append_drop]
      · have hi0 : ind = 0 := by rw [hind, if_pos ⟨h4, h0⟩]
        rw [if_pos hi0, if_pos ⟨h4, h0⟩, if_neg h0, List.append_nil, ← List.append_assoc, List.take_append_drop]
    · have h0 : (recI img i).ind ≠ 0 := by omega
      have hi0 : ind = (recI img i).ind := by rw [hind, if_neg (fun h => h4 h.1)]
      rw [hi0, if_neg h0, if_neg (fun h => h4 h.1), List.append_nil, List.append_assoc]
      have e := List.take_append_drop (needN size) (dataR (recI img i))
      refine (List.perm_append_comm.append_left _).trans ?_
      rw [← List.append_assoc, e]
  have hnp := hperm.nodup_iff.2 hone
  obtain ⟨hn1, hn2, hn3⟩ := List.nodup_append.1 hnp
  have hsub1 : ∀ b ∈ (dataR (recI img i)).take (needN size) ++ (if ind = 0 then [] else [ind]), b ∈ namedR (recI img i) := fun b hb => hperm.mem_iff.1 (List.mem_append_left _ hb)
  have hsub2 : ∀ b ∈ backI (recI img i) size, b ∈ namedR (recI img i) := fun b hb => hperm.mem_iff.1 (List.mem_append_right _ hb)
  obtain ⟨c, hg, hcl, hcf, hcb, hct⟩ := gave_all hs.fit hn2 (fun b hb => hnmd b (hsub2 b hb))
  obtain ⟨last, hlast⟩ : ∃ last, last = ((dataR (recI img i)).take (needN size)).getD (needN size - 1) 0 := ⟨_, rfl⟩
  have hE : size % 128 < 128 := Nat.mod_lt _ (by omega)
  have hz : (zeroN (128 - size % 128)).size = 128 - size % 128 := by
    rw [zeroN_mkB, mkB_size, List.length_replicate]
  have hdat : ((dataR (recI img i)).take (needN size)).length = needN size := by rw [List.length_take, hd0]; omega
  have hlm : 0 < size % 128 → last ∈ (dataR (recI img i)).take (needN size) := fun h => by
    rw [hlast, List.getD_eq_getElem?_getD, List.getElem?_eq_getElem (by rw [hdat]; unfold needN; omega)]
    exact List.getElem_mem _
  obtain ⟨m, hm⟩ : ∃ m, m = (if 0 < size % 128 then putI c last (size % 128) (zeroN (128 - size % 128)) else c) := ⟨_, rfl⟩
  have hlF : 0 < size % 128 → firstA img.length ≤ last ∧ last < img.length := fun h => by
    have := hnmd last (hsub1 last (List.mem_append_left _ (hlm h)))
    exact ⟨this.1, taken_lt this.2⟩
  have hml : m.length = img.length := by rw [hm]; split <;> simp [putI_length, hcl]
  have hmf : FitA m := by
    rw [hm]
    split
    · next h => exact fit_put hcf (by have := hlF h; omega) (by rw [hz]; omega)
    · exact hcf
  have hmm : blk m 1 = blk c 1 := by
    rw [hm]
    split
    · next h => exact map_put _ (by have := hlF h; omega)
    · rfl
  have hmb : ∀ b, (0 < size % 128 → b ≠ last) → blkI m b = blkI c b := fun b hb => by
    rw [hm]
    split
    · next h => rw [blkI_put (by rw [hcl]; exact (hlF h).2) (by rw [hz]; omega), if_neg (hb h)]
    · rfl
  have hshr : shrinkI img (recI img i) size = (saveR m (nameR (recI img i) size ((dataR (recI img i)).take (needN size)) ind), 0) := by
    unfold shrinkI
    rw [hg, if_neg (by simp), ← hind, ← hlast, ← hm]
  rw [hshr]
  have hcs := chg_save (m := m) hs hr hi hk h2 hdat hin hmf hml (fun j hj hne => ⟨rawI_far (by
      have hlt := inode_lt hj
      rw [hmb _ (fun h => by have := hlF h; omega), hcb _ (by omega)]), fun b hb => by
      have hF := hs.named j hj b hb
      rw [hmb b (fun h e => by
        subst e
        exact hs.apart j i hj hi hne b hb (hsub1 b (List.mem_append_left _ (hlm h)))), hcb b (by omega)]⟩)
    hn1 (fun b hb => by
      have := hnmd b (hsub1 b hb)
      exact ⟨this.1, taken_lt this.2, .inl (hsub1 b hb)⟩)
    (fun b hb1 hb2 => by
      rw [taken_map (by rw [hml, hcl]) hmm, hct b hb1 hb2]
      show _ ↔ (takenA img b = true ∧ b ∉ namedR (recI img i)) ∨ _
      constructor
      · rintro ⟨h3, h4⟩
        by_cases hn : b ∈ namedR (recI img i)
        · rcases List.mem_append.1 (hperm.mem_iff.2 hn) with h | h
          · exact .inr h
          · exact absurd h h4
        · exact .inl ⟨h3, hn⟩
      · rintro (⟨h3, h4⟩ | h)
        · exact ⟨h3, fun hb => h4 (hsub2 b hb)⟩
        · exact ⟨(hnmd b (hsub1 b h)).2, fun hb => hn3 b h b hb rfl⟩)
    (fun hpos => by
      rw [← hlast]
      by_cases h0 : 0 < size % 128
      · have he : size - (needN size - 1) * 128 = size % 128 := by unfold needN at hpos ⊢; omega
        rw [he]
        have hbm : blkI m last = overB (blkI c last) (size % 128) (zeroN (128 - size % 128)) := by
          rw [hm, if_pos h0, blkI_put (by rw [hcl]; exact (hlF h0).2) (by rw [hz]; omega), if_pos rfl]
        rw [hbm]
        have hle : size % 128 + (zeroN (128 - size % 128)).size ≤ (blkI c last).size := by rw [blkI_size, hz]; omega
        rw [all_zero (by rw [List.length_drop]; have := overB_size hle; simp at this ⊢; rw [this, blkI_size])]
        intro j hj
        rw [List.getD_eq_getElem?_getD, List.getElem?_drop, ← List.getD_eq_getElem?_getD, overB_getD hle, if_pos (by rw [hz]; omega), zeroN_toList, List.getD_eq_getElem?_getD, List.getElem?_replicate]
        split <;> rfl
      · have he : size - (needN size - 1) * 128 = 128 := by unfold needN at hpos ⊢; omega
        rw [he, List.drop_of_length_le (by have := blkI_size m last; simp [this])]
        rfl)
  exact ⟨_, ind, rfl, hcs.1, hin⟩

/-- AS LONG AS THAT. -/
theorem trunc_sound {img : List ByteArray} (hs : SoundQ img) {i : Nat} (hi : i < cntA img.length) (hk : (recI img i).kind ≠ 0) {size : Nat} (h1 : size ≤ 8704) :
    (truncI img (i : Int) (size : Int) = (img, 18) ∧ (recI img i).size < size) ∨ ∃ c data ind, truncI img (i : Int) (size : Int) = (c, 0) ∧ Chg img c i (nameR (recI img i) size data ind) ∧ data.length = needN size ∧ (4 < needN size ↔ 0 < ind) ∧
      ((recI img i).size ≤ size → ∃ X, data = dataR (recI img i) ++ X ∧ (∀ b ∈ dataR (recI img i), (recI img i).size < size → blkI c b = blkI img b) ∧ ∀ b ∈ X, (recI img i).size < size → blkI c b = zeroB) := by
  have hkk : (recI img i).kind = 1 ∨ (recI img i).kind = 2 := (form_kind (hs.form i hi)).resolve_left hk
  have hh : heldI img (i : Int) = (recI img i, 0) := by
    have hg : getI img (i : Int) = (recI img i, 0) := by unfold getI; rw [if_neg (by omega), Int.toNat_natCast]
    rw [heldI_at hg, if_neg hk]
  have hC := (first_le hs.fit.1.1 hs.fit.1.2).2.2.2.1
  have hr := recI_ok img i (by omega)
  have hfs := form_size hkk (hs.form i hi)
  have hd0 : (dataR (recI img i)).length = needN (recI img i).size := by rw [dataR_length hr]; have := need_le hfs.1; omega
  have ht : truncI img (i : Int) (size : Int) = if (recI img i).size < size then growI img (recI img i) size else shrinkI img (recI img i) size := by
    unfold truncI
    rw [hh, if_neg (by simp), if_neg (by omega), if_neg (by omega), Int.toNat_natCast]
    by_cases h : (recI img i).size < size
    · rw [if_pos h, if_pos (by show ((recI img i).size : Int) < _; omega)]
    · rw [if_neg h, if_neg (by show ¬ ((recI img i).size : Int) < _; omega)]
  rw [ht]
  by_cases h : (recI img i).size < size
  · rw [if_pos h]
    rcases grow_sound hs hi hkk h h1 with ⟨_, he⟩ | ⟨c, X, ind, he, hc, hl, hb, hx, _⟩
    · exact .inl ⟨he, h⟩
    · right
      have hsz : needN (nameR (recI img i) size (dataR (recI img i) ++ X) ind).size = needN size := rfl
      have hin : 4 < needN size ↔ 0 < ind := by
        have hfm := hc.sound.form i (by rw [hc.len]; exact hi)
        rw [hc.rec1] at hfm
        exact (form_size (by exact hkk) hfm).2
      exact ⟨c, _, ind, he, hc, hl, hin, fun _ => ⟨X, rfl, fun b hb2 _ => hb b hb2, fun b hb2 _ => hx b hb2⟩⟩
  · rw [if_neg h]
    obtain ⟨c, ind, he, hc, hin⟩ := shrink_sound hs hi hkk (show size ≤ (recI img i).size by omega)
    right
    refine ⟨c, _, ind, he, hc, by rw [List.length_take, hd0]; have := need_mono (show size ≤ (recI img i).size by omega); omega, hin, fun hle => ⟨[], ?_, fun b _ hlt => absurd hlt h, fun b hb => by simp at hb⟩⟩
    have : size = (recI img i).size := by omega
    rw [this, ← hd0, List.take_of_length_le (Nat.le_refl _), List.append_nil]

/-- As many blocks are free where as many are named. -/
theorem free_count {img : List ByteArray} (hs : SoundQ img) : (allNamed img (cntA img.length)).length + (freeA img).length = img.length - firstA img.length := by
  have hp := (soundQ_iff img).2 hs
  have h5 : (allNamed img (cntA img.length)).length ≤ (takenL img).length := sub_len hp.once fun a ha => takenL_mem.2 (by
    have := hp.named a ha
    have h6 := takenA_nat.1 this.2
    exact ⟨h6.1, this.1, h6.2⟩)
  have h6 : (takenL img).length ≤ (allNamed img (cntA img.length)).length := sub_len (takenL_nodup img) fun a ha => by
    have := takenL_mem.1 ha
    exact hp.all a this.2.1 (takenA_nat.2 ⟨this.1, this.2.2⟩)
  have := takenL_len img
  omega
theorem free_same {img c : List ByteArray} (hs : SoundQ img) (hc : SoundQ c) (hl : c.length = img.length) (h : ∀ j, j < cntA img.length → (namedR (recI c j)).length = (namedR (recI img j)).length) : (freeA c).length = (freeA img).length := by
  have h1 := free_count hs
  have h2 := free_count hc
  rw [hl] at h2
  have : ∀ C, C ≤ cntA img.length → (allNamed c C).length = (allNamed img C).length := by
    intro C
    induction C with
    | zero => intro _; simp [allNamed]
    | succ C ih => intro hC; rw [allNamed_succ, allNamed_succ, List.length_append, List.length_append, ih (by omega), h C (by omega)]
  have h3 := this (cntA img.length) (Nat.le_refl (cntA img.length))
  omega

end Go.Proofs.YtpdfkakhahfcjaaGreat
