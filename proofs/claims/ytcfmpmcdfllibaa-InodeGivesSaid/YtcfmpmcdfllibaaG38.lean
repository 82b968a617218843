/-
  Images of inodes stay sound: one made, one taken away, one made shorter; all of Truncate.
-/
import Derived.Test.YtcfmpmcdfllibaaG37
namespace Go.Proofs.Ytcfmpmcdfllibaa
open Go.RowKit

theorem new_chg {img : List ByteArray} (hs : SoundQ img) {q i : Nat} (hq : q = 1 ∨ q = 2) (hi : i < cntA img.length) (h0 : (recI img i).kind = 0) :
    Chg img (saveR img { recI img i with kind := q }) i { zeroR i with kind := q } := by
  have hsp := (soundQ_iff img).2 hs
  have hz := zero_rec (sound_free hsp hi h0)
  have hC := (first_le hs.fit.1.1 hs.fit.1.2).2.2.2.1
  rw [hz]
  have hok : OkR { zeroR i with kind := q } := ⟨rfl, by simp [zeroR], (by show i ≤ 1024; omega), by show q ≤ 255; omega, by simp [zeroR], by simp [zeroR]⟩
  have hnm : namedR (recI img i) = [] := zero_named (sound_free hsp hi h0)
  have h := (chg_save (img := img) (m := img) hs (r0 := { zeroR i with kind := q }) hok hi hq (size := 0) (ind := 0) (data := []) (by omega) rfl (by simp [needN]) hs.fit rfl (fun i _ _ => ⟨rfl, fun _ _ => rfl⟩) (by simp) (fun b hb => by simp at hb) (fun b h1 h2 => by
    show takenA img b = true ↔ (takenA img b = true ∧ b ∉ namedR (recI img i)) ∨ _
    rw [hnm]; simp) (fun h => by simp [needN] at h)).1
  rw [← name_zero] at h
  exact h
theorem drop_chg {img : List ByteArray} (hs : SoundQ img) {i : Nat} (hi : i < cntA img.length) :
    ∃ c, giveA img (castN (namedR (recI img i))) = (c, 0) ∧ Chg img (saveR c (zeroR i)) i (zeroR i) := by
  obtain ⟨c, h1, h2, h3, h4, h5⟩ := drop_sound hs hi
  have hC := (first_le hs.fit.1.1 hs.fit.1.2).2.2.2.1
  have hv : SvP c (zeroR i) := ⟨zeroR_ok (by omega), fun k hk => by simp [zeroR] at hk; omega, fun k hk => by simp [zeroR] at hk; omega, by show i < _; rw [h3]; exact hi, .inl rfl, fun _ => rfl⟩
  have h8 : 8 ≤ c.length := by rw [h3]; exact hs.fit.1.1
  have h5' : c.length ≤ 512 := by rw [h3]; exact hs.fit.1.2
  refine ⟨c, h1, h2, by rw [saveR_length, h3], h4, fun j hj hne => ⟨?_, fun b hb => ?_⟩⟩
  · rw [save_raw h8 h5' hv (by rw [h3]; exact hj), if_neg (show ¬ j = (zeroR i).num from hne)]
    exact rawI_far (h5 _ (by omega))
  · have hF := (hs.named j hj b hb).1
    have hlt := inode_lt hi
    have hF3 := (first_le hs.fit.1.1 hs.fit.1.2).1
    rw [save_blk h8 h5' hv, if_neg (fun h => h.1 rfl), if_neg (show ¬ b = 2 + (zeroR i).num / 4 by show ¬ b = 2 + i / 4; omega), h5 b (by omega)]

/-- MADE SHORTER. -/
theorem shrink_sound {img : List ByteArray} (hs : SoundQ img) {i : Nat} (hi : i < cntA img.length) (hk : (recI img i).kind = 1 ∨ (recI img i).kind = 2) {size : Nat} (h1 : size ≤ (recI img i).size) :
    ∃ c ind, shrinkI img (recI img i) size = (c, 0) ∧ Chg img c i (nameR (recI img i) size ((dataR (recI img i)).take (needN size)) ind) ∧ (4 < needN size ↔ 0 < ind) := by
  have hC := (first_le hs.fit.1.1 hs.fit.1.2).2.2.2.1
  have hF3 := (first_le hs.fit.1.1 hs.fit.1.2).1
  have hr := recI_ok img i (by omega)
  have hfm := hs.form i hi
  have hfs := form_size hk hfm
  have hnmd := hs.named i hi
  have hone := hs.once i hi
  have hdl := dataR_length hr
  have hnn := need_mono h1
  have h2 : size ≤ 8704 := by omega
  have hn68 := need_le hfs.1
  have hd0 : (dataR (recI img i)).length = needN (recI img i).size := by rw [hdl]; omega
  have hND : namedR (recI img i) = dataR (recI img i) ++ if (recI img i).ind = 0 then [] else [(recI img i).ind] := rfl
  obtain ⟨ind, hind⟩ : ∃ ind, ind = (if needN size ≤ 4 ∧ (recI img i).ind ≠ 0 then 0 else (recI img i).ind) := ⟨_, rfl⟩
  have hin : 4 < needN size ↔ 0 < ind := by
    rw [hind]
    by_cases h4 : needN size ≤ 4
    · by_cases h0 : (recI img i).ind = 0
      · rw [if_neg (fun h => h.2 h0)]; omega
      · rw [if_pos ⟨h4, h0⟩]; omega
    · rw [if_neg (fun h => h4 h.1)]; omega
  have hperm : (((dataR (recI img i)).take (needN size) ++ if ind = 0 then [] else [ind]) ++ backI (recI img i) size).Perm (namedR (recI img i)) := by
    rw [hND]
    unfold backI
    by_cases h4 : needN size ≤ 4
    · by_cases h0 : (recI img i).ind = 0
      · have hi0 : ind = 0 := by rw [hind, if_neg (fun h => h.2 h0), h0]
        rw [if_pos hi0, if_neg (fun h => h.2 h0), if_pos h0, List.append_nil, List.append_nil, List.append_nil, List.take_append_drop]
      · have hi0 : ind = 0 := by rw [hind, if_pos ⟨h4, h0⟩]
        rw [if_pos hi0, if_pos ⟨h4, h0⟩, if_neg h0, List.append_nil, ← List.append_assoc, List.take_append_drop]
    · have h0 : (recI img i).ind ≠ 0 := by omega
      have hi0 : ind = (recI img i).ind := by rw [hind, if_neg (fun h => h4 h.1)]
      rw [hi0, if_neg h0, if_neg (fun h => h4 h.1), List.append_nil, List.append_assoc]
      have e := List.take_append_drop (needN size) (dataR (recI img i))
      refine (List.perm_append_comm.append_left _).trans ?_
      rw [← List.append_assoc, e]
  have hnp := hperm.nodup_iff.2 hone
  obtain ⟨hn1, hn2, hn3⟩ := List.nodup_append.1 hnp
  have hsub1 : ∀ b ∈ (dataR (recI img i)).take (needN size) ++ (if ind = 0 then [] else [ind]), b ∈ namedR (recI img i) := fun b hb => hperm.mem_iff.1 (List.mem_append_left _ hb)
  have hsub2 : ∀ b ∈ backI (recI img i) size, b ∈ namedR (recI img i) := fun b hb => hperm.mem_iff.1 (List.mem_append_right _ hb)
  obtain ⟨c, hg, hcl, hcf, hcb, hct⟩ := gave_all hs.fit hn2 (fun b hb => hnmd b (hsub2 b hb))
  obtain ⟨last, hlast⟩ : ∃ last, last = ((dataR (recI img i)).take (needN size)).getD (needN size - 1) 0 := ⟨_, rfl⟩
  have hE : size % 128 < 128 := Nat.mod_lt _ (by omega)
  have hz : (zeroN (128 - size % 128)).size = 128 - size % 128 := by
    rw [zeroN_mkB, mkB_size, List.length_replicate]
  have hdat : ((dataR (recI img i)).take (needN size)).length = needN size := by rw [List.length_take, hd0]; omega
  have hlm : 0 < size % 128 → last ∈ (dataR (recI img i)).take (needN size) := fun h => by
    rw [hlast, List.getD_eq_getElem?_getD, List.getElem?_eq_getElem (by rw [hdat]; unfold needN; omega)]
    exact List.getElem_mem _
  obtain ⟨m, hm⟩ : ∃ m, m = (if 0 < size % 128 then putI c last (size % 128) (zeroN (128 - size % 128)) else c) := ⟨_, rfl⟩
  have hlF : 0 < size % 128 → firstA img.length ≤ last ∧ last < img.length := fun h => by
    have := hnmd last (hsub1 last (List.mem_append_left _ (hlm h)))
    exact ⟨this.1, taken_lt this.2⟩
  have hml : m.length = img.length := by rw [hm]; split <;> simp [putI_length, hcl]
  have hmf : FitA m := by
    rw [hm]
    split
    · next h => exact fit_put hcf (by have := hlF h; omega) (by rw [hz]; omega)
    · exact hcf
  have hmm : blk m 1 = blk c 1 := by
    rw [hm]
    split
    · next h => exact map_put _ (by have := hlF h; omega)
    · rfl
  have hmb : ∀ b, (0 < size % 128 → b ≠ last) → blkI m b = blkI c b := fun b hb => by
    rw [hm]
    split
    · next h => rw [blkI_put (by rw [hcl]; exact (hlF h).2) (by rw [hz]; omega), if_neg (hb h)]
    · rfl
  have hshr : shrinkI img (recI img i) size = (saveR m (nameR (recI img i) size ((dataR (recI img i)).take (needN size)) ind), 0) := by
    unfold shrinkI
    rw [hg, if_neg (by simp), ← hind, ← hlast, ← hm]
  rw [hshr]
  have hcs := chg_save (m := m) hs hr hi hk h2 hdat hin hmf hml (fun j hj hne => ⟨rawI_far (by
      have hlt := inode_lt hj
      rw [hmb _ (fun h => by have := hlF h; omega), hcb _ (by omega)]), fun b hb => by
      have hF := hs.named j hj b hb
      rw [hmb b (fun h e => by
        subst e
        exact hs.apart j i hj hi hne b hb (hsub1 b (List.mem_append_left _ (hlm h)))), hcb b (by omega)]⟩)
    hn1 (fun b hb => by
      have := hnmd b (hsub1 b hb)
      exact ⟨this.1, taken_lt this.2, .inl (hsub1 b hb)⟩)
    (fun b hb1 hb2 => by
      rw [taken_map (by rw [hml, hcl]) hmm, hct b hb1 hb2]
      show _ ↔ (takenA img b = true ∧ b ∉ namedR (recI img i)) ∨ _
      constructor
      · rintro ⟨h3, h4⟩
        by_cases hn : b ∈ namedR (recI img i)
        · rcases List.mem_append.1 (hperm.mem_iff.2 hn) with h | h
          · exact .inr h
          · exact absurd h h4
        · exact .inl ⟨h3, hn⟩
      · rintro (⟨h3, h4⟩ | h)
        · exact ⟨h3, fun hb => h4 (hsub2 b hb)⟩
        · exact ⟨(hnmd b (hsub1 b h)).2, fun hb => hn3 b h b hb rfl⟩)
    (fun hpos => by
      rw [← hlast]
      by_cases h0 : 0 < size % 128
      · have he : size - (needN size - 1) * 128 = size % 128 := by unfold needN at hpos ⊢; omega
        rw [he]
        have hbm : blkI m last = overB (blkI c last) (size % 128) (zeroN (128 - size % 128)) := by
          rw [hm, if_pos h0, blkI_put (by rw [hcl]; exact (hlF h0).2) (by rw [hz]; omega), if_pos rfl]
        rw [hbm]
        have hle : size % 128 + (zeroN (128 - size % 128)).size ≤ (blkI c last).size := by rw [blkI_size, hz]; omega
        rw [all_zero (by rw [List.length_drop]; have := overB_size hle; simp at this ⊢; rw [this, blkI_size])]
        intro j hj
        rw [List.getD_eq_getElem?_getD, List.getElem?_drop, ← List.getD_eq_getElem?_getD, overB_getD hle, if_pos (by rw [hz]; omega), zeroN_toList, List.getD_eq_getElem?_getD, List.getElem?_replicate]
        split <;> rfl
      · have he : size - (needN size - 1) * 128 = 128 := by unfold needN at hpos ⊢; omega
        rw [he, List.drop_of_length_le (by have := blkI_size m last; simp [this])]
        rfl)
  exact ⟨_, ind, rfl, hcs.1, hin⟩

/-- AS LONG AS THAT. -/
theorem trunc_sound {img : List ByteArray} (hs : SoundQ img) {i : Nat} (hi : i < cntA img.length) (hk : (recI img i).kind ≠ 0) {size : Nat} (h1 : size ≤ 8704) :
    (truncI img (i : Int) (size : Int) = (img, 18) ∧ (recI img i).size < size) ∨ ∃ c data ind, truncI img (i : Int) (size : Int) = (c, 0) ∧ Chg img c i (nameR (recI img i) size data ind) ∧ data.length = needN size ∧ (4 < needN size ↔ 0 < ind) ∧
      ((recI img i).size ≤ size → ∃ X, data = dataR (recI img i) ++ X ∧ (∀ b ∈ dataR (recI img i), (recI img i).size < size → blkI c b = blkI img b) ∧ ∀ b ∈ X, (recI img i).size < size → blkI c b = zeroB) := by
  have hkk : (recI img i).kind = 1 ∨ (recI img i).kind = 2 := (form_kind (hs.form i hi)).resolve_left hk
  have hh : heldI img (i : Int) = (recI img i, 0) := by
    have hg : getI img (i : Int) = (recI img i, 0) := by unfold getI; rw [if_neg (by omega), Int.toNat_natCast]
    rw [heldI_at hg, if_neg hk]
  have hC := (first_le hs.fit.1.1 hs.fit.1.2).2.2.2.1
  have hr := recI_ok img i (by omega)
  have hfs := form_size hkk (hs.form i hi)
  have hd0 : (dataR (recI img i)).length = needN (recI img i).size := by rw [dataR_length hr]; have := need_le hfs.1; omega
  have ht : truncI img (i : Int) (size : Int) = if (recI img i).size < size then growI img (recI img i) size else shrinkI img (recI img i) size := by
    unfold truncI
    rw [hh, if_neg (by simp), if_neg (by omega), if_neg (by omega), Int.toNat_natCast]
    by_cases h : (recI img i).size < size
    · rw [if_pos h, if_pos (by show ((recI img i).size : Int) < _; omega)]
    · rw [if_neg h, if_neg (by show ¬ ((recI img i).size : Int) < _; omega)]
  rw [ht]
  by_cases h : (recI img i).size < size
  · rw [if_pos h]
    rcases grow_sound hs hi hkk h h1 with ⟨_, he⟩ | ⟨c, X, ind, he, hc, hl, hb, hx, _⟩
    · exact .inl ⟨he, h⟩
    · right
      have hsz : needN (nameR (recI img i) size (dataR (recI img i) ++ X) ind).size = needN size := rfl
      have hin : 4 < needN size ↔ 0 < ind := by
        have hfm := hc.sound.form i (by rw [hc.len]; exact hi)
        rw [hc.rec1] at hfm
        exact (form_size (by exact hkk) hfm).2
      exact ⟨c, _, ind, he, hc, hl, hin, fun _ => ⟨X, rfl, fun b hb2 _ => hb b hb2, fun b hb2 _ => hx b hb2⟩⟩
  · rw [if_neg h]
    obtain ⟨c, ind, he, hc, hin⟩ := shrink_sound hs hi hkk (show size ≤ (recI img i).size by omega)
    right
    refine ⟨c, _, ind, he, hc, by rw [List.length_take, hd0]; have := need_mono (show size ≤ (recI img i).size by omega); omega, hin, fun hle => ⟨[], ?_, fun b _ hlt => absurd hlt h, fun b hb => by simp at hb⟩⟩
    have : size = (recI img i).size := by omega
    rw [this, ← hd0, List.take_of_length_le (Nat.le_refl _), List.append_nil]

/-- As many blocks are free where as many are named. -/
theorem free_count {img : List ByteArray} (hs : SoundQ img) : (allNamed img (cntA img.length)).length + (freeA img).length = img.length - firstA img.length := by
  have hp := (soundQ_iff img).2 hs
  have h5 : (allNamed img (cntA img.length)).length ≤ (takenL img).length := sub_len hp.once fun a ha => takenL_mem.2 (by
    have := hp.named a ha
    have h6 := takenA_nat.1 this.2
    exact ⟨h6.1, this.1, h6.2⟩)
  have h6 : (takenL img).length ≤ (allNamed img (cntA img.length)).length := sub_len (takenL_nodup img) fun a ha => by
    have := takenL_mem.1 ha
    exact hp.all a this.2.1 (takenA_nat.2 ⟨this.1, this.2.2⟩)
  have := takenL_len img
  omega
theorem free_same {img c : List ByteArray} (hs : SoundQ img) (hc : SoundQ c) (hl : c.length = img.length) (h : ∀ j, j < cntA img.length → (namedR (recI c j)).length = (namedR (recI img j)).length) : (freeA c).length = (freeA img).length := by
  have h1 := free_count hs
  have h2 := free_count hc
  rw [hl] at h2
  have : ∀ C, C ≤ cntA img.length → (allNamed c C).length = (allNamed img C).length := by
    intro C
    induction C with
    | zero => intro _; simp [allNamed]
    | succ C ih => intro hC; rw [allNamed_succ, allNamed_succ, List.length_append, List.length_append, ih (by omega), h C (by omega)]
  have h3 := this (cntA img.length) (Nat.le_refl (cntA img.length))
  omega

end Go.Proofs.Ytcfmpmcdfllibaa

/-
  Bytes written: which, and that the image stays sound.
-/
namespace Go.Proofs.Ytcfmpmcdfllibaa
open Go.RowKit

theorem putW_nat {at_ en k b : Nat} {data : ByteArray} {img : List ByteArray} (hk : k < 68) (_ha : at_ ≤ en) (_he : en ≤ 8704) :
    putW at_ en data img (k, b) = if max at_ (128 * k) < min en (128 * k + 128) then putI img b (max at_ (128 * k) - 128 * k) (data.extract (max at_ (128 * k) - at_) (min en (128 * k + 128) - at_)) else img := by
  have h1 : IntKind.i64.wrap (128 * (k : Int)) = ((128 * k : Nat) : Int) := by rw [IntKind.wrap_i64]; omega
  have h2 : IntKind.i64.wrap (((128 * k : Nat) : Int) + 128) = ((128 * k + 128 : Nat) : Int) := by rw [IntKind.wrap_i64]; omega
  unfold putW
  dsimp only
  rw [h1, h2]
  have h3 : max (at_ : Int) ((128 * k : Nat) : Int) = ((max at_ (128 * k) : Nat) : Int) := by omega
  have h4 : min (en : Int) ((128 * k + 128 : Nat) : Int) = ((min en (128 * k + 128) : Nat) : Int) := by omega
  rw [h3, h4]
  by_cases h : max at_ (128 * k) < min en (128 * k + 128)
  · rw [if_pos h, if_pos (by omega)]
    congr 2 <;> omega
  · rw [if_neg h, if_neg (by omega)]
/-- The k-th block as it is then. -/
def newB (c : List ByteArray) (at_ en : Nat) (data : ByteArray) (l : List Nat) (k : Nat) : ByteArray :=
  if max at_ (128 * k) < min en (128 * k + 128) then overB (blkI c (l.getD k 0)) (max at_ (128 * k) - 128 * k) (data.extract (max at_ (128 * k) - at_) (min en (128 * k + 128) - at_)) else blkI c (l.getD k 0)
theorem newB_size {c : List ByteArray} {at_ en k : Nat} {data : ByteArray} {l : List Nat} (hd : en = at_ + data.size) : (newB c at_ en data l k).size = 128 := by
  unfold newB
  split
  · rw [overB_size (by rw [blkI_size, ByteArray.size_extract]; omega), blkI_size]
  · exact blkI_size _ _
/-- Its bytes. -/
theorem newB_getD {c : List ByteArray} {at_ en k j : Nat} {data : ByteArray} {l : List Nat} (hd : en = at_ + data.size) (hj : j < 128) :
    (newB c at_ en data l k).data.toList.getD j 0 = if at_ ≤ 128 * k + j ∧ 128 * k + j < en then data.data.toList.getD (128 * k + j - at_) 0 else (blkI c (l.getD k 0)).data.toList.getD j 0 := by
  unfold newB
  by_cases h : max at_ (128 * k) < min en (128 * k + 128)
  · rw [if_pos h, overB_getD (by rw [blkI_size, ByteArray.size_extract]; omega), ByteArray.size_extract]
    by_cases h2 : at_ ≤ 128 * k + j ∧ 128 * k + j < en
    · rw [if_pos (by omega), if_pos h2, ext_getD (by omega)]
      congr 1
      omega
    · rw [if_neg (by omega), if_neg h2]
  · rw [if_neg h, if_neg (by omega)]
theorem pair_data {r : RecI} {k : Nat} (hk : k < needN r.size) : (r.bl ++ r.ls).getD k 0 = (dataR r).getD k 0 := by
  unfold dataR
  rw [List.getD_eq_getElem?_getD, List.getD_eq_getElem?_getD, List.getElem?_take, if_pos hk]
/-- The blocks written one behind the other. -/
theorem laid_to {c : List ByteArray} (hf : FitA c) {r : RecI} {at_ en : Nat} {data : ByteArray} (hd : en = at_ + data.size) (he : en ≤ 8704) (hn68 : needN r.size ≤ 68) (hlen : (dataR r).length = needN r.size)
    (hnd : (dataR r).Nodup) (hin : ∀ b ∈ dataR r, 2 ≤ b ∧ b < c.length) :
    ∀ k, k ≤ needN r.size → FitA ((pairsR r k).foldl (putW at_ en data) c) ∧ ((pairsR r k).foldl (putW at_ en data) c).length = c.length ∧ blk ((pairsR r k).foldl (putW at_ en data) c) 1 = blk c 1 ∧
      (∀ j, j < k → blkI ((pairsR r k).foldl (putW at_ en data) c) ((dataR r).getD j 0) = newB c at_ en data (dataR r) j) ∧ (∀ b, (∀ j, j < k → (dataR r).getD j 0 ≠ b) → blkI ((pairsR r k).foldl (putW at_ en data) c) b = blkI c b)
  | 0, _ => ⟨hf, rfl, rfl, fun j hj => by omega, fun b _ => rfl⟩
  | k + 1, hk => by
    obtain ⟨h1, h2, h3, h4, h5⟩ := laid_to hf hd he hn68 hlen hnd hin k (by omega)
    have hkl : k < (dataR r).length := by omega
    have hmem : (dataR r).getD k 0 ∈ dataR r := by rw [List.getD_eq_getElem?_getD, List.getElem?_eq_getElem hkl]; exact List.getElem_mem _
    have hb := hin _ hmem
    have hne : ∀ j, j < k → (dataR r).getD j 0 ≠ (dataR r).getD k 0 := fun j hj e => by
      rw [List.getD_eq_getElem?_getD, List.getElem?_eq_getElem (by omega), List.getD_eq_getElem?_getD, List.getElem?_eq_getElem hkl] at e
      exact List.pairwise_iff_getElem.1 hnd j k (by omega) hkl hj (by simpa using e)
    have hold := h5 ((dataR r).getD k 0) hne
    rw [pairsR_succ, List.foldl_append]
    show FitA (putW at_ en data _ _) ∧ (putW at_ en data _ _).length = _ ∧ blk (putW at_ en data _ _) 1 = _ ∧ (∀ j, j < k + 1 → blkI (putW at_ en data _ _) _ = _) ∧ ∀ b, _ → blkI (putW at_ en data _ _) b = _
    rw [pair_data (by omega), putW_nat (by omega) (by omega) he]
    generalize (pairsR r k).foldl (putW at_ en data) c = m at *
    generalize hB : (dataR r).getD k 0 = B at *
    by_cases h : max at_ (128 * k) < min en (128 * k + 128)
    · rw [if_pos h]
      have hsz : max at_ (128 * k) - 128 * k + (data.extract (max at_ (128 * k) - at_) (min en (128 * k + 128) - at_)).size ≤ 128 := by rw [ByteArray.size_extract]; omega
      have hbl := fun j => blkI_put (img := m) (i := B) (by rw [h2]; exact hb.2) hsz j
      refine ⟨fit_put h1 hb.1 hsz, by rw [putI_length, h2], by rw [map_put _ hb.1, h3], fun j hj => ?_, fun b hbn => ?_⟩
      · rw [hbl]
        rcases Nat.lt_or_ge j k with hjk | hjk
        · rw [if_neg (hne j hjk), h4 j hjk]
        · obtain rfl : j = k := by omega
          rw [if_pos hB, hold]
          unfold newB
          rw [if_pos h, hB]
      · rw [hbl, if_neg (fun e => hbn k (by omega) (by rw [hB, e])), h5 b fun j hj => hbn j (by omega)]
    · rw [if_neg h]
      refine ⟨h1, h2, h3, fun j hj => ?_, fun b hbn => h5 b fun j hj => hbn j (by omega)⟩
      rcases Nat.lt_or_ge j k with hjk | hjk
      · exact h4 j hjk
      · obtain rfl : j = k := by omega
        rw [hB, hold]
        unfold newB
        rw [if_neg h, hB]
/-- A byte of what an inode's blocks hold. -/
theorem flat_getD {img : List ByteArray} {r : RecI} {p : Nat} (hp : p < 128 * (dataR r).length) : (flatR img r).getD p 0 = (blkI img ((dataR r).getD (p / 128) 0)).data.toList.getD (p % 128) 0 := by
  unfold flatR
  generalize dataR r = l at *
  induction l generalizing p with
  | nil => simp at hp
  | cons a l ih =>
    have ha : (blkI img a).data.toList.length = 128 := by simpa using blkI_size img a
    rw [List.flatMap_cons, List.getD_eq_getElem?_getD]
    rcases Nat.lt_or_ge p 128 with h | h
    · rw [List.getElem?_append_left (by omega), Nat.div_eq_of_lt h, Nat.mod_eq_of_lt h, ← List.getD_eq_getElem?_getD]; rfl
    · rw [List.getElem?_append_right (by omega), ha, ← List.getD_eq_getElem?_getD, ih (p := p - 128) (by simp at hp; omega)]
      rw [show p / 128 = (p - 128) / 128 + 1 by omega, show (p - 128) % 128 = p % 128 by omega]
      rfl
theorem flatR_len (img : List ByteArray) (r : RecI) : (flatR img r).length = 128 * (dataR r).length := by unfold flatR; exact flatI_length img _

/-- WRITTEN: the image is sound, the inode as it was, its bytes what was written. -/
theorem laid_sound {c : List ByteArray} (hs : SoundQ c) {i : Nat} (hi : i < cntA c.length) (hk : (recI c i).kind ≠ 0) {at_ : Nat} {data : ByteArray} (he : at_ + data.size ≤ (recI c i).size) :
    Chg c (laidW at_ data c (recI c i)) i (recI c i) ∧ ∀ p, p < 128 * needN (recI c i).size → (flatR (laidW at_ data c (recI c i)) (recI c i)).getD p 0 = if at_ ≤ p ∧ p < at_ + data.size then data.data.toList.getD (p - at_) 0 else (flatR c (recI c i)).getD p 0 := by
  have hC := (first_le hs.fit.1.1 hs.fit.1.2).2.2.2.1
  have hF3 := (first_le hs.fit.1.1 hs.fit.1.2).1
  have hr := recI_ok c i (by omega)
  have hkk : (recI c i).kind = 1 ∨ (recI c i).kind = 2 := (form_kind (hs.form i hi)).resolve_left hk
  have hfm := hs.form i hi
  have hfs := form_size hkk hfm
  have hn68 := need_le hfs.1
  have hlen : (dataR (recI c i)).length = needN (recI c i).size := by rw [dataR_length hr]; omega
  have hnmd := hs.named i hi
  have hone := hs.once i hi
  have hndD : (dataR (recI c i)).Nodup := (List.nodup_append.1 hone).1
  have hin : ∀ b ∈ dataR (recI c i), firstA c.length ≤ b ∧ b < c.length := fun b hb => by
    have := hnmd b (List.mem_append_left _ hb)
    exact ⟨this.1, taken_lt this.2⟩
  have hlen68 : lenR (recI c i) = needN (recI c i).size := by unfold lenR; omega
  obtain ⟨h1, h2, h3, h4, h5⟩ := laid_to hs.fit (r := recI c i) (at_ := at_) (data := data) rfl (by omega) hn68 hlen hndD (fun b hb => by have := hin b hb; omega) (needN (recI c i).size) (Nat.le_refl _)
  have hL : laidW at_ data c (recI c i) = (pairsR (recI c i) (needN (recI c i).size)).foldl (putW at_ (at_ + data.size) data) c := by unfold laidW; rw [hlen68]
  rw [← hL] at h1 h2 h3 h4 h5
  generalize laidW at_ data c (recI c i) = w at *
  clear hL
  have hmemj : ∀ j, j < needN (recI c i).size → (dataR (recI c i)).getD j 0 ∈ dataR (recI c i) := fun j hj => by
    rw [List.getD_eq_getElem?_getD, List.getElem?_eq_getElem (by omega)]; exact List.getElem_mem _
  have hout : ∀ b, b ∉ dataR (recI c i) → blkI w b = blkI c b := fun b hb => h5 b fun j hj e => hb (e ▸ hmemj j hj)
  have hraw : ∀ j, j < cntA c.length → rawI w j = rawI c j := fun j hj => rawI_far (hout _ fun hb => by have := (hin _ hb).1; have := inode_lt hj; omega)
  have hrec : recI w i = recI c i := recI_far (hraw i hi) fun h0 => hout _ fun hb => by
    unfold namedR at hone
    rw [if_neg h0, List.nodup_append] at hone
    exact hone.2.2 _ hb _ (by simp) rfl
  have hflat : ∀ p, p < 128 * needN (recI c i).size → (flatR w (recI c i)).getD p 0 = if at_ ≤ p ∧ p < at_ + data.size then data.data.toList.getD (p - at_) 0 else (flatR c (recI c i)).getD p 0 := fun p hp => by
    rw [flat_getD (by rw [hlen]; exact hp), flat_getD (by rw [hlen]; exact hp), h4 (p / 128) (by omega), newB_getD rfl (by omega), show 128 * (p / 128) + p % 128 = p by omega]
  have hfl := flatR_len w (recI c i)
  have hfl2 := flatR_len c (recI c i)
  have hdrop : (flatR w (recI c i)).drop (recI c i).size = (flatR c (recI c i)).drop (recI c i).size := by
    refine List.ext_getElem (by rw [List.length_drop, List.length_drop, hfl, hfl2]) fun j hj1 hj2 => ?_
    rw [List.length_drop, hfl, hlen] at hj1
    have := hflat ((recI c i).size + j) (by omega)
    rw [if_neg (by omega), List.getD_eq_getElem?_getD, List.getD_eq_getElem?_getD, List.getElem?_eq_getElem (by rw [hfl, hlen]; omega), List.getElem?_eq_getElem (by rw [hfl2, hlen]; omega)] at this
    rw [List.getElem_drop, List.getElem_drop]
    exact this
  have hoth : ∀ j, j < cntA c.length → j ≠ i → rawI w j = rawI c j ∧ ∀ b ∈ namedR (recI c j), blkI w b = blkI c b := fun j hj hne => ⟨hraw j hj, fun b hb => hout b fun hb2 => hs.apart j i hj hi hne b hb (List.mem_append_left _ hb2)⟩
  refine ⟨⟨sound_one hs hi h1 h2 hoth ?_ ?_ ?_ ?_, h2, hrec, hoth⟩, hflat⟩
  · rw [hrec]
    have : isFormI w (recI c i) = isFormI c (recI c i) := by
      unfold isFormI
      rw [hdrop, hfl, ← hfl2, show rawI w (recI c i).num = rawI c (recI c i).num from hraw i hi]
    rw [this]; exact hfm
  · rw [hrec]; exact hone
  · rw [hrec]
    intro b hb
    have := hnmd b hb
    exact ⟨this.1, taken_lt this.2, .inl hb⟩
  · intro b hb1 hb2
    rw [hrec, taken_map h2 h3]
    constructor
    · intro h
      by_cases hn : b ∈ namedR (recI c i)
      · exact .inr hn
      · exact .inl ⟨h, hn⟩
    · rintro (h | h)
      · exact h.1
      · exact (hnmd b h).2

end Go.Proofs.Ytcfmpmcdfllibaa
