/-
  Which images' inodes can be: as the program looks, and as a plain condition.
-/
import Derived.Test.YtpdfkakhahfcjaaGreatG18
namespace Go.Proofs.YtpdfkakhahfcjaaGreat
open Go.RowKit

/-- The blocks that are named are marked, one behind the other; none where one is refused. -/
def markI (img : List ByteArray) : List Nat → List Bool × Nat → Option (List Bool × Nat)
  | [], s => some s
  | b :: l, s => if b < firstA img.length ∨ takenA img b = false ∨ bAt s.1 b = true then none else markI img l (s.1.set b true, s.2 + 1)
theorem markI_app (img : List ByteArray) : ∀ (l l2 : List Nat) (s : List Bool × Nat), markI img (l ++ l2) s = (markI img l s).bind (markI img l2)
  | [], _, _ => rfl
  | b :: l, l2, s => by
    simp only [List.cons_append, markI]
    split
    · rfl
    · exact markI_app img l l2 _
theorem markI_one (img : List ByteArray) (b : Nat) (s : List Bool × Nat) : markI img [b] s = if b < firstA img.length ∨ takenA img b = false ∨ bAt s.1 b = true then none else some (s.1.set b true, s.2 + 1) := by
  simp [markI]
theorem markI_len {img : List ByteArray} : ∀ {l : List Nat} {s t : List Bool × Nat}, markI img l s = some t → t.1.length = s.1.length ∧ t.2 = s.2 + l.length
  | [], s, t, h => by simp [markI] at h; subst h; simp
  | b :: l, s, t, h => by
    simp only [markI] at h
    split at h
    · cases h
    · have := markI_len h
      simp only [List.length_set] at this
      exact ⟨this.1, by rw [this.2, List.length_cons]; omega⟩
theorem bAt_set {m : List Bool} {b k : Nat} (hb : b < m.length) : bAt (m.set b true) k = if k = b then true else bAt m k := by
  unfold bAt
  rw [List.getD_eq_getElem?_getD, List.getD_eq_getElem?_getD]
  by_cases h : k = b
  · subst h; simp [hb]
  · rw [if_neg h, List.getElem?_set_ne (Ne.symm h)]
theorem taken_lt {img : List ByteArray} {b : Nat} (h : takenA img b = true) : b < img.length := by
  unfold takenA at h
  simp only [Bool.and_eq_true, decide_eq_true_eq] at h
  omega
/-- When marking goes through, and what is marked then. -/
theorem markI_iff {img : List ByteArray} : ∀ {l : List Nat} {s : List Bool × Nat}, s.1.length = img.length →
    ((∃ t, markI img l s = some t) ↔ (∀ b ∈ l, firstA img.length ≤ b ∧ takenA img b = true ∧ bAt s.1 b = false) ∧ l.Nodup) ∧ ∀ t, markI img l s = some t → ∀ k, bAt t.1 k = (bAt s.1 k || decide (k ∈ l))
  | [], s, _ => by simp [markI]
  | b :: l, s, hs => by
    by_cases hc : b < firstA img.length ∨ takenA img b = false ∨ bAt s.1 b = true
    · have e : markI img (b :: l) s = none := by simp only [markI]; rw [if_pos hc]
      rw [e]
      refine ⟨⟨fun ⟨t, h⟩ => (by cases h), fun h => ?_⟩, fun t h => (by cases h)⟩
      have := h.1 b List.mem_cons_self
      rcases hc with h1 | h1 | h1
      · omega
      · rw [this.2.1] at h1; cases h1
      · rw [this.2.2] at h1; cases h1
    · have e : markI img (b :: l) s = markI img l (s.1.set b true, s.2 + 1) := by simp only [markI]; rw [if_neg hc]
      have h1 : firstA img.length ≤ b := by omega
      have h2 : takenA img b = true := by cases h : takenA img b with
        | true => rfl
        | false => exact absurd (.inr (.inl h)) hc
      have h3 : bAt s.1 b = false := by cases h : bAt s.1 b with
        | false => rfl
        | true => exact absurd (.inr (.inr h)) hc
      have hb : b < s.1.length := by rw [hs]; exact taken_lt h2
      have ih := markI_iff (img := img) (l := l) (s := (s.1.set b true, s.2 + 1)) (by simpa using hs)
      rw [e]
      refine ⟨ih.1.trans ⟨fun h => ⟨fun k hk => ?_, List.nodup_cons.2 ⟨fun hm => ?_, h.2⟩⟩, fun h => ⟨fun k hk => ?_, (List.nodup_cons.1 h.2).2⟩⟩, fun t ht k => ?_⟩
      · rcases List.mem_cons.1 hk with rfl | hk
        · exact ⟨h1, h2, h3⟩
        · have := h.1 k hk
          have h5 := this.2.2
          rw [bAt_set hb] at h5
          split at h5
          · cases h5
          · exact ⟨this.1, this.2.1, h5⟩
      · have := (h.1 b hm).2.2
        rw [bAt_set hb, if_pos rfl] at this
        cases this
      · have := h.1 k (List.mem_cons_of_mem _ hk)
        refine ⟨this.1, this.2.1, ?_⟩
        have hne : k ≠ b := fun e => (List.nodup_cons.1 h.2).1 (e ▸ hk)
        rw [bAt_set hb, if_neg hne]
        exact this.2.2
      · rw [ih.2 t ht k, bAt_set hb]
        by_cases hkb : k = b
        · subst hkb; simp
        · rw [if_neg hkb]
          have : (k ∈ b :: l) ↔ k ∈ l := by simp [hkb]
          simp only [this]

/-- The inodes below C, looked at one behind the other. -/
def soundTo (img : List ByteArray) : Nat → Option (List Bool × Nat)
  | 0 => some (List.replicate img.length false, 0)
  | i + 1 => (soundTo img i).bind fun s => if isFormI img (recI img i) then markI img (namedR (recI img i)) s else none
def soundI (img : List ByteArray) : Bool := decide (FitA img) && match soundTo img (cntA img.length) with
  | none => false
  | some s => decide ((s.2 : Int) = (img.length : Int) - (firstA img.length : Int) - ((freeA img).length : Int))
theorem soundTo_none {img : List ByteArray} {i : Nat} (h : soundTo img i = none) : ∀ {C : Nat}, i ≤ C → soundTo img C = none := by
  intro C hC
  induction C with
  | zero => obtain rfl : i = 0 := by omega
            exact h
  | succ C ih =>
    rcases Nat.lt_or_ge C i with h1 | h1
    · obtain rfl : i = C + 1 := by omega
      exact h
    · rw [soundTo, ih h1]; rfl
/-- All blocks that inodes below C name. -/
def allNamed (img : List ByteArray) (C : Nat) : List Nat := (List.range C).flatMap fun i => namedR (recI img i)
theorem allNamed_succ (img : List ByteArray) (C : Nat) : allNamed img (C + 1) = allNamed img C ++ namedR (recI img C) := by simp [allNamed, List.range_succ]
theorem soundTo_eq (img : List ByteArray) : ∀ C, soundTo img C = if ∀ i, i < C → isFormI img (recI img i) = true then markI img (allNamed img C) (List.replicate img.length false, 0) else none
  | 0 => by rw [if_pos (fun i hi => by omega)]; rfl
  | C + 1 => by
    rw [soundTo, soundTo_eq img C, allNamed_succ, markI_app]
    by_cases h1 : ∀ i, i < C → isFormI img (recI img i) = true
    · rw [if_pos h1]
      by_cases h2 : isFormI img (recI img C) = true
      · rw [if_pos (fun i hi => by
          rcases Nat.lt_or_ge i C with h | h
          · exact h1 i h
          · obtain rfl : i = C := by omega
            exact h2)]
        congr 1
        funext s
        rw [if_pos h2]
      · rw [if_neg (fun h => h2 (h C (by omega)))]
        have : (fun s : List Bool × Nat => if isFormI img (recI img C) = true then markI img (namedR (recI img C)) s else none) = fun _ => none := by funext s; rw [if_neg h2]
        rw [this]
        cases markI img (allNamed img C) (List.replicate img.length false, 0) <;> rfl
    · rw [if_neg h1, if_neg (fun h => h1 fun i hi => h i (by omega))]; rfl

/-- The blocks behind the inodes that are taken. -/
def takenL (img : List ByteArray) : List Nat := (List.range img.length).filter fun k => decide (firstA img.length ≤ k) && bitA (blk img 1) k
theorem takenL_mem {img : List ByteArray} {k : Nat} : k ∈ takenL img ↔ k < img.length ∧ firstA img.length ≤ k ∧ bitA (blk img 1) k = true := by
  unfold takenL
  simp [List.mem_filter]
theorem takenL_nodup (img : List ByteArray) : (takenL img).Nodup := List.nodup_range.sublist List.filter_sublist
theorem filter_split (p q : Nat → Bool) : ∀ l : List Nat, (l.filter fun k => p k && q k).length + (l.filter fun k => p k && !q k).length = (l.filter p).length
  | [] => rfl
  | a :: l => by
    have ih := filter_split p q l
    simp only [List.filter_cons]
    cases p a <;> cases q a <;> simp <;> omega
theorem range_from (f n : Nat) : ((List.range n).filter fun k => decide (f ≤ k)).length = n - f := by
  induction n with
  | zero => simp
  | succ n ih =>
    rw [List.range_succ, List.filter_append, List.length_append, ih]
    by_cases h : f ≤ n
    · simp [h]; omega
    · simp [h]; omega
theorem takenL_len (img : List ByteArray) : (takenL img).length + (freeA img).length = img.length - firstA img.length := by
  rw [← range_from]
  exact filter_split _ _ _
theorem takenA_nat {img : List ByteArray} {k : Nat} : takenA img k = true ↔ k < img.length ∧ bitA (blk img 1) k = true := by
  unfold takenA
  rw [Bool.and_eq_true, decide_eq_true_eq, Int.toNat_natCast]
  exact ⟨fun h => ⟨by have := h.1; omega, h.2⟩, fun h => ⟨⟨by omega, by have := h.1; omega⟩, h.2⟩⟩
theorem sub_len : ∀ {L T : List Nat}, L.Nodup → (∀ a ∈ L, a ∈ T) → L.length ≤ T.length
  | [], _, _, _ => Nat.zero_le _
  | a :: L, T, hn, hs => by
    have ha := hs a List.mem_cons_self
    have ih := sub_len (L := L) (T := T.erase a) (List.nodup_cons.1 hn).2 fun b hb => by
      have hne : b ≠ a := fun e => (List.nodup_cons.1 hn).1 (e ▸ hb)
      exact (List.mem_erase_of_ne hne).2 (hs b (List.mem_cons_of_mem _ hb))
    rw [List.length_erase_of_mem ha] at ih
    have : 0 < T.length := List.length_pos_of_mem ha
    rw [List.length_cons]; omega
theorem sub_full : ∀ {L T : List Nat}, L.Nodup → (∀ a ∈ L, a ∈ T) → T.length ≤ L.length → ∀ b ∈ T, b ∈ L := by
  intro L T hn hs hl b hb
  apply Classical.byContradiction
  intro hnb
  have := sub_len (L := b :: L) (T := T) (List.nodup_cons.2 ⟨hnb, hn⟩) fun a ha => by
    rcases List.mem_cons.1 ha with rfl | ha
    · exact hb
    · exact hs a ha
  rw [List.length_cons] at this; omega
/-- WHICH IMAGES CAN BE. -/
structure SoundP (img : List ByteArray) : Prop where
  fit : FitA img
  form : ∀ i, i < cntA img.length → isFormI img (recI img i) = true
  named : ∀ b ∈ allNamed img (cntA img.length), firstA img.length ≤ b ∧ takenA img b = true
  once : (allNamed img (cntA img.length)).Nodup
  all : ∀ b, firstA img.length ≤ b → takenA img b = true → b ∈ allNamed img (cntA img.length)
theorem soundI_iff (img : List ByteArray) : soundI img = true ↔ SoundP img := by
  unfold soundI
  rw [Bool.and_eq_true, decide_eq_true_eq]
  have hmem : ∀ b, bAt (List.replicate img.length false) b = false := fun b => by
    unfold bAt
    rw [List.getD_eq_getElem?_getD, List.getElem?_replicate]
    split <;> rfl
  constructor
  · rintro ⟨hf, h⟩
    rw [soundTo_eq] at h
    by_cases hform : ∀ i, i < cntA img.length → isFormI img (recI img i) = true
    · rw [if_pos hform] at h
      have hm := markI_iff (img := img) (l := allNamed img (cntA img.length)) (s := (List.replicate img.length false, 0)) (by simp)
      cases hmk : markI img (allNamed img (cntA img.length)) (List.replicate img.length false, 0) with
      | none => rw [hmk] at h; cases h
      | some t =>
        rw [hmk] at h
        have h : (t.2 : Int) = (img.length : Int) - (firstA img.length : Int) - ((freeA img).length : Int) := by simpa using h
        obtain ⟨h1, h2⟩ := hm.1.1 ⟨t, hmk⟩
        have h3 := (markI_len hmk).2
        have h4 := takenL_len img
        have hfl := (first_le hf.1.1 hf.1.2).2.2.1
        simp only [Nat.zero_add] at h3
        refine ⟨hf, hform, fun b hb => ⟨(h1 b hb).1, (h1 b hb).2.1⟩, h2, fun b hb1 hb2 => ?_⟩
        refine sub_full h2 (T := takenL img) (fun a ha => takenL_mem.2 ?_) (by omega) b (takenL_mem.2 ?_)
        · have := h1 a ha
          have h5 := takenA_nat.1 this.2.1
          exact ⟨h5.1, this.1, h5.2⟩
        · have h5 := takenA_nat.1 hb2
          exact ⟨h5.1, hb1, h5.2⟩
    · rw [if_neg hform] at h; cases h
  · intro h
    refine ⟨h.fit, ?_⟩
    rw [soundTo_eq, if_pos h.form]
    have hm := markI_iff (img := img) (l := allNamed img (cntA img.length)) (s := (List.replicate img.length false, 0)) (by simp)
    obtain ⟨t, ht⟩ := hm.1.2 ⟨fun b hb => ⟨(h.named b hb).1, (h.named b hb).2, hmem b⟩, h.once⟩
    rw [ht]
    have h3 := (markI_len ht).2
    have h4 := takenL_len img
    have hfl := (first_le h.fit.1.1 h.fit.1.2).2.2.1
    simp only [Nat.zero_add] at h3
    have h5 : (allNamed img (cntA img.length)).length ≤ (takenL img).length := sub_len h.once fun a ha => takenL_mem.2 (by
      have := h.named a ha
      have h6 := takenA_nat.1 this.2
      exact ⟨h6.1, this.1, h6.2⟩)
    have h6 : (takenL img).length ≤ (allNamed img (cntA img.length)).length := sub_len (takenL_nodup img) fun a ha => by
      have := takenL_mem.1 ha
      exact h.all a this.2.1 (takenA_nat.2 ⟨this.1, this.2.2⟩)
    simp only [decide_eq_true_eq]
    omega

end Go.Proofs.YtpdfkakhahfcjaaGreat

/-
  The shape of an inode, as the document's own answer looks at it, and as the program does.
-/
namespace Go.Proofs.YtpdfkakhahfcjaaGreat
open Go.RowKit

theorem zeroN_toList (k : Nat) : (zeroN k).data.toList = List.replicate k 0 := by
  show (Lib.repeatL [0] k).toArray.toList = _
  rw [List.toList_toArray]
  induction k with
  | zero => rfl
  | succ k ih => rw [Lib.repeatL, ih]; rfl
theorem zeroN_mkB (k : Nat) : zeroN k = mkB (List.replicate k 0) := by
  apply ByteArray.ext
  apply Array.ext'
  rw [zeroN_toList]; simp [mkB]
theorem mkB_inj {a b : List UInt8} : mkB a = mkB b ↔ a = b := by
  constructor
  · intro h
    have := congrArg (fun s : ByteArray => s.data.toList) h
    simpa [mkB] using this
  · rintro rfl; rfl
theorem mkB_toList (s : ByteArray) : mkB s.data.toList = s := by
  apply ByteArray.ext
  apply Array.ext'
  simp [mkB]
theorem all_zero {l : List UInt8} {n : Nat} (hl : l.length = n) : l = List.replicate n 0 ↔ ∀ j, j < n → l.getD j 0 = 0 := by
  constructor
  · intro h j hj
    rw [h, List.getD_eq_getElem?_getD, List.getElem?_replicate, if_pos hj]; rfl
  · intro h
    refine List.ext_getElem (by simp [hl]) fun j h1 h2 => ?_
    have := h j (by omega)
    rw [List.getD_eq_getElem?_getD, List.getElem?_eq_getElem h1] at this
    simpa using this
theorem pad_iff {l : List Nat} {k q : Nat} (hl : l.length = k) : l = padN k (l.take q) ↔ ∀ j, q ≤ j → j < k → l.getD j 0 = 0 := by
  unfold padN
  rw [List.length_take]
  constructor
  · intro h j h1 h2
    rw [h, List.getD_eq_getElem?_getD, List.getElem?_append_right (by rw [List.length_take]; omega), List.getElem?_replicate]
    split <;> rfl
  · intro h
    refine List.ext_getElem (by simp [hl]; omega) fun j h1 h2 => ?_
    rcases Nat.lt_or_ge j q with hj | hj
    · rw [List.getElem_append_left (by rw [List.length_take]; omega), List.getElem_take]
    · have := h j hj (by omega)
      rw [List.getD_eq_getElem?_getD, List.getElem?_eq_getElem h1] at this
      rw [List.getElem_append_right (by rw [List.length_take]; omega), List.getElem_replicate]
      simpa using this
theorem blkI_fit {img : List ByteArray} (h : FitA img) {i : Nat} (hi : i < img.length) : blkI img i = blk img i := by
  have e : blk img i = img[i] := by unfold blk; rw [List.getD_eq_getElem?_getD, List.getElem?_eq_getElem hi]; rfl
  exact if_pos ⟨hi, by rw [e]; exact h.2.1 _ (List.getElem_mem hi)⟩
theorem blk_fit_size {img : List ByteArray} (h : FitA img) {i : Nat} (hi : i < img.length) : (blk img i).size = 128 := by
  rw [← blkI_fit h hi]; exact blkI_size img i

/-- What is behind the last listed block's place; what is behind the inode's end. -/
def tailW (img : List ByteArray) (r : RecI) : List UInt8 := (blk img r.ind).data.toList.drop (2 * (needN r.size - 4))
def tailD (img : List ByteArray) (r : RecI) : List UInt8 := (blk img ((dataR r).getD (needN r.size - 1) 0)).data.toList.drop (r.size - (needN r.size - 1) * 128)
def shapedR (img : List ByteArray) (s : ByteArray) (r : RecI) : Bool :=
  if s = zeroN 32 then true else
  if (r.kind ≠ 1 ∧ r.kind ≠ 2) ∨ 8704 < r.size ∨ textR r ≠ s ∨ decide (4 < needN r.size) ≠ decide (0 < r.ind) ∨ img.length ≤ r.ind then false else
  if (∀ k : Nat, k < 4 → (decide (k < needN r.size) = decide (0 < r.bl.getD k 0))) then
    if 4 < needN r.size then decide (tailW img r = List.replicate (tailW img r).length 0) else true
  else false
def tailR (img : List ByteArray) (r : RecI) : Bool := if 0 < needN r.size then decide (tailD img r = List.replicate (tailD img r).length 0) else true

theorem rec_ls {img : List ByteArray} {i : Nat} (h : (recI img i).ind = 0) : (recI img i).ls = List.replicate 64 0 := if_pos h
theorem rec_ls2 {img : List ByteArray} {i : Nat} (h : (recI img i).ind ≠ 0) : (recI img i).ls = (List.range 64).map (wordN (blkI img (recI img i).ind)) := if_neg h
theorem rec_zero {img : List ByteArray} {i : Nat} (h : rawI img i = zeroN 32) : (recI img i).kind = 0 ∧ (recI img i).size = 0 := by
  have hb : ∀ k, byA (rawI img i) k = 0 := fun k => by
    rw [h]
    unfold byA
    rw [zeroN_toList, List.getD_eq_getElem?_getD, List.getElem?_replicate]
    split <;> rfl
  constructor
  · show byA _ 0 = 0; exact hb 0
  · show 65536 * w2 _ 1 + w2 _ 3 = 0
    unfold w2
    rw [hb, hb, hb, hb]
theorem word_zero {s : ByteArray} (hs : s.size = 128) {q : Nat} (hq : q ≤ 64) : (∀ j, q ≤ j → j < 64 → wordN s j = 0) ↔ s.data.toList.drop (2 * q) = List.replicate (s.data.toList.drop (2 * q)).length 0 := by
  have hl : s.data.toList.length = 128 := by simpa using hs
  have hd : (s.data.toList.drop (2 * q)).length = 128 - 2 * q := by rw [List.length_drop, hl]
  rw [all_zero rfl, hd]
  have hget : ∀ k, (s.data.toList.drop (2 * q)).getD k 0 = s.data.toList.getD (2 * q + k) 0 := fun k => by
    rw [List.getD_eq_getElem?_getD, List.getD_eq_getElem?_getD, List.getElem?_drop]
  have hz : ∀ k, s.data.toList.getD k 0 = 0 ↔ byA s k = 0 := fun k => by
    unfold byA
    exact ⟨fun h => by rw [h]; rfl, fun h => UInt8.toNat_inj.1 h⟩
  constructor
  · intro h k hk
    rw [hget, hz]
    have := h ((2 * q + k) / 2) (by omega) (by omega)
    unfold wordN at this
    rcases Nat.mod_two_eq_zero_or_one k with e | e
    · rw [show 2 * ((2 * q + k) / 2) = 2 * q + k by omega] at this; omega
    · rw [show 2 * ((2 * q + k) / 2) + 1 = 2 * q + k by omega] at this; omega
  · intro h j h1 h2
    unfold wordN
    have e1 := h (2 * j - 2 * q) (by omega)
    have e2 := h (2 * j + 1 - 2 * q) (by omega)
    rw [hget, hz, show 2 * q + (2 * j - 2 * q) = 2 * j by omega] at e1
    rw [hget, hz, show 2 * q + (2 * j + 1 - 2 * q) = 2 * j + 1 by omega] at e2
    omega
/-- What is behind the end, as a list of all blocks and in the last one alone. -/
theorem flat_tail {img : List ByteArray} {r : RecI} (hr : OkR r) (hn : 0 < needN r.size) (hs : r.size ≤ 8704) : (flatR img r).drop r.size = (blkI img ((dataR r).getD (needN r.size - 1) 0)).data.toList.drop (r.size - (needN r.size - 1) * 128) := by
  have hl : (dataR r).length = needN r.size := by rw [dataR_length hr]; unfold needN; omega
  have hN : (needN r.size - 1) * 128 < r.size ∧ r.size ≤ needN r.size * 128 := by unfold needN at hn ⊢; omega
  generalize needN r.size = n at *
  unfold flatR
  generalize dataR r = l at *
  obtain ⟨l0, b, rfl⟩ : ∃ l0 b, l = l0 ++ [b] := by
    rcases List.eq_nil_or_concat l with h | ⟨l0, b, h⟩
    · subst h; simp at hl; omega
    · exact ⟨l0, b, by simpa using h⟩
  have hl0 : l0.length = n - 1 := by simp at hl; omega
  rw [List.flatMap_append, List.getD_eq_getElem?_getD, List.getElem?_append_right (by omega), hl0, Nat.sub_self]
  have hf := flatI_length img l0
  rw [hl0] at hf
  rw [List.drop_append, List.drop_of_length_le (by omega), hf]
  simp only [List.nil_append, List.flatMap_cons, List.flatMap_nil, List.append_nil, List.getElem?_cons_zero, Option.getD_some]
  rw [Nat.mul_comm]
theorem form_iff {img : List ByteArray} (hf : FitA img) {i : Nat} (hi : i ≤ 1024) (h : ∀ b ∈ namedR (recI img i), firstA img.length ≤ b ∧ b < img.length) :
    isFormI img (recI img i) = true ↔ shapedR img (rawI img i) (recI img i) = true ∧ tailR img (recI img i) = true := by
  have hr := recI_ok img i hi
  have hF := (first_le hf.1.1 hf.1.2).1
  by_cases hz : rawI img i = zeroN 32
  · have h0 := rec_zero hz
    have e1 : isFormI img (recI img i) = true := by
      unfold isFormI
      rw [if_pos h0.1]
      exact decide_eq_true hz
    have e2 : shapedR img (rawI img i) (recI img i) = true := by unfold shapedR; rw [if_pos hz]
    have e3 : tailR img (recI img i) = true := by
      unfold tailR
      rw [h0.2]; rfl
    simp [e1, e2, e3]
  · have hls0 := fun h => rec_ls (img := img) (i := i) h
    have hls1 := fun h => rec_ls2 (img := img) (i := i) h
    have hnum : (recI img i).num = i := rfl
    unfold isFormI shapedR
    rw [if_neg hz, hnum]
    generalize recI img i = r at *
    by_cases h0 : r.kind = 0
    · rw [if_pos h0, if_pos (.inl (by omega))]
      simp [hz]
    rw [if_neg h0]
    by_cases hk : r.kind = 1 ∨ r.kind = 2
    rotate_left
    · rw [if_neg hk, if_pos (.inl (by omega))]
      simp
    rw [if_pos hk]
    by_cases hsz : 8704 < r.size
    · rw [if_pos hsz, if_pos (.inr (.inl hsz))]
      simp
    rw [if_neg hsz]
    have hneed : needN r.size ≤ 68 := by unfold needN; omega
    have hlen : (dataR r).length = needN r.size := by rw [dataR_length hr]; omega
    have hdata : ∀ k, k < needN r.size → 0 < (dataR r).getD k 0 := fun k hk => by
      have hm : (dataR r).getD k 0 ∈ namedR r := by
        refine List.mem_append_left _ ?_
        rw [List.getD_eq_getElem?_getD, List.getElem?_eq_getElem (by omega)]
        exact List.getElem_mem _
      have := h _ hm
      omega
    have hdl : (dataR r).getD (needN r.size - 1) 0 < img.length ∨ needN r.size = 0 := by
      rcases Nat.eq_zero_or_pos (needN r.size) with e | e
      · exact .inr e
      · left
        have hm : (dataR r).getD (needN r.size - 1) 0 ∈ namedR r := by
          refine List.mem_append_left _ ?_
          rw [List.getD_eq_getElem?_getD, List.getElem?_eq_getElem (by omega)]
          exact List.getElem_mem _
        exact (h _ hm).2
    have hind : r.ind < img.length := by
      by_cases e : r.ind = 0
      · rw [e]; have := hf.1; omega
      · exact (h r.ind (by unfold namedR; rw [if_neg e]; simp)).2
    have hbl : ∀ k, k < 4 → k < needN r.size → (dataR r).getD k 0 = r.bl.getD k 0 := fun k h4 hk => by
      unfold dataR
      rw [List.getD_eq_getElem?_getD, List.getD_eq_getElem?_getD, List.getElem?_take, if_pos hk, List.getElem?_append_left (by rw [hr.bl]; exact h4)]
    by_cases hx : (decide (4 < needN r.size) = decide (0 < r.ind))
    rotate_left
    · have : (((r.ind : Int) != 0) != decide (4 < needN r.size)) = true := by
        have e : ((r.ind : Int) != 0) = decide (0 < r.ind) := by
          by_cases e : r.ind = 0
          · rw [e]; rfl
          · have h1 : ((r.ind : Int) != 0) = true := by rw [bne_iff_ne]; omega
            rw [h1, eq_comm, decide_eq_true_eq]; omega
        rw [e, bne_iff_ne]
        exact fun e => hx e.symm
      rw [if_pos this, if_pos (.inr (.inr (.inr (.inl hx))))]
      simp
    have hx1 : ¬ (((r.ind : Int) != 0) != decide (4 < needN r.size)) = true := by
      have e : ((r.ind : Int) != 0) = decide (0 < r.ind) := by
        by_cases e : r.ind = 0
        · rw [e]; rfl
        · have h1 : ((r.ind : Int) != 0) = true := by rw [bne_iff_ne]; omega
          rw [h1, eq_comm, decide_eq_true_eq]; omega
      rw [e, hx]; simp
    rw [if_neg hx1]
    have hxi : 4 < needN r.size ↔ 0 < r.ind := by simpa using hx
    by_cases ht : textR r = rawI img i
    rotate_left
    · rw [if_pos (show (r.kind ≠ 1 ∧ r.kind ≠ 2) ∨ 8704 < r.size ∨ textR r ≠ rawI img i ∨ decide (4 < needN r.size) ≠ decide (0 < r.ind) ∨ img.length ≤ r.ind from .inr (.inr (.inl ht)))]
      by_cases hn : (!decide (r = nameR r r.size (dataR r) r.ind)) = true
      · rw [if_pos hn]; simp
      · rw [if_neg hn, if_pos ht]; simp
    rw [if_neg (show ¬ ((r.kind ≠ 1 ∧ r.kind ≠ 2) ∨ 8704 < r.size ∨ textR r ≠ rawI img i ∨ decide (4 < needN r.size) ≠ decide (0 < r.ind) ∨ img.length ≤ r.ind) by
      rintro (⟨h1, h2⟩ | h1 | h1 | h1 | h1)
      · omega
      · omega
      · exact h1 ht
      · exact h1 hx
      · omega)]
    have hname : (r = nameR r r.size (dataR r) r.ind) ↔ (∀ k, k < 4 → decide (k < needN r.size) = decide (0 < r.bl.getD k 0)) ∧ (4 < needN r.size → tailW img r = List.replicate (tailW img r).length 0) := by
      have e : (r = nameR r r.size (dataR r) r.ind) ↔ r.bl = padN 4 ((dataR r).take 4) ∧ r.ls = padN 64 (((dataR r).drop 4).take 64) := by
        constructor
        · intro e
          exact ⟨congrArg RecI.bl e, congrArg RecI.ls e⟩
        · rintro ⟨e1, e2⟩
          unfold nameR
          rw [← e1, ← e2]
      rw [e]
      have e1 : (dataR r).take 4 = r.bl.take (needN r.size) := by
        unfold dataR
        rw [List.take_take]
        rcases Nat.lt_or_ge 4 (needN r.size) with h4 | h4
        · rw [Nat.min_eq_left (by omega), List.take_append_of_le_length (by rw [hr.bl]; exact Nat.le_refl _), List.take_of_length_le (by rw [hr.bl]; exact Nat.le_refl _), List.take_of_length_le (by rw [hr.bl]; omega)]
        · rw [Nat.min_eq_right h4, List.take_append_of_le_length (by rw [hr.bl]; exact h4)]
      have e2 : ((dataR r).drop 4).take 64 = r.ls.take (needN r.size - 4) := by
        unfold dataR
        rw [List.drop_take, List.drop_append_of_le_length (by rw [hr.bl]; exact Nat.le_refl _), List.drop_of_length_le (by rw [hr.bl]; exact Nat.le_refl _), List.nil_append, List.take_take, Nat.min_eq_right (by omega)]
      rw [e1, e2, pad_iff hr.bl, pad_iff hr.ls]
      refine and_congr ⟨fun hh k hk => ?_, fun hh k h1 h2 => ?_⟩ ⟨fun hh h4 => ?_, fun hh k h1 h2 => ?_⟩
      · rw [decide_eq_decide]
        constructor
        · intro h1; rw [← hbl k hk h1]; exact hdata k h1
        · intro h1
          rcases Nat.lt_or_ge k (needN r.size) with h2 | h2
          · exact h2
          · rw [hh k h2 hk] at h1; omega
      · have := hh k h2
        rw [decide_eq_decide] at this
        omega
      · have hne : r.ind ≠ 0 := by omega
        unfold tailW
        rw [← blkI_fit hf hind]
        refine (word_zero (blkI_size img r.ind) (by omega)).1 fun j h1 h2 => ?_
        have := hh j h1 h2
        rw [hls1 hne, List.getD_eq_getElem?_getD, List.getElem?_map, List.getElem?_range h2] at this
        simpa using this
      · by_cases hne : r.ind = 0
        · rw [hls0 hne, List.getD_eq_getElem?_getD, List.getElem?_replicate]
          split <;> rfl
        · have h4 : 4 < needN r.size := by omega
          have := hh h4
          unfold tailW at this
          rw [← blkI_fit hf hind] at this
          have := (word_zero (blkI_size img r.ind) (q := needN r.size - 4) (by omega)).2 this k h1 h2
          rw [hls1 hne, List.getD_eq_getElem?_getD, List.getElem?_map, List.getElem?_range h2]
          simpa using this
    have htail : mkB ((flatR img r).drop r.size) = zeroN ((flatR img r).length - r.size) ↔ tailR img r = true := by
      unfold tailR
      rw [zeroN_mkB, mkB_inj]
      rcases Nat.eq_zero_or_pos (needN r.size) with e | e
      · rw [if_neg (by omega)]
        have : flatR img r = [] := by
          unfold flatR
          rw [List.eq_nil_of_length_eq_zero (l := dataR r) (by omega)]; rfl
        simp [this]
      · rw [if_pos e, decide_eq_true_eq]
        have hdl := hdl.resolve_right (by omega)
        have hft := flat_tail (img := img) hr e (by omega)
        have hfl : ((flatR img r).drop r.size).length = (flatR img r).length - r.size := List.length_drop
        rw [← hfl, hft, blkI_fit hf hdl]
        exact Iff.rfl
    have htx : ¬ (textR r ≠ rawI img i) := fun h => h ht
    by_cases hnm : r = nameR r r.size (dataR r) r.ind
    · have hnm2 := hname.1 hnm
      rw [if_neg (show ¬ (!decide (r = nameR r r.size (dataR r) r.ind)) = true by rw [decide_eq_true hnm]; decide), if_neg htx, if_pos hnm2.1, decide_eq_true_eq, htail]
      by_cases h4 : 4 < needN r.size
      · rw [if_pos h4, decide_eq_true (hnm2.2 h4)]; simp
      · rw [if_neg h4]; simp
    · rw [if_pos (by rw [decide_eq_false hnm]; rfl)]
      by_cases h1 : ∀ k, k < 4 → decide (k < needN r.size) = decide (0 < r.bl.getD k 0)
      · rw [if_pos h1]
        by_cases h4 : 4 < needN r.size
        · rw [if_pos h4]
          have : ¬ tailW img r = List.replicate (tailW img r).length 0 := fun h => hnm (hname.2 ⟨h1, fun _ => h⟩)
          rw [decide_eq_false this]; simp
        · exact absurd (hname.2 ⟨h1, fun h => absurd h h4⟩) hnm
      · rw [if_neg h1]; simp

/-- The inodes below C, as the document's answer looks at them. -/
def refTo (img : List ByteArray) : Nat → Option (List Bool)
  | 0 => some (List.replicate img.length false)
  | i + 1 => (refTo img i).bind fun m => if shapedR img (rawI img i) (recI img i) then (markI img (namedR (recI img i)) (m, 0)).bind fun t => if tailR img (recI img i) then some t.1 else none else none
def soundR (img : List ByteArray) : Bool := decide (FitA img) && match refTo img (cntA img.length) with
  | none => false
  | some m => decide (∀ b, b < img.length → firstA img.length ≤ b → takenA img b = true → bAt m b = true)
theorem refTo_none {img : List ByteArray} {i : Nat} (h : refTo img i = none) : ∀ {C : Nat}, i ≤ C → refTo img C = none := by
  intro C hC
  induction C with
  | zero => obtain rfl : i = 0 := by omega
            exact h
  | succ C ih =>
    rcases Nat.lt_or_ge C i with h1 | h1
    · obtain rfl : i = C + 1 := by omega
      exact h
    · rw [refTo, ih h1]; rfl
theorem markI_count (img : List ByteArray) : ∀ (l : List Nat) (m : List Bool) (a b : Nat), (markI img l (m, a)).map (·.1) = (markI img l (m, b)).map (·.1)
  | [], _, _, _ => rfl
  | x :: l, m, a, b => by
    simp only [markI]
    split
    · rfl
    · exact markI_count img l _ _ _
theorem refTo_eq (img : List ByteArray) : ∀ C, refTo img C = if ∀ i, i < C → shapedR img (rawI img i) (recI img i) = true ∧ tailR img (recI img i) = true then (markI img (allNamed img C) (List.replicate img.length false, 0)).map (·.1) else none
  | 0 => by rw [if_pos (fun i hi => by omega)]; rfl
  | C + 1 => by
    rw [refTo, refTo_eq img C, allNamed_succ, markI_app]
    by_cases h1 : ∀ i, i < C → shapedR img (rawI img i) (recI img i) = true ∧ tailR img (recI img i) = true
    · rw [if_pos h1]
      cases hm : markI img (allNamed img C) (List.replicate img.length false, 0) with
      | none => simp
      | some t =>
        obtain ⟨m, a⟩ := t
        simp only [Option.map_some, Option.bind_some]
        by_cases h2 : shapedR img (rawI img C) (recI img C) = true
        · rw [if_pos h2]
          by_cases h3 : tailR img (recI img C) = true
          · rw [if_pos (fun i hi => by
              rcases Nat.lt_or_ge i C with h | h
              · exact h1 i h
              · obtain rfl : i = C := by omega
                exact ⟨h2, h3⟩)]
            have := markI_count img (namedR (recI img C)) m 0 a
            rw [← this]
            cases markI img (namedR (recI img C)) (m, 0) with
            | none => rfl
            | some t => simp [h3]
          · rw [if_neg (fun h => h3 (h C (by omega)).2)]
            cases markI img (namedR (recI img C)) (m, 0) with
            | none => rfl
            | some t => simp [h3]
        · rw [if_neg h2, if_neg (fun h => h2 (h C (by omega)).1)]
    · rw [if_neg h1, if_neg (fun h => h1 fun i hi => h i (by omega))]; rfl
theorem named_all {img : List ByteArray} {C i : Nat} (hi : i < C) {b : Nat} (hb : b ∈ namedR (recI img i)) : b ∈ allNamed img C := List.mem_flatMap.2 ⟨i, List.mem_range.2 hi, hb⟩
theorem soundR_iff (img : List ByteArray) : soundR img = true ↔ SoundP img := by
  unfold soundR
  rw [Bool.and_eq_true, decide_eq_true_eq]
  have hmem : ∀ b, bAt (List.replicate img.length false) b = false := fun b => by
    unfold bAt
    rw [List.getD_eq_getElem?_getD, List.getElem?_replicate]
    split <;> rfl
  have hm := markI_iff (img := img) (l := allNamed img (cntA img.length)) (s := (List.replicate img.length false, 0)) (by simp)
  constructor
  · rintro ⟨hf, h⟩
    have hC := (first_le hf.1.1 hf.1.2).2.2.2.1
    rw [refTo_eq] at h
    by_cases hform : ∀ i, i < cntA img.length → shapedR img (rawI img i) (recI img i) = true ∧ tailR img (recI img i) = true
    · rw [if_pos hform] at h
      cases hmk : markI img (allNamed img (cntA img.length)) (List.replicate img.length false, 0) with
      | none => rw [hmk] at h; cases h
      | some t =>
        rw [hmk] at h
        have h : ∀ b, b < img.length → firstA img.length ≤ b → takenA img b = true → bAt t.1 b = true := by simpa using h
        obtain ⟨h1, h2⟩ := hm.1.1 ⟨t, hmk⟩
        refine ⟨hf, fun i hi => (form_iff hf (by omega) fun b hb => ?_).2 (hform i hi), fun b hb => ⟨(h1 b hb).1, (h1 b hb).2.1⟩, h2, fun b hb1 hb2 => ?_⟩
        · have := h1 b (named_all hi hb)
          exact ⟨this.1, taken_lt this.2.1⟩
        · have := h b (taken_lt hb2) hb1 hb2
          rw [hm.2 t hmk b, hmem b] at this
          simpa using this
    · rw [if_neg hform] at h; cases h
  · intro h
    have hC := (first_le h.fit.1.1 h.fit.1.2).2.2.2.1
    refine ⟨h.fit, ?_⟩
    rw [refTo_eq, if_pos (fun i hi => (form_iff h.fit (by omega) fun b hb => (by
      have := h.named b (named_all hi hb)
      exact ⟨this.1, taken_lt this.2⟩)).1 (h.form i hi))]
    obtain ⟨t, ht⟩ := hm.1.2 ⟨fun b hb => ⟨(h.named b hb).1, (h.named b hb).2, hmem b⟩, h.once⟩
    rw [ht]
    show decide _ = true
    rw [decide_eq_true_eq]
    intro b hb1 hb2 hb3
    rw [hm.2 t ht b, hmem b]
    simpa using h.all b hb2 hb3
theorem soundR_eq (img : List ByteArray) : soundR img = soundI img := by
  rw [Bool.eq_iff_iff, soundR_iff, soundI_iff]

end Go.Proofs.YtpdfkakhahfcjaaGreat
