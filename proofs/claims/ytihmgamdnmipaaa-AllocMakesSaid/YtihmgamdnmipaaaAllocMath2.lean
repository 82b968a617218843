/-
  Blocks taken and given back, as plain lists.
-/
import Derived.Test.YtihmgamdnmipaaaAllocRefB
namespace Go.Proofs.Ytihmgamdnmipaaa
open Go.RowKit

theorem took_snoc (img : List ByteArray) (L : List Nat) (i : Nat) : tookA img (L ++ [i]) = take1A (tookA img L) i := by simp [tookA]
theorem blk_set_self {c : List ByteArray} {i : Nat} {s : ByteArray} (h : i < c.length) : blk (c.set i s) i = s := by
  unfold blk
  rw [List.getD_eq_getElem?_getD, List.getElem?_set, if_pos rfl, if_pos h]; rfl
theorem blk_set_ne {c : List ByteArray} {i j : Nat} {s : ByteArray} (h : i ≠ j) : blk (c.set i s) j = blk c j := by
  unfold blk
  rw [List.getD_eq_getElem?_getD, List.getElem?_set, if_neg h, List.getD_eq_getElem?_getD]
theorem turn1_length (c : List ByteArray) (i : Nat) : (turn1A c i).length = c.length := by simp [turn1A]
theorem take1_length (c : List ByteArray) (i : Nat) : (take1A c i).length = c.length := by simp [take1A, turn1_length]
theorem turn1_map {c : List ByteArray} (h : 2 ≤ c.length) (i : Nat) : blk (turn1A c i) 1 = flipA (blk c 1) i := blk_set_self (by omega)
theorem take1_map {c : List ByteArray} (h : 2 ≤ c.length) {i : Nat} (hi : 2 ≤ i) : blk (take1A c i) 1 = flipA (blk c 1) i := by
  unfold take1A; rw [blk_set_ne (by omega), turn1_map h]
theorem turn1_MapP {c : List ByteArray} (h : MapP c) (i : Nat) : MapP (turn1A c i) := ⟨by rw [turn1_length]; exact h.1, by rw [turn1_map (by have := h.1; omega), flipA_size]; exact h.2⟩
theorem take1_MapP {c : List ByteArray} (h : MapP c) {i : Nat} (hi : 2 ≤ i) : MapP (take1A c i) := ⟨by rw [take1_length]; exact h.1, by rw [take1_map (by have := h.1; omega) hi, flipA_size]; exact h.2⟩
theorem took_MapP {img : List ByteArray} (h : MapP img) : ∀ (L : List Nat), (∀ i ∈ L, 2 ≤ i) → MapP (tookA img L) ∧ (tookA img L).length = img.length ∧ blk (tookA img L) 1 = L.foldl flipA (blk img 1) := by
  intro L
  induction L generalizing img with
  | nil => intro _; exact ⟨h, rfl, rfl⟩
  | cons i L ih =>
    intro hL
    have h2 := ih (take1_MapP h (hL i (by simp))) (fun j hj => hL j (by simp [hj]))
    rw [show tookA img (i :: L) = tookA (take1A img i) L from rfl]
    refine ⟨h2.1, h2.2.1.trans (take1_length _ _), ?_⟩
    rw [h2.2.2, take1_map (by have := h.1; omega) (hL i (by simp))]
    rfl
theorem fold_size (m : ByteArray) : ∀ (L : List Nat), (L.foldl flipA m).size = m.size := by
  intro L
  induction L generalizing m with
  | nil => rfl
  | cons i L ih => rw [List.foldl_cons, ih, flipA_size]
theorem fold_bit : ∀ (L : List Nat) (m : ByteArray), L.Nodup → (∀ i ∈ L, i / 8 < m.size) → ∀ j, bitA (L.foldl flipA m) j = if j ∈ L then !bitA m j else bitA m j := by
  intro L
  induction L with
  | nil => intro m _ _ j; simp
  | cons i L ih =>
    intro m hn hL j
    rw [List.foldl_cons, ih _ (List.nodup_cons.1 hn).2 (fun k hk => by rw [flipA_size]; exact hL k (by simp [hk])) j, bit_flip _ _ _ (hL i (by simp))]
    have hi := (List.nodup_cons.1 hn).1
    by_cases h : j = i
    · subst h
      rw [if_neg hi, if_pos rfl, if_pos (by simp)]
    · by_cases h2 : j ∈ L
      · rw [if_pos h2, if_neg h, if_pos (by simp [h2])]
      · rw [if_neg h2, if_neg h, if_neg (by simp [h, h2])]
theorem freeTo_nodup (img : List ByteArray) (i : Nat) : (freeTo img i).Nodup := by
  unfold freeTo; exact (List.nodup_range).filter _
theorem freeTo_lt (img : List ByteArray) (i : Nat) : (freeTo img i).Pairwise (· < ·) := by
  unfold freeTo; exact (List.pairwise_lt_range).filter _
theorem setI_turn {c : List ByteArray} {i : Nat} (h : bitA (blk c 1) i = false) : setI c i true = turn1A c i := by unfold setI turn1A; rw [setA_yes h]
theorem setI_back {c : List ByteArray} {i : Nat} (h : bitA (blk c 1) i = true) : setI c i false = turn1A c i := by unfold setI turn1A; rw [setA_no h]
/-- While blocks are taken: those below i are. -/
theorem took_bit {img : List ByteArray} (h : MapP img) {L : List Nat} (hL : ∀ k ∈ L, 2 ≤ k ∧ k < 1024) (hn : L.Nodup) (j : Nat) : bitA (blk (tookA img L) 1) j = if j ∈ L then !bitA (blk img 1) j else bitA (blk img 1) j := by
  rw [(took_MapP h L (fun k hk => (hL k hk).1)).2.2]
  exact fold_bit L _ hn (fun k hk => by rw [h.2]; have := (hL k hk).2; omega) j
theorem free_in {img : List ByteArray} (h : MapP img) {i k : Nat} (hk : k ∈ freeTo img i) (hi : i ≤ img.length) : 2 ≤ k ∧ k < 1024 := by
  have := freeTo_mem.1 hk
  have := first_le h.1.1 h.1.2
  have := h.1
  omega
theorem free_took_bit {img : List ByteArray} (h : MapP img) {i : Nat} (hi : i ≤ img.length) (j : Nat) (hj : i ≤ j) : bitA (blk (tookA img (freeTo img i)) 1) j = bitA (blk img 1) j := by
  rw [took_bit h (fun k hk => free_in h hk hi) (freeTo_nodup _ _), if_neg (fun hm => by have := (freeTo_mem.1 hm).1; omega)]
theorem free_eq {img : List ByteArray} (n i : Nat) (hi : i ≤ img.length) (hn : n ≤ (freeA img).length) (hl : (freeTo img i).length ≤ n) (hx : i = img.length ∨ (freeTo img i).length = n) : freeTo img i = (freeA img).take n := by
  have hp : freeTo img i <+: freeA img := freeTo_pre hi
  have e : (freeTo img i).length = n := by
    rcases hx with h | h
    · subst h; unfold freeA at hn; omega
    · exact h
  rw [← e]
  exact (List.prefix_iff_eq_take.1 hp)

/-- An image with some of its free blocks taken can be. -/
theorem took_fit {img : List ByteArray} (h : FitA img) {n : Nat} : FitA (tookA img ((freeA img).take n)) := by
  have hm := h.map
  have hmem : ∀ k ∈ (freeA img).take n, firstA img.length ≤ k ∧ k < img.length ∧ bitA (blk img 1) k = false := fun k hk => by
    have := freeTo_mem.1 (List.mem_of_mem_take hk)
    exact ⟨this.2.1, this.1, this.2.2⟩
  have hf := first_le h.1.1 h.1.2
  have hin : ∀ k ∈ (freeA img).take n, 2 ≤ k ∧ k < 1024 := fun k hk => by have := hmem k hk; have := h.1; omega
  have hnd : ((freeA img).take n).Nodup := (freeTo_nodup img img.length).sublist (List.take_sublist _ _)
  have ht := took_MapP hm ((freeA img).take n) (fun k hk => (hin k hk).1)
  have hb := took_bit hm hin hnd
  generalize (freeA img).take n = L at hmem hin hnd ht hb
  have hblk : ∀ (L : List Nat) (c : List ByteArray), (∀ k ∈ L, 3 ≤ k) → (∀ s ∈ c, s.size = 128) → 2 ≤ c.length → (∀ s ∈ tookA c L, s.size = 128) ∧ blk (tookA c L) 0 = blk c 0 := by
    intro L
    induction L with
    | nil => intro c _ hc _; exact ⟨hc, rfl⟩
    | cons i L ih =>
      intro c hL hc h2
      have hc2 : ∀ s ∈ take1A c i, s.size = 128 := by
        intro s hs
        rcases List.mem_or_eq_of_mem_set hs with hs | rfl
        · rcases List.mem_or_eq_of_mem_set hs with hs | rfl
          · exact hc s hs
          · rw [flipA_size]; exact hc _ (List.mem_of_getElem? (blk_get (by omega)))
        · exact zeroB_size
      have := ih (take1A c i) (fun k hk => hL k (by simp [hk])) hc2 (by rw [take1_length]; exact h2)
      refine ⟨this.1, this.2.trans ?_⟩
      unfold take1A turn1A
      rw [blk_set_ne (by have := hL i (by simp); omega), blk_set_ne (by omega)]
  have h3 := hblk L img (fun k hk => by have := hmem k hk; omega) h.2.1 (by have := h.1; omega)
  refine ⟨by rw [ht.2.1]; exact h.1, h3.1, by rw [h3.2, ht.2.1]; exact h.2.2.1, fun b hb1 => ?_⟩
  rw [ht.2.1, hb]
  have := h.2.2.2 b hb1
  by_cases hm2 : b ∈ L
  · have h4 := hmem b hm2
    rw [if_pos hm2]
    exact ⟨fun hlt => by omega, fun hge => by omega⟩
  · rw [if_neg hm2]; exact this
theorem took_free {img : List ByteArray} (h : FitA img) {n : Nat} (hn : n ≤ (freeA img).length) : (freeA (tookA img ((freeA img).take n))).length = (freeA img).length - n := by
  have hm := h.map
  have hf := first_le h.1.1 h.1.2
  have hin : ∀ k ∈ (freeA img).take n, 2 ≤ k ∧ k < 1024 := fun k hk => free_in hm (List.mem_of_mem_take hk) (Nat.le_refl _)
  have hnd : ((freeA img).take n).Nodup := (freeTo_nodup img img.length).sublist (List.take_sublist _ _)
  have ht := took_MapP hm ((freeA img).take n) (fun k hk => (hin k hk).1)
  have hb := took_bit hm hin hnd
  have e : freeA (tookA img ((freeA img).take n)) = (freeA img).filter (fun k => decide (k ∉ (freeA img).take n)) := by
    unfold freeA at hb ⊢
    unfold freeTo at hb ⊢
    rw [List.filter_filter]
    unfold freeA freeTo at ht
    rw [ht.2.1]
    refine List.filter_congr fun k _ => ?_
    rw [hb k]
    by_cases hk : k ∈ ((List.range img.length).filter fun k => decide (firstA img.length ≤ k) && !bitA (blk img 1) k).take n
    · have h2 := (List.mem_filter.1 (List.mem_of_mem_take hk)).2
      rw [if_pos hk]
      simp only [Bool.and_eq_true, Bool.not_eq_true'] at h2
      simp [hk, h2.2]
    · rw [if_neg hk]; simp [hk]
  rw [e]
  have hsplit : (freeA img).filter (fun k => decide (k ∉ (freeA img).take n)) = (freeA img).drop n := by
    have hnd2 : (freeA img).Nodup := freeTo_nodup _ _
    generalize freeA img = F at hnd2
    have h1 : (F.take n).filter (fun k => decide (k ∉ F.take n)) = [] := by
      rw [List.filter_eq_nil_iff]
      intro k hk; simp [hk]
    have h2 : (F.drop n).filter (fun k => decide (k ∉ F.take n)) = F.drop n := by
      rw [List.filter_eq_self]
      intro k hk
      rw [← List.take_append_drop n F] at hnd2
      have := (List.nodup_append.1 hnd2).2.2
      simp only [decide_eq_true_eq]
      exact fun h3 => this k h3 k hk rfl
    have h3 : F.filter (fun k => decide (k ∉ F.take n)) = (F.take n ++ F.drop n).filter (fun k => decide (k ∉ F.take n)) := by rw [List.take_append_drop]
    rw [h3, List.filter_append, h1, h2]; rfl
  rw [hsplit, List.length_drop]
/-- All that was taken, given back. -/
theorem gave_took {c : List ByteArray} (h : MapP c) : ∀ (L : List Nat), L.Nodup → (∀ k ∈ L, k < 1024 ∧ bitA (blk c 1) k = true) → ∃ c2, gaveA c (L.map fun k : Nat => (k : Int)) = some c2 ∧ c2 = c.set 1 (L.foldl flipA (blk c 1)) := by
  intro L
  induction L generalizing c with
  | nil =>
    intro _ _
    refine ⟨c, rfl, ?_⟩
    rw [List.foldl_nil]
    refine (List.ext_getElem? fun j => ?_)
    rw [List.getElem?_set]
    by_cases hj : 1 = j
    · subst hj
      rw [if_pos rfl, if_pos (by have := h.1; omega)]
      exact blk_get (by have := h.1; omega)
    · rw [if_neg hj]
  | cons i L ih =>
    intro hn hL
    have hi := hL i (by simp)
    have hi8 : i / 8 < (blk c 1).size := by rw [h.2]; omega
    obtain ⟨c2, h2, h3⟩ := ih (turn1_MapP h i) (List.nodup_cons.1 hn).2 (fun k hk => ⟨(hL k (by simp [hk])).1, by
      rw [turn1_map (by have := h.1; omega), bit_flip _ _ _ hi8, if_neg (show ¬ k = i from fun e => (List.nodup_cons.1 hn).1 (by rw [← e]; exact hk))]
      exact (hL k (by simp [hk])).2⟩)
    refine ⟨c2, ?_, ?_⟩
    · rw [List.map_cons, gaveA, Int.toNat_natCast, if_pos hi.2]
      exact h2
    · rw [h3, turn1_map (by have := h.1; omega)]
      unfold turn1A
      rw [List.set_set]; rfl
theorem fold_twice (m : ByteArray) (L : List Nat) (hn : L.Nodup) (hL : ∀ i ∈ L, i / 8 < m.size) : L.foldl flipA (L.foldl flipA m) = m := by
  refine ext_bits (by rw [fold_size, fold_size]) fun j _ => ?_
  rw [fold_bit L _ hn (fun i hi => by rw [fold_size]; exact hL i hi), fold_bit L m hn hL]
  by_cases h : j ∈ L <;> simp [h]

end Go.Proofs.Ytihmgamdnmipaaa
