/-
  A block of zeros, and a block that begins with a text: for all texts.
-/
import Derived.Test.YtmkhffopmohdhaaDevSame
import Derived.Laws.BytesArg
import Derived.Laws.IdiomCopy
import Derived.Lib.LazyBuf
namespace Go.Proofs.Ytmkhffopmohdhaa
open Go.RowKit

/-- A block's bytes as numbers: the text's first 128, then zeros. -/
def padN (s : ByteArray) : List Int := (s.data.toList.take 128).map (fun x => (x.toNat : Int)) ++ List.replicate (128 - s.size) 0
theorem padN_length (s : ByteArray) : (padN s).length = 128 := by
  have : s.data.toList.length = s.size := by simp
  simp only [padN, List.length_append, List.length_map, List.length_take, List.length_replicate, this]
  omega
def filledD (s : ByteArray) : ByteArray := strOfNums (padN s)
theorem filledD_size (s : ByteArray) : (filledD s).size = 128 := by
  show (strOfNums (padN s)).data.size = 128
  simp [strOfNums, padN_length]
theorem filledD_none : filledD ⟨#[]⟩ = zeroB := by decide +kernel

theorem infoU : (Try.prog.info? 5).map (fun i => (i.zero, i.size, i.bytes)) = some (some (.int .u8 0), 1, 1) := by kernel_rfl

/-- copy(dst, s), s a text of whatever length: as many bytes as fit. -/
theorem run_copy_text {P : Program} (w : World) (dT sT ty elem : TypeId) (b o dLen dCap : Nat) (t : ByteArray) (hu : P.underlying dT = some (.slice elem)) (hz : ∀ w, (Go.sizeOf elem).run P w = .ok 1 w) (n : Nat) (hn : Nat.min t.size dLen = n)
    (hc : ∀ j, j < n → (w.cell? ⟨b, o + j, none⟩).isSome = true) (hf : ∀ j, j < n → w.frozen? ⟨b, o + j, none⟩ = false) :
    (Builtin.copy_ #[dT, sT] ty #[.slice (some ⟨b, o, none⟩) dLen dCap, .string t]).run P w = .ok (goInt n) (w.setCells b o ((t.data.toList.take n).map fun x => Value.int .u8 (x.toNat : Int))) := by
  have hsz : t.data.toList.length = t.size := by simp
  have hnt : n ≤ t.size := by rw [← hn]; exact Nat.min_le_left _ _
  have hl : ((t.data.toList.take n).map fun x => Value.int .u8 (x.toNat : Int)).length = n := by rw [List.length_map, List.length_take, hsz]; omega
  have hst := run_storeCells_cells (P := P) b o ((t.data.toList.take n).map fun x => Value.int .u8 (x.toNat : Int)) 0 w (by rw [hl]; simpa using hc) (by rw [hl]; simpa using hf) (by
    intro v hv
    obtain ⟨x, _, rfl⟩ := List.mem_map.1 hv
    rfl)
  simp [Builtin.copy_, run_underlying hu, Builtin.lenOf, Builtin.firstCells, hz, hn]
  rw [List.map_take] at hst
  rw [hst]
  rfl

set_option maxRecDepth 100000 in
set_option maxHeartbeats 2000000 in
theorem zeros_any (w : World) : Calls Try.prog 28 #[] w fun e w' => e = .returned (.string zeroB) ∧ Below w.heap.size w w' := by
  obtain ⟨i0, hi0, hz0, hz1, hz2⟩ := info_parts infoU
  go_enter Try.func28, Try.ntmps28
  go_wp2_with (at_make; refine wpList_make_full _ rfl _ _ 58 rfl w.heap.size 5 i0 _ 1 Try.underlying58 hi0 hz0 hz1 .i64 .i64 128 128 128 rfl rfl rfl rfl ?_ ?_ ?_ ?_)
  · rw [hz2]; omega
  · simp only [maxLen]; omega
  · exact Nat.le_refl _
  intro w1 ho1 hg1
  have hcell : ∀ i, i < 128 → w1.cell? ⟨w.heap.size, 0 + i, none⟩ = some (.int .u8 ((List.replicate 128 (0 : Int)).getD i 0)) := by
    intro i hi
    rw [Nat.zero_add, ho1.cellAt i (by omega)]
    show (madeCells #[.int .u8 0] 128).toList[i]? = _
    rw [toList_madeCells_one, List.getElem?_replicate, if_pos hi]
    rw [List.getD_eq_getElem?_getD, List.getElem?_replicate, if_pos hi]
    rfl
  have hcv := Lib.hid (run_convert_bytes_arg (P := Try.prog) w1 58 5 Try.underlying58 Try.underlying5 w.heap.size 0 128 128 (List.replicate 128 0) (by simp) hcell 9 Try.underlying9)
  have hb1 : Below w.heap.size w w1 := (Below.refl _ _).grown hg1 (Nat.le_refl _) (by intro k hk; cases hk)
  have hs : strOfNums (List.replicate 128 0) = zeroB := by decide +kernel
  rw [hs] at hcv
  clear ho1 hg1 hcell hs
  have hcv2 := hcv.out
  go_wp2
  go_ret
  exact ⟨rfl, hb1⟩

theorem pad_get (s : ByteArray) (n : Nat) (hn : Nat.min s.size 128 = n) (i : Nat) (hi : i < 128) : (padN s).getD i 0 = if i < n then (((s.data.toList.take n).map fun x => (x.toNat : Int)).getD i 0) else 0 := by
  have hsz : s.data.toList.length = s.size := by simp
  have h1 : n ≤ s.size := by rw [← hn]; exact Nat.min_le_left _ _
  have h2 : n ≤ 128 := by rw [← hn]; exact Nat.min_le_right _ _
  have h3 : n = s.size ∨ n = 128 := by
    simp only [Nat.min_def] at hn
    split at hn <;> omega
  have htake : s.data.toList.take 128 = s.data.toList.take n := by
    rcases h3 with h3 | h3
    · rw [List.take_of_length_le (by omega), List.take_of_length_le (by omega)]
    · rw [h3]
  have hlen : ((s.data.toList.take n).map fun x => (x.toNat : Int)).length = n := by rw [List.length_map, List.length_take, hsz]; omega
  unfold padN
  rw [htake]
  by_cases h : i < n
  · rw [if_pos h]
    simp only [List.getD_eq_getElem?_getD]
    rw [List.getElem?_append_left (by omega)]
  · rw [if_neg h]
    simp only [List.getD_eq_getElem?_getD]
    rw [List.getElem?_append_right (by omega), List.getElem?_replicate]
    split <;> rfl

set_option maxRecDepth 100000 in
set_option maxHeartbeats 2000000 in
theorem filled_any (s : ByteArray) (w : World) : Calls Try.prog 13 #[.string s] w fun e w' => e = .returned (.string (filledD s)) ∧ Below w.heap.size w w' := by
  obtain ⟨i0, hi0, hz0, hz1, hz2⟩ := info_parts infoU
  obtain ⟨n, hn⟩ : ∃ n, Nat.min s.size 128 = n := ⟨_, rfl⟩
  have hn1 : n ≤ 128 := by rw [← hn]; exact Nat.min_le_right _ _
  have HN := Lib.hid hn; clear hn
  go_enter Try.func13, Try.ntmps13
  go_wp2_with (at_make; refine wpList_make_full _ rfl _ _ 58 rfl w.heap.size 5 i0 _ 1 Try.underlying58 hi0 hz0 hz1 .i64 .i64 128 128 128 rfl rfl rfl rfl ?_ ?_ ?_ ?_)
  · rw [hz2]; omega
  · simp only [maxLen]; omega
  · exact Nat.le_refl _
  intro w1 ho1 hg1
  have hb1 : Below w.heap.size w w1 := (Below.refl _ _).grown hg1 (Nat.le_refl _) (by intro k hk; cases hk)
  have hold : ∀ i, i < 128 → w1.cell? ⟨w.heap.size, i, none⟩ = some (.int .u8 0) := by
    intro i hi
    rw [ho1.cellAt i (by omega)]
    show (madeCells #[.int .u8 0] 128).toList[i]? = _
    rw [toList_madeCells_one, List.getElem?_replicate, if_pos hi]
  have hfr : ∀ i, w1.frozen? ⟨w.heap.size, i, none⟩ = false := fun i => ho1.frozenAt i
  have hcp := Lib.hid (fun W => run_copy_text (P := Try.prog) W 58 9 3 5 w.heap.size 0 128 128 s Try.underlying58 Try.sizeOf5 n HN.out)
  have hrun := hcp.out w1 (fun j hj => by rw [Nat.zero_add, hold j (by omega)]; rfl) (fun j _ => by rw [Nat.zero_add]; exact hfr j)
  obtain ⟨vs, hvs⟩ : ∃ vs, vs = (s.data.toList.take n).map fun x => Value.int .u8 (x.toNat : Int) := ⟨_, rfl⟩
  rw [← hvs] at hrun
  have hvl : vs.length = n := by
    have hsz : s.data.toList.length = s.size := by simp
    have : n ≤ s.size := by rw [← HN.out]; exact Nat.min_le_left _ _
    rw [hvs, List.length_map, List.length_take, hsz]; omega
  have hcell : ∀ i, i < 128 → (w1.setCells w.heap.size 0 vs).cell? ⟨w.heap.size, 0 + i, none⟩ = some (.int .u8 ((padN s).getD i 0)) := by
    intro i hi
    rw [pad_get s n HN.out i hi]
    by_cases h : i < n
    · rw [if_pos h, World.cell?_setCells_in w.heap.size vs 0 w1 (fun j hj => by rw [Nat.zero_add, hold j (by omega)]; rfl) i (by omega)]
      subst hvs
      have hl2 : i < ((s.data.toList.take n).map fun x => (x.toNat : Int)).length := by rw [List.length_map]; rw [List.length_map] at hvl; omega
      rw [List.getD_eq_getElem?_getD, List.getElem?_eq_getElem hl2]
      simp
    · rw [if_neg h, World.cell?_setCells_out w.heap.size vs 0 w1 _ (fun _ _ => by right; simp; omega), Nat.zero_add]
      exact hold i hi
  have hcv := Lib.hid (run_convert_bytes_arg (P := Try.prog) (w1.setCells w.heap.size 0 vs) 58 5 Try.underlying58 Try.underlying5 w.heap.size 0 128 128 (padN s) (padN_length s) hcell 9 Try.underlying9)
  have hb2 : Below w.heap.size w (w1.setCells w.heap.size 0 vs) := below_setCells (Nat.le_refl _) vs 0 w1 hb1
  have hfd : strOfNums (padN s) = filledD s := rfl
  rw [hfd] at hcv
  clear hcell hvs hvl hold hfr hcp hb1 ho1 hg1 hfd
  have hcv2 := hcv.out
  generalize w1.setCells w.heap.size 0 vs = w2 at hrun hcv2 hb2
  go_wp2
  go_ret
  exact ⟨rfl, hb2⟩

end Go.Proofs.Ytmkhffopmohdhaa
