/-
  The document's own small answers on an image.
-/
import Derived.Test.YtihmgamdnmipaaaAllocFit
namespace Go.Proofs.Ytihmgamdnmipaaa
open Go.RowKit

set_option maxRecDepth 100000 in
theorem refCount_any (n : Nat) (hn : n ≤ maxLen) (w : World) : Calls Try.prog 55 #[.int .i64 n] w fun e w' => e = .returned (.int .i64 (cntA n : Nat)) ∧ w = w' := by
  unfold maxLen at hn
  go_enter Try.func55, Try.ntmps55
  go_wp2
  go_ret
  exact ⟨congrArg (fun z => Ending.returned (Value.int .i64 z)) (by unfold cntA; omega), rfl⟩

set_option maxRecDepth 100000 in
theorem refFirst_any (A : Option Addr) (n c : Nat) (hn : n ≤ maxLen) (w : World) : Calls Try.prog 27 #[.slice A n c] w fun e w' => e = .returned (.int .i64 (firstA n : Nat)) ∧ w = w' := by
  have ci := fun W => refCount_any n hn W
  have hc : cntA n ≤ 4611686018427387904 := by unfold cntA; unfold maxLen at hn; omega
  have HF := Lib.hid (show firstA n = 2 + cntA n / 4 from rfl)
  have HM := Lib.hid (cnt_mod n)
  generalize cntA n = k at ci hc HF HM
  go_enter Try.func27, Try.ntmps27
  go_wp2_with (go_at_call 55; refine (ci _).mono ?_; rintro e w1 ⟨rfl, rfl⟩)
  go_ret
  exact ⟨congrArg (fun z => Ending.returned (Value.int .i64 z)) (by rw [HF.out]; have := HM.out; omega), rfl⟩

set_option maxRecDepth 100000 in
theorem refInodes_any (A : Option Addr) (n c : Nat) (hn : n ≤ maxLen) (w : World) : Calls Try.prog 29 #[.slice A n c] w fun e w' => e = .returned (.int .i64 (cntA n : Nat)) ∧ w = w' := by
  have ci := fun W => refCount_any n hn W
  generalize cntA n = k at ci ⊢
  go_enter Try.func29, Try.ntmps29
  go_wp2_with (go_at_call 55; refine (ci _).mono ?_; rintro e w1 ⟨rfl, rfl⟩)
  go_ret
  exact ⟨rfl, rfl⟩

set_option maxRecDepth 100000 in
set_option maxHeartbeats 1000000 in
theorem refOwn_any (A : Option Addr) (n c : Nat) (bs : List ByteArray) (w : World) (h : Reads w w.heap.size 1 A n (encS bs)) (hb : n * 16 ≤ 140737488355328) :
    Calls Try.prog 16 #[.slice A n c] w fun e w' => ∃ A2 c2, e = .returned (.slice A2 n c2) ∧ w'.ownsRow w.heap.size 9 1 (.slice A2 n c2) n (encS bs) ∧ Below w.heap.size w w' := by
  obtain ⟨i0, hi0, hz0, hz1, hz2⟩ := info_parts infoS
  have hr := Lib.hid h; clear h
  go_enter Try.func16, Try.ntmps16
  go_wp2_with (at_builtin; refine wpList_append_reads _ rfl _ _ 22 rfl w.heap.size 9 i0 _ 1 16 Try.underlying22 hi0 hz0 hz1 hz2 rfl (by omega) _ 0 [] rfl own_nil _ A n c (encS bs) rfl hr.out (encS_one bs) ?_ ?_ ?_ ?_)
  · simp only [maxLen]; omega
  · rw [Nat.zero_add]; exact hb
  · exact Nat.le_refl _
  intro A2 c2 w1 hown hgrow _
  go_wp2
  go_ret
  refine ⟨_, _, rfl, by simpa using hown, ?_⟩
  exact (Below.refl _ w).grown hgrow (by simp) (by intro k hk; cases hk)

theorem mod8 : ∀ x : Fin 256, ∀ k : Fin 8, ((x.val : Int) / 2 ^ k.val % 2 == 1) = x.val.testBit k.val := by decide +kernel
theorem bit_mod (m : ByteArray) (i : Nat) (hi : i / 8 < m.size) : ((m[i / 8].toNat : Int) / 2 ^ (i % 8) % 2 == 1) = bitA m i := by
  have h := mod8 ⟨m[i / 8].toNat, UInt8.toNat_lt _⟩ ⟨i % 8, by omega⟩
  dsimp only at h
  rw [h]
  unfold bitA byA
  rw [List.getD_eq_getElem?_getD, List.getElem?_eq_getElem (by simpa using hi)]
  rfl

theorem bit_tmod (m : ByteArray) (i : Nat) (hi : i / 8 < m.size) : (((m[i / 8].toNat : Int) / 2 ^ (i % 8)).tmod 2 == 1) = bitA m i := by
  rw [Int.tmod_eq_emod_of_nonneg (Int.ediv_nonneg (by omega) (Int.pow_nonneg (by omega))), bit_mod m i hi]
theorem takenA_no {img : List ByteArray} {i : Int} (h : ¬ (0 ≤ i ∧ i < img.length)) : takenA img i = false := by
  unfold takenA; rw [decide_eq_false h]; rfl
theorem takenA_in {img : List ByteArray} {i : Nat} (h : i < img.length) : takenA img i = bitA (blk img 1) i := by
  unfold takenA; rw [decide_eq_true (by omega), Int.toNat_natCast]; rfl
set_option maxRecDepth 100000 in
set_option maxHeartbeats 1000000 in
theorem refTaken_any (A : Option Addr) (n c : Nat) (img : List ByteArray) (i : Int) (w : World) (h : Reads w w.heap.size 1 A n (encS img)) (hf : MapP img) :
    Calls Try.prog 23 #[.slice A n c, .int .i64 i] w fun e w' => e = .returned (.bool (takenA img i)) ∧ w = w' := by
  have hl := h.lenS
  obtain ⟨⟨h2, h5⟩, hm⟩ := hf
  rw [hl] at h2 h5
  by_cases h0 : 0 ≤ i
  · by_cases h1 : i < n
    · obtain ⟨k, rfl⟩ : ∃ k : Nat, i = k := ⟨i.toNat, by omega⟩
      obtain ⟨b, o, rfl, _, g1⟩ := h.str (k := 1) (by omega)
      have hk : k < n := by omega
      have HT := Lib.hid (takenA_in (img := img) (i := k) (by omega))
      generalize blk img 1 = m at g1 hm HT
      have hkm : k / 8 < m.size := by omega
      have HB := Lib.hid (bit_mod m k hkm)
      have h1n : 1 < n := by omega
      clear h hl h0 h1
      go_enter Try.func23, Try.ntmps23
      go_wp2
      go_ret
      rw [HT.out, ← HB.out]
      exact ⟨rfl, rfl⟩
    · rw [takenA_no (by omega)]
      clear h hl
      go_enter Try.func23, Try.ntmps23
      go_wp2
      go_ret
      exact ⟨rfl, rfl⟩
  · rw [takenA_no (by omega)]
    clear h hl
    go_enter Try.func23, Try.ntmps23
    go_wp2
    go_ret
    exact ⟨rfl, rfl⟩

set_option maxRecDepth 100000 in
set_option maxHeartbeats 1000000 in
theorem takenA_any (A : Option Addr) (n c : Nat) (img : List ByteArray) (i : Int) (w : World) (h : Reads w w.heap.size 1 A n (encS img)) (hf : MapP img) :
    Calls Try.prog 22 #[.slice A n c, .int .i64 i] w fun e w' => e = .returned (.bool (takenA img i)) ∧ w = w' := by
  have hl := h.lenS
  have cm := fun W hW => mapped_any A n c img W hW hf
  obtain ⟨⟨h2, h5⟩, hm⟩ := hf
  rw [hl] at h2 h5
  by_cases h0 : 0 ≤ i
  · by_cases h1 : i < n
    · obtain ⟨k, rfl⟩ : ∃ k : Nat, i = k := ⟨i.toNat, by omega⟩
      have H := Lib.hid h
      obtain ⟨b, o, rfl, _, g1⟩ := h.str (k := 1) (by omega)
      have hk : k < n := by omega
      have HT := Lib.hid (takenA_in (img := img) (i := k) (by omega))
      generalize blk img 1 = m at g1 hm HT
      have ct := fun W => isTaken_any m k (by omega) (by omega) W
      have h1n : 1 < n := by omega
      clear h hl h0 h1
      go_enter Try.func22, Try.ntmps22
      go_wp2_with (first | (go_at_call 54; refine (cm _ H.out).mono ?_; rintro e w8 ⟨rfl, rfl⟩) | (go_at_call 51; refine (ct _).mono ?_; rintro e w8 ⟨rfl, rfl⟩))
      go_ret
      rw [HT.out]
      exact ⟨rfl, rfl⟩
    · rw [takenA_no (by omega)]
      have H := Lib.hid h
      clear h hl
      go_enter Try.func22, Try.ntmps22
      go_wp2_with (go_at_call 54; refine (cm _ H.out).mono ?_; rintro e w8 ⟨rfl, rfl⟩)
      go_ret
      exact ⟨rfl, rfl⟩
  · rw [takenA_no (by omega)]
    clear h hl
    go_enter Try.func22, Try.ntmps22
    go_wp2
    go_ret
    exact ⟨rfl, rfl⟩

end Go.Proofs.Ytihmgamdnmipaaa
