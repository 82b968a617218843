/-
  A block padded with zeros; an image's block 0.
-/
import Derived.Test.YtihmgamdnmipaaaAllocSmall
import Derived.Lib.SmallJoins
import Derived.Lib.SlBytesConst
namespace Go.Proofs.Ytihmgamdnmipaaa
open Go.RowKit

theorem rep_zeroA : ∀ k : Nat, Lib.repeatL [0] k = List.replicate k 0
  | 0 => rfl
  | k + 1 => by rw [Lib.repeatL, rep_zeroA k]; rfl
theorem pad_repA (s : ByteArray) : s ++ (⟨(Lib.repeatL [0] (128 - s.size)).toArray⟩ : ByteArray) = padL s.data.toList := by
  apply ByteArray.ext
  rw [ByteArray.data_append, rep_zeroA]
  have hl : s.data.toList.length = s.size := by simp
  unfold padL mkB
  rw [hl]
  apply Array.ext'
  simp
set_option maxRecDepth 100000 in
set_option maxHeartbeats 1000000 in
theorem paddedA_any (s : ByteArray) (w : World) (hs : s.size ≤ 128) : Calls Try.prog 45 #[.string s] w fun e w' => e = .returned (.string (padL s.data.toList)) ∧ Below w.heap.size w w' := by
  obtain ⟨k, hk⟩ : ∃ k : Nat, k = 128 - s.size := ⟨_, rfl⟩
  have HP := Lib.hid (pad_repA s)
  have cr := fun W => Try.strings_Repeat ⟨#[0]⟩ k W (by omega) (by show 1 * k ≤ _; omega)
  rw [← hk] at HP
  have hk2 : (128 : Int) - (s.size : Int) = (k : Int) := by omega
  have hzs : (⟨(Lib.repeatL [0] k).toArray⟩ : ByteArray).size = k := by
    show (Lib.repeatL [0] k).toArray.size = k
    rw [rep_zeroA]; simp
  have hsum : ¬ 9223372036854775807 < s.size + (⟨(Lib.repeatL [0] k).toArray⟩ : ByteArray).size := by rw [hzs]; omega
  have cr : ∀ W : World, Calls Try.prog 73 #[.string ⟨#[0]⟩, .int .i64 k] W fun e w' => e = .returned (.string ⟨(Lib.repeatL [0] k).toArray⟩) ∧ Below W.heap.size W w' := cr
  clear hzs
  generalize (⟨(Lib.repeatL [0] k).toArray⟩ : ByteArray) = z at cr HP hsum
  clear hs hk
  go_enter Try.func45, Try.ntmps45
  go_wp2_with (go_at_call 73; refine (cr _).mono ?_; rintro e w1 ⟨rfl, hb1⟩)
  go_ret
  rw [HP.out]
  exact ⟨rfl, hb1⟩
theorem padL_nil : padL [] = zeroB := by decide +kernel
theorem padded0_any (w : World) : Calls Try.prog 45 #[.string ⟨#[]⟩] w fun e w' => e = .returned (.string zeroB) ∧ Below w.heap.size w w' := by
  have h := paddedA_any ⟨#[]⟩ w (by decide)
  rwa [show (⟨#[]⟩ : ByteArray).data.toList = [] from rfl, padL_nil] at h

theorem Byt.of_lit {w : World} {e : TypeId} (l : List UInt8) (C : Array Value) (h : C.toList = l.map fun x => Value.int .u8 (x.toNat : Int)) : Byt (w.alloc (.cells C e)) w.heap.size l := by
  have hs : C.size = l.length := by rw [← Array.length_toList, h, List.length_map]
  refine ⟨C, e, 0, 0, heap_alloc_new w _, .inr rfl, by omega, fun j hj => ?_⟩
  rw [← Array.getElem?_toList, h]
  simp [hj]
theorem byte_lo (n : Nat) : (n : Int) % 256 = ((UInt8.ofNat n).toNat : Int) := by simp
theorem byte_hi (n : Nat) : (n : Int) / 256 % 256 = ((UInt8.ofNat (n / 256)).toNat : Int) := by simp
theorem mkB_app4 (a b c d x y z u : UInt8) : (⟨#[a, b, c, d]⟩ : ByteArray) ++ mkB [x, y, z, u] = mkB [a, b, c, d, x, y, z, u] := by
  apply ByteArray.ext
  rw [ByteArray.data_append]
  rfl
set_option maxRecDepth 100000 in
set_option maxHeartbeats 1000000 in
theorem head_any (A : Option Addr) (n c : Nat) (w : World) (hn : n ≤ 512) : Calls Try.prog 46 #[.slice A n c] w fun e w' => e = .returned (.string (superB n)) ∧ Below w.heap.size w w' := by
  have ci := fun W => inodes_any A n c (by unfold maxLen; omega) W
  have hc : cntA n ≤ 128 := by unfold cntA; omega
  have HS : Hid (superB n = padL (superL n) ∧ superL n = [65, 70, 83, 49, UInt8.ofNat (n / 256), UInt8.ofNat n, UInt8.ofNat (cntA n / 256), UInt8.ofNat (cntA n)]) := Lib.hid ⟨rfl, rfl⟩
  generalize cntA n = k at ci hc HS

  obtain ⟨l, hl⟩ : ∃ l : List UInt8, l = [UInt8.ofNat (n / 256), UInt8.ofNat n, UInt8.ofNat (k / 256), UInt8.ofNat k] := ⟨_, rfl⟩
  have hby := Byt.of_lit (w := w) (e := 5) l #[.int .u8 ((n : Int) / 256), .int .u8 ((n : Int) % 256), .int .u8 ((k : Int) / 256), .int .u8 (k : Int)] (by
    rw [hl]
    simp only [List.map_cons, List.map_nil]
    rw [← byte_hi, ← byte_lo, ← byte_hi, ← byte_lo, show (n : Int) / 256 % 256 = (n : Int) / 256 by omega, show (k : Int) / 256 % 256 = (k : Int) / 256 by omega, show (k : Int) % 256 = (k : Int) by omega])
  have hcv := hby.conv (P := Try.prog) Try.underlying69 Try.underlying5 Try.underlying9 4 4 (by rw [hl]; rfl)
  have hsz : (mkB l).size = 4 := by rw [hl]; rfl
  have hno : ¬ 9223372036854775807 < (⟨#[65, 70, 83, 49]⟩ : ByteArray).size + (mkB l).size := by rw [hsz]; decide
  have cp : ∀ W : World, Calls Try.prog 45 #[.string ((⟨#[65, 70, 83, 49]⟩ : ByteArray) ++ mkB l)] W fun e w' => e = .returned (.string (superB n)) ∧ Below W.heap.size W w' := fun W => by
    have h := paddedA_any ((⟨#[65, 70, 83, 49]⟩ : ByteArray) ++ mkB l) W (by rw [ByteArray.size_append, hsz]; decide)
    rw [HS.out.1, HS.out.2]
    rw [hl, mkB_app4] at h ⊢
    exact h
  clear hby hl hsz
  generalize mkB l = s at hcv hno cp
  go_enter Try.func46, Try.ntmps46
  go_wp2_with (first | (go_at_call 28; refine (ci _).mono ?_; rintro e w1 ⟨rfl, rfl⟩) | (go_at_call 45; refine (cp _).mono ?_; rintro e w1 ⟨rfl, hb1⟩))
  go_ret
  exact ⟨rfl, ((Below.refl _ _).alloc (Nat.le_refl _) _).trans (hb1.mono (by simp))⟩

end Go.Proofs.Ytihmgamdnmipaaa
