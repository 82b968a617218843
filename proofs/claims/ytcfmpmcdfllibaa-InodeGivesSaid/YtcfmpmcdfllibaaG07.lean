/-
  A list of numbers that came in.
-/
import Derived.Test.YtcfmpmcdfllibaaG02
import Derived.Test.YtcfmpmcdfllibaaG06
import Derived.Carry
import Derived.Test.YtcfmpmcdfllibaaG04
import Derived.Test.YtcfmpmcdfllibaaG05
import Derived.Test.YtcfmpmcdfllibaaG03
namespace Go.Proofs.Ytcfmpmcdfllibaa
open Go.ChangeShapes Go.WideShapes Go.ChangeAt Go.RowKit Go.ChangeMaps

theorem int_hi {x : Int} (h : (Lit.int .i64 x).wf = true) : x ≤ 9223372036854775807 := by
  simp only [Lit.wf, Bool.and_eq_true, decide_eq_true_eq] at h
  have : IntKind.i64.max = 9223372036854775807 := by decide
  omega

section
variable {H : Type} {enc : TypeId × Value → H} {W : World} {base : Nat} {spare : Nat → Bool} {held : Bool} {fuel : Nat}
set_option maxRecDepth 100000 in
theorem open_nums {v : Value} {y : DataW H × List MemPlace} (h : DataW.trod enc Try.prog W base spare held fuel 38 [v] = some y) (hw : ∀ x ∈ DataW.weights Try.prog 38 y.1, x ≤ reachBytes) :
    ∃ A n c l, v = .slice A n c ∧ n ≤ c ∧ c ≤ maxLen ∧ Reads W W.heap.size 1 A n (encI l) ∧ n ≤ 17592186044416 := by
  rcases open_ints Try.underlying38 Try.underlying3 (by kernel_rfl) h with ⟨hcs, hx⟩ | ⟨a, len, cap, zs, hcs, _, hl, hm, hz, hx, hcell, _⟩
  · injection hcs with hcs _
    exact ⟨none, 0, 0, [], hcs, Nat.le_refl _, by simp only [maxLen]; omega, Reads.nil, by omega⟩
  · injection hcs with hcs _
    subst hx
    have hlen : len ≤ zs.length := by rw [hz]; split <;> omega
    have hbytes := hw ((List.length (lits (H := H) .i64 (zs.take len)) + List.length (lits (H := H) .i64 (zs.drop len))) * Try.prog.bytesOf 3) (by simp [DataW.weights, Try.underlying38])
    have hb8 : Try.prog.bytesOf 3 = 8 := by kernel_rfl
    rw [hb8] at hbytes
    have hlen2 : (lits (H := H) .i64 (zs.take len)).length = len := by simp [lits]; omega
    have hre : reachBytes = 140737488351232 := by decide
    rw [hlen2, hre] at hbytes
    refine ⟨some a, len, cap, zs.take len, hcs, hl, hm, ⟨by rw [encI_length, List.length_take]; omega, fun hn => ?_⟩, by omega⟩
    obtain ⟨b, o, rfl⟩ := slice_addr (hcell 0 (by omega))
    refine ⟨b, o, rfl, ?_, fun j u hu => ?_⟩
    · have := World.block_lt_of_cell? W _ (hcell 0 (by omega))
      rw [add_plain] at this
      exact this
    · have hj := (List.getElem?_eq_some_iff.1 hu).1
      rw [encI_length, List.length_take] at hj
      rw [encI_get (by rw [List.length_take]; omega)] at hu
      injection hu with hu
      rw [← hu, ← add_plain, hcell j (by omega)]
      have e : zs.getD j 0 = (zs.take len).getD j 0 := by
        rw [List.getD_eq_getElem?_getD, List.getD_eq_getElem?_getD, List.getElem?_take, if_pos (by omega)]
      rw [e]
end
end Go.Proofs.Ytcfmpmcdfllibaa

/-
  The small words of the program's inodes: how many blocks so many bytes need, whether an image has a block, where an inode lies, so many zeros, what a block holds.
-/
namespace Go.Proofs.Ytcfmpmcdfllibaa
open Go.RowKit

/-- How many data blocks so many bytes need. -/
def needN (n : Nat) : Nat := (n + 127) / 128
/-- The same with the indirect block. -/
def needAllN (n : Nat) : Nat := if 4 < needN n then needN n + 1 else needN n
/-- So many zeros. -/
def zeroN (k : Nat) : ByteArray := ⟨(Lib.repeatL [0] k).toArray⟩
/-- What a block holds; zeros, where an image has none of that size. -/
def blkI (img : List ByteArray) (i : Nat) : ByteArray := if i < img.length ∧ (blk img i).size = 128 then blk img i else zeroN 128

set_option maxRecDepth 100000 in
theorem needsI_any (n : Nat) (hn : n ≤ 4611686018427387904) (w : World) : Calls Try.prog 59 #[.int .i64 n] w fun e w' => e = .returned (.int .i64 (needN n : Nat)) ∧ w = w' := by
  go_enter Try.func59, Try.ntmps59
  go_wp2
  go_ret
  exact ⟨congrArg (fun z => Ending.returned (Value.int .i64 z)) (by unfold needN; omega), rfl⟩

set_option maxRecDepth 100000 in
theorem needsAllI_any (n : Nat) (hn : n ≤ 4611686018427387904) (w : World) : Calls Try.prog 81 #[.int .i64 n] w fun e w' => e = .returned (.int .i64 (needAllN n : Nat)) ∧ w = w' := by
  have cn := fun W => needsI_any n hn W
  have hk : needN n ≤ 4611686018427387904 := by unfold needN; omega
  have hd : needAllN n = if 4 < needN n then needN n + 1 else needN n := rfl
  have HD := Lib.hid hd
  clear hd
  generalize needN n = k at cn hk HD
  by_cases h4 : 4 < k
  · have h4i : (4 : Int) < (k : Int) := by omega
    go_enter Try.func81, Try.ntmps81
    go_wp2_with (go_at_call 59; refine (cn _).mono ?_; rintro e w1 ⟨rfl, rfl⟩)
    go_ret
    exact ⟨congrArg (fun z => Ending.returned (Value.int .i64 z)) (by rw [HD.out, if_pos h4]; omega), rfl⟩
  · have h4i : ¬ (4 : Int) < (k : Int) := by omega
    go_enter Try.func81, Try.ntmps81
    go_wp2_with (go_at_call 59; refine (cn _).mono ?_; rintro e w1 ⟨rfl, rfl⟩)
    go_ret
    exact ⟨congrArg (fun z => Ending.returned (Value.int .i64 z)) (by rw [HD.out, if_neg h4]), rfl⟩

set_option maxRecDepth 100000 in
theorem isBlock_any (A : Option Addr) (n c : Nat) (x : Int) (w : World) : Calls Try.prog 76 #[.slice A n c, .int .i64 x] w fun e w' => e = .returned (.bool (decide (0 ≤ x ∧ x < n))) ∧ w = w' := by
  by_cases h : 0 ≤ x
  · by_cases h2 : x < n
    · have e : decide (0 ≤ x ∧ x < n) = true := decide_eq_true ⟨h, h2⟩
      rw [e]
      go_enter Try.func76, Try.ntmps76
      go_wp2
      go_ret
      exact ⟨rfl, rfl⟩
    · have e : decide (0 ≤ x ∧ x < n) = false := decide_eq_false fun hh => h2 hh.2
      rw [e]
      go_enter Try.func76, Try.ntmps76
      go_wp2
      go_ret
      exact ⟨rfl, rfl⟩
  · have e : decide (0 ≤ x ∧ x < n) = false := decide_eq_false fun hh => h hh.1
    rw [e]
    go_enter Try.func76, Try.ntmps76
    go_wp2
    go_ret
    exact ⟨rfl, rfl⟩

set_option maxRecDepth 100000 in
theorem numBlock_any (i : Nat) (hi : i ≤ 1099511627776) (w : World) : Calls Try.prog 77 #[.int .i64 i] w fun e w' => e = .returned (.int .i64 (2 + i / 4 : Nat)) ∧ w = w' := by
  go_enter Try.func77, Try.ntmps77
  go_wp2
  go_ret
  exact ⟨congrArg (fun z => Ending.returned (Value.int .i64 z)) (by omega), rfl⟩

set_option maxRecDepth 100000 in
theorem numStart_any (i : Nat) (hi : i ≤ 1099511627776) (w : World) : Calls Try.prog 78 #[.int .i64 i] w fun e w' => e = .returned (.int .i64 (32 * (i % 4) : Nat)) ∧ w = w' := by
  have h4 : (i : Int) % 4 = ((i % 4 : Nat) : Int) := by omega
  have h4t : (i : Int).tmod 4 = ((i % 4 : Nat) : Int) := by rw [Int.tmod_eq_emod_of_nonneg (by omega)]; omega
  have h5 : i % 4 < 4 := Nat.mod_lt _ (by omega)
  generalize i % 4 = k at h4 h4t h5 ⊢
  go_enter Try.func78, Try.ntmps78
  go_wp2
  go_ret
  exact ⟨congrArg (fun z => Ending.returned (Value.int .i64 z)) (by omega), rfl⟩

set_option maxRecDepth 100000 in
theorem zerosI_any (k : Nat) (hk : k ≤ 1048576) (w : World) : Calls Try.prog 58 #[.int .i64 k] w fun e w' => e = .returned (.string (zeroN k)) ∧ Below w.heap.size w w' := by
  have cr := fun W => Try.strings_Repeat ⟨#[0]⟩ k W (by omega) (by show 1 * k ≤ _; omega)
  have cr : ∀ W : World, Calls Try.prog 83 #[.string ⟨#[0]⟩, .int .i64 k] W fun e w' => e = .returned (.string (zeroN k)) ∧ Below W.heap.size W w' := cr
  go_enter Try.func58, Try.ntmps58
  go_wp2_with (go_at_call 83; refine (cr _).mono ?_; rintro e w1 ⟨rfl, hb1⟩)
  go_ret
  exact ⟨rfl, hb1⟩

set_option maxRecDepth 100000 in
theorem blockI_any (A : Option Addr) (n c : Nat) (img : List ByteArray) (i : Nat) (w : World) (h : Reads w w.heap.size 1 A n (encS img)) :
    Calls Try.prog 57 #[.slice A n c, .int .i64 i] w fun e w' => e = .returned (.string (blkI img i)) ∧ Below w.heap.size w w' := by
  have hl := h.lenS
  have ci := fun W => isBlock_any A n c (i : Int) W
  have cz := fun W => zerosI_any 128 (by omega) W
  by_cases hi : i < n
  · rw [decide_eq_true (by omega : (0 : Int) ≤ (i : Int) ∧ (i : Int) < n)] at ci
    obtain ⟨b, o, rfl, hb, g⟩ := h.str (k := i) (by omega)
    by_cases hs : (blk img i).size = 128
    · have f1 : (((blk img i).size : Int) != 128) = false := by rw [hs]; rfl
      have hr : blkI img i = blk img i := if_pos ⟨by omega, hs⟩
      rw [hr]
      clear hr hs hl h
      have hii : (i : Int) < (n : Int) := by omega
      generalize blk img i = s at g f1 ⊢
      go_enter Try.func57, Try.ntmps57
      go_wp2_with (go_at_call 76; refine (ci _).mono ?_; rintro e w1 ⟨rfl, rfl⟩)
      go_ret
      exact ⟨rfl, Below.refl _ _⟩
    · have f1 : (((blk img i).size : Int) != 128) = true := by rw [bne_iff_ne]; omega
      have hr : blkI img i = zeroN 128 := if_neg fun hh => hs hh.2
      rw [hr]
      clear hr hs hl h
      have hii : (i : Int) < (n : Int) := by omega
      generalize blk img i = s at g f1
      generalize zeroN 128 = z at cz ⊢
      go_enter Try.func57, Try.ntmps57
      go_wp2_with first | (go_at_call 76; refine (ci _).mono ?_; rintro e w1 ⟨rfl, rfl⟩) | (go_at_call 58; refine (cz _).mono ?_; rintro e w1 ⟨rfl, hb1⟩)
      go_ret
      exact ⟨rfl, hb1⟩
  · rw [decide_eq_false (by omega : ¬ ((0 : Int) ≤ (i : Int) ∧ (i : Int) < n))] at ci
    have hr : blkI img i = zeroN 128 := if_neg fun hh => hi (by omega)
    rw [hr]
    clear hr hl h hi
    generalize zeroN 128 = z at cz ⊢
    go_enter Try.func57, Try.ntmps57
    go_wp2_with first | (go_at_call 76; refine (ci _).mono ?_; rintro e w1 ⟨rfl, rfl⟩) | (go_at_call 58; refine (cz _).mono ?_; rintro e w1 ⟨rfl, hb1⟩)
    go_ret
    exact ⟨rfl, hb1⟩

end Go.Proofs.Ytcfmpmcdfllibaa

/-
  The 32 bytes of an inode, as the program cuts them out of its block.
-/
namespace Go.Proofs.Ytcfmpmcdfllibaa
open Go.RowKit

theorem zeroN_eq : zeroN 128 = zeroB := by decide +kernel
theorem blkI_size (img : List ByteArray) (i : Nat) : (blkI img i).size = 128 := by
  unfold blkI
  split
  · next h => exact h.2
  · rw [zeroN_eq]; exact zeroB_size
/-- The 32 bytes of an inode. -/
def rawI (img : List ByteArray) (i : Nat) : ByteArray := (blkI img (2 + i / 4)).extract (32 * (i % 4)) (32 * (i % 4) + 32)
theorem rawI_size (img : List ByteArray) (i : Nat) : (rawI img i).size = 32 := by
  have := blkI_size img (2 + i / 4)
  unfold rawI
  rw [ByteArray.size_extract]
  have : i % 4 < 4 := Nat.mod_lt _ (by omega)
  omega

set_option maxRecDepth 100000 in
theorem numBytes_any (A : Option Addr) (n c : Nat) (img : List ByteArray) (i : Nat) (hi : i ≤ 1099511627776) (w : World) (h : Reads w w.heap.size 1 A n (encS img)) :
    Calls Try.prog 55 #[.int .i64 i, .slice A n c] w fun e w' => e = .returned (.string (rawI img i)) ∧ Below w.heap.size w w' := by
  have cn := fun W => numBlock_any i hi W
  have cs := fun W => numStart_any i hi W
  have cb := blockI_any A n c img (2 + i / 4) w h
  have hsz := blkI_size img (2 + i / 4)
  have hr : rawI img i = (blkI img (2 + i / 4)).extract (32 * (i % 4)) (32 * (i % 4) + 32) := rfl
  have h4 : i % 4 < 4 := Nat.mod_lt _ (by omega)
  rw [hr]
  clear hr
  generalize blkI img (2 + i / 4) = s at cb hsz ⊢
  generalize 2 + i / 4 = kb at cn cb
  obtain ⟨st, hst⟩ : ∃ st, st = 32 * (i % 4) := ⟨_, rfl⟩
  rw [← hst] at cs ⊢
  have h96 : st ≤ 96 := by omega
  have h96i : (st : Int) ≤ (s.size : Int) := by omega
  have h0i : (0 : Int) ≤ (st : Int) := by omega
  have hxs : (s.extract st s.size).size = 128 - st := by rw [ByteArray.size_extract]; omega
  have h32 : (32 : Int) ≤ ((s.extract st s.size).size : Int) := by omega
  have hE : (s.extract st 128).extract 0 32 = s.extract st (st + 32) := by
    rw [ByteArray.extract_extract, Nat.add_zero, Nat.min_eq_left (by omega)]
  have HE := Lib.hid hE
  clear hst hE hi h
  go_enter Try.func55, Try.ntmps55
  go_wp2_with first | (go_at_call 77; refine (cn _).mono ?_; rintro e w1 ⟨rfl, rfl⟩) | (go_at_call 57; refine cb.mono ?_; rintro e w1 ⟨rfl, hb1⟩) | (go_at_call 78; refine (cs _).mono ?_; rintro e w2 ⟨rfl, rfl⟩)
  go_ret
  rw [HE.out]
  exact ⟨rfl, hb1⟩

end Go.Proofs.Ytcfmpmcdfllibaa

/-
  The document's own answers for a log: numbers as bytes and back, and blocks filled up with zeros.
-/
namespace Go.Proofs.Ytcfmpmcdfllibaa
open Go.RowKit
theorem own_eq_vals {w : World} {base n : Nat} {e : TypeId} {v : Value} {xs ys : List Value} (h : w.ownsRow base e 1 v n xs) (he : xs = ys) : w.ownsRow base e 1 v n ys := he ▸ h

theorem infoU : (Try.prog.info? 5).map (fun i => (i.zero, i.size, i.bytes)) = some (some (.int .u8 0), 1, 1) := by kernel_rfl

theorem beL_length (n k : Nat) : (beL n k).length = k := by simp [beL]
theorem beL_get {n k j : Nat} (h : j < k) : (beL n k)[j]? = some (UInt8.ofNat (n / 256 ^ (k - 1 - j))) := by simp [beL, h]
theorem take_snoc_get {α : Type} {l : List α} {j : Nat} {x : α} (h : l[j]? = some x) : l.take (j + 1) = l.take j ++ [x] := by
  rw [List.take_add_one, h]; rfl
theorem be_byte (n i : Nat) : (n : Int) / 2 ^ (8 * i) % 256 = ((UInt8.ofNat (n / 256 ^ i)).toNat : Int) := by
  have e : (256 : Nat) ^ i = 2 ^ (8 * i) := by rw [show (256 : Nat) = 2 ^ 8 by decide, ← Nat.pow_mul]
  rw [e]
  have h2 : (UInt8.ofNat (n / 2 ^ (8 * i))).toNat = n / 2 ^ (8 * i) % 256 := by simp
  rw [h2]
  simp
theorem u8s_be {n k j : Nat} (h : j < k) : u8s ((beL n k).take j) ++ [Value.int .u8 ((n : Int) / 2 ^ (8 * (k - 1 - j)) % 256)] = u8s ((beL n k).take (j + 1)) := by
  rw [take_snoc_get (beL_get h), be_byte]
  simp [u8s]

set_option maxRecDepth 100000 in
set_option maxHeartbeats 1000000 in
theorem refBe_any (n k : Nat) (w : World) (_hn : n < 18446744073709551616) (hk : k ≤ 8) (hk1 : 0 < k) : Calls Try.prog 84 #[.int .u64 n, .int .i64 k] w fun e w' => e = .returned (.string (mkB (beL n k))) ∧ Below w.heap.size w w' := by
  obtain ⟨i0, hi0, hz0, hz1, hz2⟩ := info_parts infoU
  go_enter Try.func84, Try.ntmps84
  go_wp2
  go_loopg [5, 6] k (fun g s5 s6 wr => ∃ (j : Nat) (A : Option Addr) (c : Nat), j ≤ k ∧ k - j ≤ g ∧ s6 = .int .i64 ((k : Int) - 1 - j) ∧ s5 = .slice A j c ∧ Hid (wr.ownsRow w.heap.size 5 1 (.slice A j c) j (u8s ((beL n k).take j)) ∧ Below w.heap.size w wr))
  case atStart => exact ⟨0, none, 0, Nat.zero_le _, by omega, by go_num, rfl, Lib.hid ⟨own_nil, Below.refl _ _⟩⟩
  case round =>
    obtain ⟨j, A, c, hj, hg, rfl, rfl, J⟩ := hrel
    by_cases hlt : j < k
    · have h0 : (0 : Int) ≤ (k : Int) - 1 - j := by omega
      have hi2 : (k : Int) - 1 - j = ((k - 1 - j : Nat) : Int) := by omega
      have HV := Lib.hid (u8s_be (n := n) hlt)
      rw [hi2]
      go_wp2_with (at_builtin; refine wpList_append_reads _ rfl (.tmp 13) (.tmp 19) 63 rfl w.heap.size 5 i0 _ 1 1 Try.underlying63 hi0 hz0 hz1 hz2 rfl (by omega) (.slice A j c) j (u8s ((beL n k).take j)) rfl (own_alloc J.out.1 _) _ (some ⟨wr.heap.size, 0, none⟩) 1 1 [.int .u8 ((n : Int) / 2 ^ (8 * (k - 1 - j)) % 256)] rfl (reads_new wr #[.int .u8 ((n : Int) / 2 ^ (8 * (k - 1 - j)) % 256)] 5 1 1 rfl) (by simp [Value.oneCell']) (by simp only [maxLen]; omega) (by omega) (by have := J.out.2.size; simp; omega) ?_; intro A6 c6 w6 ho6 hg6 _)
      have JN : Hid (w6.ownsRow w.heap.size 5 1 (.slice A6 (j + 1) c6) (j + 1) (u8s ((beL n k).take (j + 1))) ∧ Below w.heap.size w w6) :=
        Lib.hid ⟨own_eq_vals ho6 HV.out, (J.out.2.alloc J.out.2.size _).grown hg6 (by have := J.out.2.size; simp; omega) (fun q hq => by have := own_row_ge J.out.1 _ hq; omega)⟩
      go_roundg (k - (j + 1))
      case measure => omega
      case rel => exact ⟨j + 1, A6, c6, by omega, by omega, by go_num, rfl, JN⟩
    · have : j = k := by omega
      subst this
      have hT : (beL n j).take j = beL n j := List.take_of_length_le (by rw [beL_length]; exact Nat.le_refl _)
      have hO := J.out.1
      rw [hT] at hO
      have hconv := own_string Try.underlying63 Try.underlying5 Try.underlying9 hO (by omega)
      clear hT hO
      go_wp2
      go_ret
      exact ⟨rfl, J.out.2⟩

theorem neL_snoc (l : List UInt8) (b : UInt8) : neL (l ++ [b]) = neL l * 256 + b.toNat := by simp [neL]
theorem neL_go : ∀ (l : List UInt8) (n : Nat), l.foldl (fun n b => n * 256 + b.toNat) n < (n + 1) * 256 ^ l.length
  | [], n => by simp
  | b :: l, n => by
    have h := neL_go l (n * 256 + b.toNat)
    have hb := b.toNat_lt
    have h2 : (n * 256 + b.toNat + 1) * 256 ^ l.length ≤ ((n + 1) * 256) * 256 ^ l.length := Nat.mul_le_mul_right _ (by omega)
    show l.foldl (fun n b => n * 256 + b.toNat) (n * 256 + b.toNat) < _
    rw [List.length_cons, Nat.pow_succ, Nat.mul_comm (256 ^ l.length) 256, ← Nat.mul_assoc]
    omega
theorem neL_lt (l : List UInt8) : neL l < 256 ^ l.length := by
  have := neL_go l 0
  simpa [neL] using this
set_option maxRecDepth 100000 in
set_option maxHeartbeats 1000000 in
theorem refNe_any (s : ByteArray) (w : World) (hs : s.size ≤ 8) : Calls Try.prog 67 #[.string s] w fun e w' => e = .returned (.int .u64 (neL s.data.toList : Nat)) ∧ w = w' := by
  go_enter Try.func67, Try.ntmps67
  go_wp2
  go_loopg [3, 4] s.size (fun g s3 s4 wr => ∃ i : Nat, i ≤ s.size ∧ s.size - i ≤ g ∧ s4 = .int .i64 i ∧ s3 = .int .u64 (neL (s.data.toList.take i) : Nat) ∧ w = wr)
  case atStart => exact ⟨0, Nat.zero_le _, by omega, rfl, rfl, rfl⟩
  case round =>
    obtain ⟨i, hi, hg, rfl, rfl, rfl⟩ := hrel
    by_cases hlt : i < s.size
    · have hin : (i : Int) < (s.size : Int) := by omega
      have hb := s[i].toNat_lt
      have hlt7 : neL (s.data.toList.take i) < 72057594037927936 := by
        have h1 := neL_lt (s.data.toList.take i)
        have h2 : (s.data.toList.take i).length ≤ 7 := by rw [List.length_take]; omega
        exact Nat.lt_of_lt_of_le h1 (Nat.le_trans (Nat.pow_le_pow_right (by decide) h2) (by decide))
      have HW : Hid (IntKind.u64.wrap (IntKind.u64.wrap ((neL (s.data.toList.take i) : Nat) * 256) + IntKind.u64.wrap (s[i].toNat : Int)) = ((neL (s.data.toList.take (i + 1)) : Nat) : Int)) := Lib.hid (by
        rw [take_snoc s i hlt, neL_snoc, IntKind.wrap_u64, IntKind.wrap_u64, IntKind.wrap_u64]
        omega)
      clear hlt7 hb
      go_wp2
      go_roundg (s.size - (i + 1))
      case measure => omega
      case rel => exact ⟨i + 1, by omega, by omega, by go_num, by rw [HW.out], rfl⟩
    · have : i = s.size := by omega
      subst this
      have ht : Hid (neL (s.data.toList.take s.size) = neL s.data.toList) := Lib.hid (by rw [List.take_of_length_le (by simp)])
      go_wp2
      go_ret
      rw [ht.out]
      exact ⟨rfl, rfl⟩

theorem padL_of (s : ByteArray) : s ++ strOfNums (List.replicate (128 - s.size) 0) = padL s.data.toList := by
  apply ByteArray.ext
  rw [ByteArray.data_append]
  have hl : s.data.toList.length = s.size := by simp
  unfold padL mkB strOfNums
  rw [hl, List.map_replicate]
  apply Array.ext'
  simp
end Go.Proofs.Ytcfmpmcdfllibaa

/-
  Numbers of two bytes each, as the program reads them out of an inode or an indirect block.
-/
namespace Go.Proofs.Ytcfmpmcdfllibaa
open Go.RowKit

/-- The number at the i-th place. -/
def wordN (s : ByteArray) (i : Nat) : Nat := 256 * byA s (2 * i) + byA s (2 * i + 1)
def wdL (s : ByteArray) (k i : Nat) : List Nat := (List.range i).map (wordN s) ++ List.replicate (k - i) 0
theorem wdL_length {s : ByteArray} {k i : Nat} (h : i ≤ k) : (wdL s k i).length = k := by simp [wdL]; omega
theorem wdL_zero (s : ByteArray) (k : Nat) : wdL s k 0 = List.replicate k 0 := by simp [wdL]
theorem wdL_all (s : ByteArray) (k : Nat) : wdL s k k = (List.range k).map (wordN s) := by simp [wdL]
theorem wdL_step {s : ByteArray} {k i : Nat} (h : i < k) : (wdL s k i).set i (wordN s i) = wdL s k (i + 1) := by
  unfold wdL
  rw [List.set_append_right _ _ (by simp), List.range_succ, List.map_append, List.append_assoc]
  congr 1
  simp only [List.length_map, List.length_range, Nat.sub_self, List.map_cons, List.map_nil]
  rw [show k - i = (k - (i + 1)) + 1 by omega, List.replicate_succ]
  rfl
theorem encW_set (l : List Nat) (j x : Nat) : (encN l).set j (.int .i64 (x : Int)) = encN (l.set j x) := by
  unfold encN
  rw [List.map_set]
theorem wordN_lt (s : ByteArray) (i : Nat) : wordN s i < 65536 := by
  have h1 : byA s (2 * i) < 256 := UInt8.toNat_lt _
  have h2 : byA s (2 * i + 1) < 256 := UInt8.toNat_lt _
  unfold wordN
  omega
theorem byA_get (s : ByteArray) (i : Nat) (h : i < s.size) : byA s i = s[i].toNat := by
  unfold byA
  rw [List.getD_eq_getElem?_getD, List.getElem?_eq_getElem (by simpa using h)]
  rfl

theorem or64 : ∀ x y : Fin 256, bits BinOp.or IntKind.i64 (wrap64 (wrap64 (x.val : Int) * 256)) (wrap64 (y.val : Int)) = ((256 * x.val + y.val : Nat) : Int) := by decide +kernel
theorem wordN_bits (s : ByteArray) (j : Nat) (h1 : 2 * j < s.size) (h2 : 2 * j + 1 < s.size) : bits BinOp.or IntKind.i64 (wrap64 (wrap64 (s[2 * j].toNat : Int) * 256)) (wrap64 (s[2 * j + 1].toNat : Int)) = ((wordN s j : Nat) : Int) := by
  have h := or64 ⟨s[2 * j].toNat, UInt8.toNat_lt _⟩ ⟨s[2 * j + 1].toNat, UInt8.toNat_lt _⟩
  dsimp only at h
  rw [h]
  unfold wordN
  rw [byA_get s _ h1, byA_get s _ h2]

set_option maxRecDepth 100000 in
set_option maxHeartbeats 2000000 in
theorem wordsI_any (s : ByteArray) (k : Nat) (w : World) (hk : s.size / 2 = k) (hk2 : k ≤ 512) :
    Calls Try.prog 56 #[.string s] w fun e w' => ∃ A c, e = .returned (.slice A k c) ∧ w'.ownsRow w.heap.size 3 1 (.slice A k c) k (encN ((List.range k).map (wordN s))) ∧ Below w.heap.size w w' := by
  obtain ⟨i0, hi0, hz0, hz1, hz2⟩ := info_parts infoI
  have hki : (s.size : Int) / 2 = (k : Int) := by omega
  have hkt : (s.size : Int).tdiv 2 = (k : Int) := by rw [Int.tdiv_eq_ediv_of_nonneg (by omega)]; omega
  go_enter Try.func56, Try.ntmps56
  go_wp2_with (at_make; refine wpList_make_full _ rfl _ _ 38 rfl w.heap.size 3 i0 _ 1 Try.underlying38 hi0 hz0 hz1 .i64 .i64 k k k rfl rfl rfl rfl ?_ ?_ ?_ ?_)
  any_goals (first | (rw [hz2]; omega) | omega | (simp only [maxLen]; omega) | exact Nat.le_refl _)
  intro w1 ho1 hg1
  have hb1 : Below w.heap.size w w1 := (Below.refl _ _).grown hg1 (Nat.le_refl _) (by intro k hk; cases hk)
  have J1 : Hid (w1.ownsRow w.heap.size 3 1 (.slice (some ⟨w.heap.size, 0, none⟩) k k) k (encN (wdL s k 0)) ∧ Below w.heap.size w w1) := Lib.hid ⟨own_eq_vals ho1 (by rw [wdL_zero, toList_madeCells_one]; simp [encN]), hb1⟩
  clear ho1 hg1 hb1
  go_wp2
  go_loopg [11] k (fun g s11 wr => ∃ j : Nat, j ≤ k ∧ k - j ≤ g ∧ s11 = .int .i64 j ∧ Hid (wr.ownsRow w.heap.size 3 1 (.slice (some ⟨w.heap.size, 0, none⟩) k k) k (encN (wdL s k j)) ∧ Below w.heap.size w wr))
  case atStart => exact ⟨0, Nat.zero_le _, by omega, rfl, J1⟩
  case round =>
    obtain ⟨j, hj, hg, rfl, J⟩ := hrel
    by_cases hlt : j < k
    · have hjk : (j : Int) < (k : Int) := by omega
      have hlen := wdL_length (s := s) (k := k) (i := j) (by omega)
      have hcj := J.out.1.cellAt j (by omega)
      rw [encN_get (by rw [hlen]; omega)] at hcj
      have hfj := J.out.1.frozenAt j
      have hst := J.out.1.stored j (.int .i64 (wordN s j : Nat))
      have h1j : 2 * j < s.size := by omega
      have h2j : 2 * j + 1 < s.size := by omega
      have h1ji : 2 * (j : Int) < (s.size : Int) := by omega
      have h2ji : 2 * (j : Int) + 1 < (s.size : Int) := by omega
      have h0jj : (0 : Int) ≤ 2 * (j : Int) := by omega
      have htjj : (2 * (j : Int)).toNat = 2 * j := by omega
      have hwjj : IntKind.i64.wrap (2 * (j : Int)) = 2 * (j : Int) := by rw [IntKind.wrap_i64]; omega
      have h0ji : (0 : Int) ≤ 2 * (j : Int) + 1 := by omega
      have htj : (2 * (j : Int) + 1).toNat = 2 * j + 1 := by omega
      have hwj : IntKind.i64.wrap (2 * (j : Int) + 1) = 2 * (j : Int) + 1 := by rw [IntKind.wrap_i64]; omega
      have JN : Hid ((wr.setCell ⟨w.heap.size, j, none⟩ (.int .i64 (wordN s j : Nat))).ownsRow w.heap.size 3 1 (.slice (some ⟨w.heap.size, 0, none⟩) k k) k (encN (wdL s k (j + 1))) ∧ Below w.heap.size w (wr.setCell ⟨w.heap.size, j, none⟩ (.int .i64 (wordN s j : Nat)))) :=
        Lib.hid ⟨own_eq_vals hst.1 (by rw [encW_set, wdL_step hlt]), J.out.2.setCell (p := ⟨w.heap.size, j, none⟩) (Nat.le_refl _) _⟩
      clear hlen hst
      go_upto_region 5 with fail
      go_region
      rw [wordN_bits s j h1j h2j]
      have JD := Lib.hid (And.intro (JN.out.1.drew) (JN.out.2.drew))
      clear JN
      go_wp2
      go_roundg (k - (j + 1))
      case measure => omega
      case rel => exact ⟨j + 1, by omega, by omega, by go_num, JD⟩
    · have : j = k := by omega
      subst this
      have hO := J.out.1
      rw [wdL_all] at hO
      go_wp2
      go_ret
      exact ⟨_, _, rfl, hO, J.out.2⟩

end Go.Proofs.Ytcfmpmcdfllibaa

/-
  Inodes as plain records: what an image's bytes say of one, and how one is written.
-/
namespace Go.Proofs.Ytcfmpmcdfllibaa
open Go.RowKit

/-- An inode with its number and what its indirect block names. -/
structure RecI where
  num : Nat
  kind : Nat
  size : Nat
  bl : List Nat
  ind : Nat
  ls : List Nat
  deriving DecidableEq
/-- Its cells: those of the inode alone, and all. -/
def cellsI (r : RecI) : List Value := .int .i64 (r.kind : Int) :: .int .i64 (r.size : Int) :: (encN r.bl ++ [.int .i64 (r.ind : Int)])
def cellsR (r : RecI) : List Value := .int .i64 (r.num : Int) :: (cellsI r ++ encN r.ls)
def valI (r : RecI) : Value := .agg (cellsI r).toArray
def valR (r : RecI) : Value := .agg (cellsR r).toArray
/-- As long as it must be, its numbers as great as they can be. -/
structure OkR (r : RecI) : Prop where
  bl : r.bl.length = 4
  ls : r.ls.length = 64
  num : r.num ≤ 1024
  kind : r.kind ≤ 255
  size : r.size < 4294967296
  ind : r.ind < 65536
theorem cellsI_length {r : RecI} (h : OkR r) : (cellsI r).length = 7 := by simp [cellsI, encN_length, h.bl]
theorem cellsR_length {r : RecI} (h : OkR r) : (cellsR r).length = 72 := by simp [cellsR, cellsI_length h, encN_length, h.ls]
theorem cellsI_one (r : RecI) : ∀ u ∈ cellsI r, u.oneCell' = true := by
  intro u hu
  simp only [cellsI, List.mem_cons, List.mem_append, List.not_mem_nil, or_false] at hu
  rcases hu with rfl | rfl | hu | rfl
  · rfl
  · rfl
  · exact encN_one _ u hu
  · rfl
theorem cellsR_one (r : RecI) : ∀ u ∈ cellsR r, u.oneCell' = true := by
  intro u hu
  simp only [cellsR, List.mem_cons, List.mem_append] at hu
  rcases hu with rfl | hu | hu
  · rfl
  · exact cellsI_one _ u hu
  · exact encN_one _ u hu

/-- Two bytes from a place on, as a number. -/
def w2 (s : ByteArray) (o : Nat) : Nat := 256 * byA s o + byA s (o + 1)
theorem w2_lt (s : ByteArray) (o : Nat) : w2 s o < 65536 := by
  have h1 : byA s o < 256 := UInt8.toNat_lt _
  have h2 : byA s (o + 1) < 256 := UInt8.toNat_lt _
  unfold w2; omega
def padN (k : Nat) (l : List Nat) : List Nat := l ++ List.replicate (k - l.length) 0
theorem padN_length {k : Nat} {l : List Nat} (h : l.length ≤ k) : (padN k l).length = k := by simp [padN]; omega
/-- The inode of a number, as an image's bytes say. -/
def recI (img : List ByteArray) (i : Nat) : RecI where
  num := i
  kind := byA (rawI img i) 0
  size := 65536 * w2 (rawI img i) 1 + w2 (rawI img i) 3
  bl := [w2 (rawI img i) 5, w2 (rawI img i) 7, w2 (rawI img i) 9, w2 (rawI img i) 11]
  ind := w2 (rawI img i) 13
  ls := if w2 (rawI img i) 13 = 0 then List.replicate 64 0 else (List.range 64).map (wordN (blkI img (w2 (rawI img i) 13)))
theorem recI_ok (img : List ByteArray) (i : Nat) (hi : i ≤ 1024) : OkR (recI img i) where
  bl := rfl
  ls := by
    show (if _ then _ else _ : List Nat).length = 64
    split <;> simp
  num := hi
  kind := by have := byA_lt (rawI img i) 0; show byA _ _ ≤ 255; omega
  size := by
    have h1 := w2_lt (rawI img i) 1
    have h2 := w2_lt (rawI img i) 3
    show 65536 * w2 _ 1 + w2 _ 3 < _; omega
  ind := w2_lt _ _

/-- Its data blocks; all that it names. -/
def dataR (r : RecI) : List Nat := (r.bl ++ r.ls).take (needN r.size)
def namedR (r : RecI) : List Nat := dataR r ++ if r.ind = 0 then [] else [r.ind]
theorem dataR_length {r : RecI} (h : OkR r) : (dataR r).length = min (needN r.size) 68 := by simp [dataR, h.bl, h.ls]
/-- The same inode with another size and other blocks. -/
def nameR (r : RecI) (size : Nat) (data : List Nat) (ind : Nat) : RecI := { r with size := size, bl := padN 4 (data.take 4), ind := ind, ls := padN 64 ((data.drop 4).take 64) }
theorem nameR_ok {r : RecI} (h : OkR r) {size : Nat} {data : List Nat} {ind : Nat} (hs : size < 4294967296) (hi : ind < 65536) : OkR (nameR r size data ind) where
  bl := padN_length (by simp; omega)
  ls := padN_length (by simp; omega)
  num := h.num
  kind := h.kind
  size := hs
  ind := hi
/-- Its bytes. -/
def headR (r : RecI) : List UInt8 := UInt8.ofNat r.kind :: (beL (r.size / 65536) 2 ++ beL r.size 2 ++ (r.bl.flatMap fun p => beL p 2) ++ beL r.ind 2)
def textR (r : RecI) : ByteArray := mkB (headR r ++ List.replicate 17 0)
theorem flat2_length (l : List Nat) : (l.flatMap fun p => beL p 2).length = 2 * l.length := by
  induction l with
  | nil => rfl
  | cons a l ih => rw [List.flatMap_cons, List.length_append, ih, List.length_cons]; have : (beL a 2).length = 2 := by simp [beL]
                   omega
theorem headR_length {r : RecI} (h : OkR r) : (headR r).length = 15 := by
  have h1 : ∀ n, (beL n 2).length = 2 := fun n => by simp [beL]
  simp only [headR, List.length_cons, List.length_append, flat2_length, h1, h.bl]
theorem mkB_size (l : List UInt8) : (mkB l).size = l.length := by show l.toArray.size = _; simp
theorem textR_size {r : RecI} (h : OkR r) : (textR r).size = 32 := by rw [textR, mkB_size]; simp [headR_length h]
/-- Bytes laid over a block's from a place on. -/
def overB (b : ByteArray) (o : Nat) (s : ByteArray) : ByteArray := mkB (b.data.toList.take o ++ s.data.toList ++ b.data.toList.drop (o + s.size))
theorem overB_size {b s : ByteArray} {o : Nat} (h : o + s.size ≤ b.size) : (overB b o s).size = b.size := by
  have hb : b.data.toList.length = b.size := by simp
  have hs : s.data.toList.length = s.size := by simp
  rw [overB, mkB_size, List.length_append, List.length_append, List.length_take, List.length_drop, hb, hs]; omega
def putI (img : List ByteArray) (i o : Nat) (s : ByteArray) : List ByteArray := if i < img.length then img.set i (overB (blkI img i) o s) else img
theorem putI_length (img : List ByteArray) (i o : Nat) (s : ByteArray) : (putI img i o s).length = img.length := by unfold putI; split <;> simp
def listB (l : List Nat) : ByteArray := mkB (l.flatMap fun p => beL p 2)
theorem listB_size (l : List Nat) : (listB l).size = 2 * l.length := by rw [listB, mkB_size, flat2_length]
def saveR (img : List ByteArray) (r : RecI) : List ByteArray :=
  if r.ind = 0 then putI img (2 + r.num / 4) (32 * (r.num % 4)) (textR r) else putI (putI img (2 + r.num / 4) (32 * (r.num % 4)) (textR r)) r.ind 0 (listB r.ls)
theorem saveR_length (img : List ByteArray) (r : RecI) : (saveR img r).length = img.length := by unfold saveR; split <;> simp [putI_length]
/-- What its data blocks hold. -/
def flatR (img : List ByteArray) (r : RecI) : List UInt8 := (dataR r).flatMap fun i => (blkI img i).data.toList
theorem flatI_length (img : List ByteArray) : ∀ l : List Nat, (l.flatMap fun i => (blkI img i).data.toList).length = 128 * l.length
  | [] => rfl
  | a :: l => by
    have h : (blkI img a).data.toList.length = 128 := by have := blkI_size img a; simpa using this
    rw [List.flatMap_cons, List.length_append, flatI_length img l, h, List.length_cons]; omega

end Go.Proofs.Ytcfmpmcdfllibaa
