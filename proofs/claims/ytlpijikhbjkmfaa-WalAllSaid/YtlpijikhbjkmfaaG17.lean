/-
  The contracts of Go's own strings.Join, of a strings.Builder's methods and of slices.Max at this program, out of the library's shelf.
-/
import Derived.Shelf.Strings.OnBuilder
import Derived.Shelf.Slices.Turned
import Derived.Test.YtlpijikhbjkmfaaProg
import Derived.Test.YtlpijikhbjkmfaaG16
import Derived.Test.YtlpijikhbjkmfaaG11
import Derived.Laws.BitsAllLaws
namespace Go.Proofs
open Go.Shelf
def Try.lays169_ren : Go.Shelf.Ren := ⟨fun | 169 => 87 | n => n, fun | 70 => 123 | 9 => 9 | 0 => 0 | 72 => 125 | 37 => 83 | 127 => 140 | 3 => 3 | 5 => 5 | n => n, fun | n => n⟩
theorem Try.lays169 : Go.Proofs.Lays.n169 Try.prog Try.lays169_ren := {
  mixed := by kernel_rfl
  f169 := Try.func87.trans (congrArg some (by kernel_rfl))
  t0 := Try.underlying0
  a0 := Try.isAgg0
  z0 := Try.sizeOf0
  v0 := Try.zeroValue0
  t3 := Try.underlying3
  a3 := Try.isAgg3
  z3 := Try.sizeOf3
  v3 := Try.zeroValue3
  t9 := Try.underlying9
  a9 := Try.isAgg9
  z9 := Try.sizeOf9
  v9 := Try.zeroValue9
  t37 := Try.underlying83
  a37 := Try.isAgg83
  z37 := Try.sizeOf83
  v37 := Try.zeroValue83
  t70 := Try.underlying123
  a70 := Try.isAgg123
  z70 := Try.sizeOf123
  v70 := Try.zeroValue123
  t72 := Try.underlying125
  a72 := Try.isAgg125
  z72 := Try.sizeOf125
  v72 := Try.zeroValue125
  t127 := Try.underlying140
  a127 := Try.isAgg140
  z127 := Try.sizeOf140
  v127 := Try.zeroValue140 }
theorem Try.Builder_Extra_169 : Builder.Extra Try.prog Try.lays169_ren := {
  sizeBuilder := by kernel_rfl
  liesBuilder := by kernel_rfl
  t5 := Try.underlying5
  a5 := Try.isAgg5
  z5 := Try.sizeOf5
  v5 := Try.zeroValue5
  infoByte := by kernel_rfl
  cellsByte := by kernel_rfl
  sizeByte := by kernel_rfl
  neB5 := by decide }
open Go.RowKit in
/-- (*strings.Builder).String: "String returns the accumulated string.": WHATEVER THE BUILDER HOLDS. (LAID: no walk: one application.) -/
theorem Try.Builder_String_any (B b : Nat) (l : List UInt8) (w : World) (h : Lib.IsBuilder 125 5 B b (Lib.byteCells l) w) (hBw : B ≤ w.heap.size) :
    Calls Try.prog 87 #[.pointer (some ⟨b, 0, none⟩)] w fun e w' => e = .returned (.string ⟨l.toArray⟩) ∧ Below B w w' := Any.Builder_String_any Try.lays169 Try.Builder_Extra_169 B b l w h hBw
def Try.lays156_ren : Go.Shelf.Ren := ⟨fun | 156 => 69 | 165 => 84 | 166 => 85 | 169 => 87 | 240 => 95 | 241 => 96 | 276 => 97 | 277 => 98 | n => n, fun | 31 => 22 | 9 => 9 | 3 => 3 | 4 => 4 | 0 => 0 | 20 => 20 | 72 => 125 | 76 => 129 | 70 => 123 | 37 => 83 | 75 => 128 | 127 => 140 | 164 => 141 | 5 => 5 | 80 => 69 | n => n, fun | n => n⟩
theorem Try.lays156 : Go.Proofs.Lays.n156 Try.prog Try.lays156_ren := {
  mixed := by kernel_rfl
  f156 := Try.func69.trans (congrArg some (by kernel_rfl))
  f165 := Try.func84.trans (congrArg some (by kernel_rfl))
  f166 := Try.func85.trans (congrArg some (by kernel_rfl))
  f169 := Try.func87.trans (congrArg some (by kernel_rfl))
  f240 := Try.func95.trans (congrArg some (by kernel_rfl))
  f241 := Try.func96.trans (congrArg some (by kernel_rfl))
  f276 := Try.func97.trans (congrArg some (by kernel_rfl))
  f277 := Try.func98.trans (congrArg some (by kernel_rfl))
  t0 := Try.underlying0
  a0 := Try.isAgg0
  z0 := Try.sizeOf0
  v0 := Try.zeroValue0
  t3 := Try.underlying3
  a3 := Try.isAgg3
  z3 := Try.sizeOf3
  v3 := Try.zeroValue3
  t4 := Try.underlying4
  a4 := Try.isAgg4
  z4 := Try.sizeOf4
  v4 := Try.zeroValue4
  t9 := Try.underlying9
  a9 := Try.isAgg9
  z9 := Try.sizeOf9
  v9 := Try.zeroValue9
  t20 := Try.underlying20
  a20 := Try.isAgg20
  z20 := Try.sizeOf20
  v20 := Try.zeroValue20
  t31 := Try.underlying22
  a31 := Try.isAgg22
  z31 := Try.sizeOf22
  v31 := Try.zeroValue22
  t37 := Try.underlying83
  a37 := Try.isAgg83
  z37 := Try.sizeOf83
  v37 := Try.zeroValue83
  t70 := Try.underlying123
  a70 := Try.isAgg123
  z70 := Try.sizeOf123
  v70 := Try.zeroValue123
  t72 := Try.underlying125
  a72 := Try.isAgg125
  z72 := Try.sizeOf125
  v72 := Try.zeroValue125
  t75 := Try.underlying128
  a75 := Try.isAgg128
  z75 := Try.sizeOf128
  v75 := Try.zeroValue128
  t76 := Try.underlying129
  a76 := Try.isAgg129
  z76 := Try.sizeOf129
  v76 := Try.zeroValue129
  t127 := Try.underlying140
  a127 := Try.isAgg140
  z127 := Try.sizeOf140
  v127 := Try.zeroValue140
  t164 := Try.underlying141
  a164 := Try.isAgg141
  z164 := Try.sizeOf141
  v164 := Try.zeroValue141 }
theorem Try.Builder_Extra_156 : Builder.Extra Try.prog Try.lays156_ren := {
  sizeBuilder := by kernel_rfl
  liesBuilder := by kernel_rfl
  t5 := Try.underlying5
  a5 := Try.isAgg5
  z5 := Try.sizeOf5
  v5 := Try.zeroValue5
  infoByte := by kernel_rfl
  cellsByte := by kernel_rfl
  sizeByte := by kernel_rfl
  neB5 := by decide }
open Go.RowKit in
/-- No element: the empty string; the world is as it was. (Whatever the slice's address and capacity: a nil slice too.) (LAID: no walk: one application.) -/
theorem Try.strings_Join_none (a : Option Addr) (c : Nat) (sep : ByteArray) (w : World) :
    Calls Try.prog 69 #[.slice a 0 c, .string sep] w fun e w' => e = .returned (.string ⟨#[]⟩) ∧ w' = w := Any.strings_Join_none Try.lays156 Try.Builder_Extra_156 a c sep w
open Go.RowKit in
/-- strings.Join: "Join concatenates the elements of its first argument to create a single string. The separator string sep is placed between elements in the resulting string.": HOWEVER MANY ELEMENTS. Below the heap's end the world is as it was. (LAID: no walk: one application.) -/
theorem Try.strings_Join (bk o c : Nat) (xs : List ByteArray) (sep : ByteArray) (w : World) (hcells : ∀ (j : Nat) x, xs[j]? = some x → w.cell? ⟨bk, o + j, none⟩ = some (.string x)) (hbk : bk < w.heap.size) (hN : xs.length ≤ 140737488355328) (hcap : xs.length ≤ c) (hlen : (Lib.join (xs.map (·.data.toList)) sep.data.toList).length ≤ 140737488355328) :
    Calls Try.prog 69 #[.slice (some ⟨bk, o, none⟩) xs.length c, .string sep] w fun e w' => e = .returned (.string ⟨(Lib.join (xs.map (·.data.toList)) sep.data.toList).toArray⟩) ∧ Below w.heap.size w w' := Any.strings_Join Try.lays156 Try.Builder_Extra_156 bk o c xs sep w hcells hbk hN hcap hlen
def Try.lays113_ren : Go.Shelf.Ren := ⟨fun | 113 => 70 | n => n, fun | 28 => 41 | 3 => 3 | 4 => 4 | 9 => 9 | 20 => 20 | 0 => 0 | n => n, fun | n => n⟩
theorem Try.lays113 : Go.Proofs.Lays.n113 Try.prog Try.lays113_ren := {
  mixed := by kernel_rfl
  f113 := Try.func70.trans (congrArg some (by kernel_rfl))
  t0 := Try.underlying0
  a0 := Try.isAgg0
  z0 := Try.sizeOf0
  v0 := Try.zeroValue0
  t3 := Try.underlying3
  a3 := Try.isAgg3
  z3 := Try.sizeOf3
  v3 := Try.zeroValue3
  t4 := Try.underlying4
  a4 := Try.isAgg4
  z4 := Try.sizeOf4
  v4 := Try.zeroValue4
  t9 := Try.underlying9
  a9 := Try.isAgg9
  z9 := Try.sizeOf9
  v9 := Try.zeroValue9
  t20 := Try.underlying20
  a20 := Try.isAgg20
  z20 := Try.sizeOf20
  v20 := Try.zeroValue20
  t28 := Try.underlying41
  a28 := Try.isAgg41
  z28 := Try.sizeOf41
  v28 := Try.zeroValue41 }
open Go.Lib in
/-- slices.Max at []int: "Max returns the maximal value in x. It panics if x is empty.": OF A SLICE THAT IS NOT EMPTY IT RETURNS 'Lib.maxOf (the elements)'; the world is as it was. (Of an empty one it panics: no contract here.) (LAID: no walk: one application.) -/
theorem Try.slices_Max_int (b off n c : Nat) (zs : List Int) (w : World) (hn : 0 < n) (hz : n ≤ zs.length) (hbig : n ≤ 9223372036854775807) (hc : ∀ j, j < zs.length → w.cell? ⟨b, off + j, none⟩ = some (.int .i64 (zs.getD j 0))) :
    Calls Try.prog 70 #[.slice (some ⟨b, off, none⟩) n c] w fun e w' => e = .returned (.int .i64 (Lib.maxOf (zs.take n))) ∧ w' = w := Any.slices_Max_int Try.lays113 b off n c zs w hn hz hbig hc
open Go.RowKit Go.Lib in
theorem Try.Builder_WriteString (B b : Nat) (bs : List Value) (s : ByteArray) (w : World) (h : Lib.IsBuilder 125 5 B b bs w) (hlen : bs.length + s.size ≤ 140737488355328) (hBw : B ≤ w.heap.size) :
    Calls Try.prog 85 #[.pointer (some ⟨b, 0, none⟩), .string s] w fun e w' => e = .returned (.tuple #[.int .i64 s.size, .nilIface]) ∧ (Lib.BuilderAt 125 5 B b (.pointer (some ⟨b, 0, none⟩)) (bs ++ Lib.strCells s) w' ∧ Below B w w') :=
  Any.Builder_WriteString (P := Try.prog) (ρ := Try.lays156_ren) { Try.lays156 with } Try.Builder_Extra_156 B b bs s w h hlen hBw
end Go.Proofs

/-
  The program's own numbers as bytes and back, and blocks filled up with zeros.
-/
namespace Go.Proofs.Ytlpijikhbjkmfaa
open Go.RowKit

/-- The bytes of a number while the last i of them are written. -/
def digL (n k i : Nat) : List UInt8 := List.replicate (k - i) 0 ++ (beL n k).drop (k - i)
theorem digL_length {n k i : Nat} (_h : i ≤ k) : (digL n k i).length = k := by simp [digL, beL_length]
theorem digL_zero (n k : Nat) : digL n k 0 = List.replicate k 0 := by simp [digL, beL_length, List.drop_eq_nil_of_le]
theorem digL_all (n k : Nat) : digL n k k = beL n k := by simp [digL]
theorem digL_step {n k i : Nat} (h : i < k) : (digL n k i).set (k - 1 - i) (UInt8.ofNat (n / 256 ^ i)) = digL n k (i + 1) := by
  refine List.ext_getElem? fun j => ?_
  have hl := digL_length (n := n) (k := k) (i := i) (by omega)
  rw [List.getElem?_set]
  by_cases hj : k - 1 - i = j
  · subst hj
    rw [if_pos rfl, if_pos (by rw [hl]; omega)]
    unfold digL
    rw [List.getElem?_append_right (by simp; omega)]
    simp only [List.length_replicate, List.getElem?_drop]
    rw [show k - (i + 1) + (k - 1 - i - (k - (i + 1))) = k - 1 - i by omega, beL_get (by omega), show k - 1 - (k - 1 - i) = i by omega]
  · rw [if_neg hj]
    unfold digL
    by_cases hlt : j < k - 1 - i
    · rw [List.getElem?_append_left (by simp; omega), List.getElem?_append_left (by simp; omega), List.getElem?_replicate, List.getElem?_replicate, if_pos (by omega), if_pos (by omega)]
    · rw [List.getElem?_append_right (by simp; omega), List.getElem?_append_right (by simp; omega)]
      simp only [List.length_replicate, List.getElem?_drop]
      rw [show k - i + (j - (k - i)) = j by omega, show k - (i + 1) + (j - (k - (i + 1))) = j by omega]
theorem u8s_set (l : List UInt8) (j : Nat) (b : UInt8) : (u8s l).set j (.int .u8 (b.toNat : Int)) = u8s (l.set j b) := by
  unfold u8s
  rw [List.map_set]
theorem u8s_get {l : List UInt8} {j : Nat} (h : j < l.length) : (u8s l)[j]? = some (.int .u8 ((l.getD j 0).toNat : Int)) := by simp [u8s, h]

set_option maxRecDepth 100000 in
set_option maxHeartbeats 2000000 in
theorem digits_any (n k : Nat) (w : World) (_hn : n < 18446744073709551616) (hk : k ≤ 8) (hk1 : 0 < k) : Calls Try.prog 79 #[.int .u64 n, .int .i64 k] w fun e w' => e = .returned (.string (mkB (beL n k))) ∧ Below w.heap.size w w' := by
  obtain ⟨i0, hi0, hz0, hz1, hz2⟩ := info_parts infoU
  go_enter Try.func79, Try.ntmps79
  go_wp2_with (at_make; refine wpList_make_full _ rfl _ _ 83 rfl w.heap.size 5 i0 _ 1 Try.underlying83 hi0 hz0 hz1 .i64 .i64 k k k rfl rfl rfl rfl ?_ ?_ ?_ ?_)
  · rw [hz2]; omega
  · simp only [maxLen]; omega
  · exact Nat.le_refl _
  intro w1 ho1 hg1
  have hb1 : Below w.heap.size w w1 := (Below.refl _ _).grown hg1 (Nat.le_refl _) (by intro k hk; cases hk)
  have J1 : Hid (w1.ownsRow w.heap.size 5 1 (.slice (some ⟨w.heap.size, 0, none⟩) k k) k (u8s (digL n k 0)) ∧ Below w.heap.size w w1) := Lib.hid ⟨own_eq_vals ho1 (by rw [digL_zero, toList_madeCells_one]; simp [u8s]), hb1⟩
  clear ho1 hg1 hb1
  go_wp2
  go_loopg [11] k (fun g s11 wr => ∃ j : Nat, j ≤ k ∧ k - j ≤ g ∧ s11 = .int .i64 j ∧ Hid (wr.ownsRow w.heap.size 5 1 (.slice (some ⟨w.heap.size, 0, none⟩) k k) k (u8s (digL n k j)) ∧ Below w.heap.size w wr))
  case atStart => exact ⟨0, Nat.zero_le _, by omega, rfl, J1⟩
  case round =>
    obtain ⟨j, hj, hg, rfl, J⟩ := hrel
    by_cases hlt : j < k
    · have hjk : (j : Int) < (k : Int) := by omega
      have hi2 : (k : Int) - 1 - j = ((k - 1 - j : Nat) : Int) := by omega
      have hlen := digL_length (n := n) (k := k) (i := j) (by omega)
      have hcj := J.out.1.cellAt (k - 1 - j) (by omega)
      rw [u8s_get (by rw [hlen]; omega)] at hcj
      have hfj := J.out.1.frozenAt (k - 1 - j)
      have hst := J.out.1.stored (k - 1 - j) (.int .u8 ((UInt8.ofNat (n / 256 ^ j)).toNat : Int))
      have JN : Hid ((wr.setCell ⟨w.heap.size, k - 1 - j, none⟩ (.int .u8 ((UInt8.ofNat (n / 256 ^ j)).toNat : Int))).ownsRow w.heap.size 5 1 (.slice (some ⟨w.heap.size, 0, none⟩) k k) k (u8s (digL n k (j + 1))) ∧ Below w.heap.size w (wr.setCell ⟨w.heap.size, k - 1 - j, none⟩ (.int .u8 ((UInt8.ofNat (n / 256 ^ j)).toNat : Int)))) :=
        Lib.hid ⟨own_eq_vals hst.1 (by rw [u8s_set, digL_step hlt]), J.out.2.setCell (p := ⟨w.heap.size, k - 1 - j, none⟩) (Nat.le_refl _) _⟩
      have hby := be_byte n j
      generalize (UInt8.ofNat (n / 256 ^ j)).toNat = by_ at hby JN
      have h8 : (8 : Int) * (j : Int) < 64 := by omega
      have hqk : k - 1 - j < k := by omega
      clear hlen hst
      go_wp2
      go_roundg (k - (j + 1))
      case measure => omega
      case rel => exact ⟨j + 1, by omega, by omega, by go_num, JN⟩
    · have : j = k := by omega
      subst this
      have hO := J.out.1
      rw [digL_all] at hO
      have hconv := own_string Try.underlying83 Try.underlying5 Try.underlying9 hO (by omega)
      clear hO
      go_wp2
      go_ret
      exact ⟨rfl, J.out.2⟩

theorem or64 (a : Nat) (b : UInt8) (ha : a < 72057594037927936) : bits .or .u64 ((a : Int) * 256) (b.toNat : Int) = ((a * 256 + b.toNat : Nat) : Int) := by
  have hb := b.toNat_lt
  have h1 : (a * 256) ||| b.toNat = a * 256 + b.toNat := by
    have := Nat.two_pow_add_eq_or_of_lt (i := 8) (b := b.toNat) (by omega) a
    rw [Nat.mul_comm a 256]
    exact this.symm
  rw [← h1, show (a : Int) * 256 = ((a * 256 : Nat) : Int) by omega]
  exact u64_or_nat _ _ (by omega) (by omega)

set_option maxRecDepth 100000 in
set_option maxHeartbeats 1000000 in
theorem number_any (s : ByteArray) (w : World) (hs : s.size ≤ 8) : Calls Try.prog 67 #[.string s] w fun e w' => e = .returned (.int .u64 (neL s.data.toList : Nat)) ∧ w = w' := by
  go_enter Try.func67, Try.ntmps67
  go_wp2
  go_loopg [3, 7] s.size (fun g s3 s4 wr => ∃ i : Nat, i ≤ s.size ∧ s.size - i ≤ g ∧ s4 = .int .i64 i ∧ s3 = .int .u64 (neL (s.data.toList.take i) : Nat) ∧ w = wr)
  case atStart => exact ⟨0, Nat.zero_le _, by omega, rfl, rfl, rfl⟩
  case round =>
    obtain ⟨i, hi, hg, rfl, rfl, rfl⟩ := hrel
    by_cases hlt : i < s.size
    · have hin : (i : Int) < (s.size : Int) := by omega
      have hb := s[i].toNat_lt
      have hlt7 : neL (s.data.toList.take i) < 72057594037927936 := by
        have h1 := neL_lt (s.data.toList.take i)
        have h2 : (s.data.toList.take i).length ≤ 7 := by rw [List.length_take]; omega
        exact Nat.lt_of_lt_of_le h1 (Nat.le_trans (Nat.pow_le_pow_right (by decide) h2) (by decide))
      have HS := Lib.hid (take_snoc s i hlt)
      have HO := Lib.hid (or64 _ s[i] hlt7)
      go_wp2
      go_roundg (s.size - (i + 1))
      case measure => omega
      case rel => exact ⟨i + 1, by omega, by omega, by go_num, by rw [HO.out, HS.out, neL_snoc], rfl⟩
    · have : i = s.size := by omega
      subst this
      have ht : Hid (neL (s.data.toList.take s.size) = neL s.data.toList) := Lib.hid (by rw [List.take_of_length_le (by simp)])
      go_wp2
      go_ret
      rw [ht.out]
      exact ⟨rfl, rfl⟩

theorem rep_zero : ∀ k : Nat, Lib.repeatL [0] k = List.replicate k 0
  | 0 => rfl
  | k + 1 => by rw [Lib.repeatL, rep_zero k]; rfl
theorem pad_rep (s : ByteArray) : s ++ (⟨(Lib.repeatL [0] (128 - s.size)).toArray⟩ : ByteArray) = padL s.data.toList := by
  apply ByteArray.ext
  rw [ByteArray.data_append, rep_zero]
  have hl : s.data.toList.length = s.size := by simp
  unfold padL mkB
  rw [hl]
  apply Array.ext'
  simp
set_option maxRecDepth 100000 in
set_option maxHeartbeats 1000000 in
theorem padded_any (s : ByteArray) (w : World) (hs : s.size ≤ 128) : Calls Try.prog 54 #[.string s] w fun e w' => e = .returned (.string (padL s.data.toList)) ∧ Below w.heap.size w w' := by
  obtain ⟨k, hk⟩ : ∃ k : Nat, k = 128 - s.size := ⟨_, rfl⟩
  have HP := Lib.hid (pad_rep s)
  have cr := fun W => Try.strings_Repeat ⟨#[0]⟩ k W (by omega) (by show 1 * k ≤ _; omega)
  rw [← hk] at HP
  have hk2 : (128 : Int) - (s.size : Int) = (k : Int) := by omega
  have hzs : (⟨(Lib.repeatL [0] k).toArray⟩ : ByteArray).size = k := by
    show (Lib.repeatL [0] k).toArray.size = k
    rw [rep_zero]; simp
  have hsum : ¬ 9223372036854775807 < s.size + (⟨(Lib.repeatL [0] k).toArray⟩ : ByteArray).size := by rw [hzs]; omega
  have cr : ∀ W : World, Calls Try.prog 64 #[.string ⟨#[0]⟩, .int .i64 k] W fun e w' => e = .returned (.string ⟨(Lib.repeatL [0] k).toArray⟩) ∧ Below W.heap.size W w' := cr
  clear hzs
  generalize (⟨(Lib.repeatL [0] k).toArray⟩ : ByteArray) = z at cr HP hsum
  clear hs hk
  go_enter Try.func54, Try.ntmps54
  go_wp2_with (go_at_call 64; refine (cr _).mono ?_; rintro e w1 ⟨rfl, hb1⟩)
  go_ret
  rw [HP.out]
  exact ⟨rfl, hb1⟩

end Go.Proofs.Ytlpijikhbjkmfaa

/-
  Places as bytes and back, and the joined bytes of blocks: the program's functions.
-/
namespace Go.Proofs.Ytlpijikhbjkmfaa
open Go.RowKit

theorem builder_step {T e : TypeId} {B b : Nat} {bs : List Value} {w w' : World} (h : Lib.IsBuilder T e B b bs w) (hb : Below w.heap.size w w') : Lib.IsBuilder T e B b bs w' := by
  rcases h with ⟨hB, v, hh, ho, hn⟩ | ⟨hB, v, hh, ho, hn⟩
  · exact .inl ⟨hB, v, (hb.block b (Array.getElem?_eq_some_iff.1 hh).1).trans hh, own_below ho hb, hn⟩
  · exact .inr ⟨hB, v, (hb.block b (Array.getElem?_eq_some_iff.1 hh).1).trans hh, own_below ho hb, hn⟩
theorem placesL_snoc (l : List Nat) (i : Nat) (h : i < l.length) : placesL (l.take (i + 1)) = placesL (l.take i) ++ beL (l.getD i 0) 2 := by
  rw [take_snoc_get (nat_get h)]
  simp [placesL]
theorem placesL_length (l : List Nat) : (placesL l).length = 2 * l.length := by
  induction l with
  | nil => rfl
  | cons a l ih =>
    have : placesL (a :: l) = beL a 2 ++ placesL l := rfl
    rw [this, List.length_append, beL_length, ih, List.length_cons]; omega

set_option maxRecDepth 100000 in
set_option maxHeartbeats 2000000 in
theorem listed_any (A : Option Addr) (n c : Nat) (l : List Nat) (w : World) (h : Reads w w.heap.size 1 A n (encN l)) (hn : n ≤ 512) (hl : ∀ k, k < n → l.getD k 0 < 65536) :
    Calls Try.prog 75 #[.slice A n c] w fun e w' => e = .returned (.string (mkB (placesL l))) ∧ Below w.heap.size w w' := by
  have H := Lib.hid h
  have HS := Lib.hid hl
  have HL := Lib.hid h.lenN
  clear h hl
  go_enter Try.func75, Try.ntmps75
  go_wp2
  go_loopg [8] n (fun g s8 wr => ∃ i : Nat, i ≤ n ∧ n - i ≤ g ∧ s8 = .int .i64 i ∧ Hid (Lib.IsBuilder 125 5 w.heap.size w.heap.size (Lib.byteCells (placesL (l.take i))) wr ∧ Below w.heap.size w wr))
  case atStart => exact ⟨0, Nat.zero_le _, by omega, rfl, Lib.hid ⟨Lib.fresh_isBuilder _ _ _, alloc_below0 _ _⟩⟩
  case round =>
    obtain ⟨i, hi, hg, rfl, J⟩ := hrel
    by_cases hlt : i < n
    · have hin : (i : Int) < (n : Int) := by omega
      obtain ⟨b1, o1, rfl, _, g1⟩ := (H.out.below J.out.2).nat hlt
      have hx := HS.out i hlt
      have HP := Lib.hid (placesL_snoc l i (by rw [HL.out]; exact hlt))
      have hlen : (placesL (l.take i)).length ≤ 1024 := by rw [placesL_length, List.length_take]; omega
      generalize l.getD i 0 = x at g1 hx HP
      have cd := fun W => digits_any x 2 W (by omega) (by omega) (by omega)
      have HLEN := Lib.hid hlen
      clear hlen
      go_wp2_with (go_at_call 79; refine (cd _).mono ?_; rintro e w3 ⟨rfl, hb3⟩)
      have J3 := Lib.hid (builder_step J.out.1 hb3)
      have hB3 := J.out.2.trans (hb3.mono J.out.2.size)
      refine (Try.Builder_WriteString w.heap.size w.heap.size _ (mkB (beL x 2)) w3 J3.out (by rw [Lib.byteCells_length]; have := HLEN.out; have : (mkB (beL x 2)).size = 2 := rfl; omega) hB3.size).mono ?_
      rintro e w4 ⟨rfl, hb4, hw4⟩
      have JN : Hid (Lib.IsBuilder 125 5 w.heap.size w.heap.size (Lib.byteCells (placesL (l.take (i + 1)))) w4 ∧ Below w.heap.size w w4) := Lib.hid ⟨.inr (by rw [HP.out, Lib.byteCells_append]; exact hb4), hB3.trans hw4⟩
      clear hb4 hw4 hB3 hb3 J3
      go_wp2
      go_roundg (n - (i + 1))
      case measure => omega
      case rel => exact ⟨i + 1, by omega, by omega, by go_num, JN⟩
    · have : i = n := by omega
      subst this
      have ht : Hid (l.take i = l) := Lib.hid (List.take_of_length_le (by rw [HL.out]; exact Nat.le_refl _))
      have JE : Hid (Lib.IsBuilder 125 5 w.heap.size w.heap.size (Lib.byteCells (placesL l)) wr ∧ Below w.heap.size w wr) := Lib.hid (by have := J.out; rw [ht.out] at this; exact this)
      go_wp2_with (go_at_call 87; refine (Try.Builder_String_any w.heap.size w.heap.size (placesL l) wr JE.out.1 JE.out.2.size).mono ?_; rintro e w4 ⟨rfl, hw4⟩)
      go_ret
      exact ⟨rfl, JE.out.2.trans hw4⟩

/-- The bytes of blocks, one behind the other. -/
def flatL (bs : List ByteArray) : List UInt8 := bs.flatMap fun s => s.data.toList
theorem join_flat (bs : List ByteArray) : Lib.join (bs.map (·.data.toList)) [] = flatL bs := by
  cases bs with
  | nil => rfl
  | cons x r =>
    rw [List.map_cons, Lib.join_cons]
    show _ = x.data.toList ++ flatL r
    congr 1
    unfold Lib.joinTail flatL
    induction r with
    | nil => rfl
    | cons y r ih => simp only [List.map_cons, List.flatten_cons, List.nil_append, List.flatMap_cons]; rw [← ih]; simp
theorem flatL_length (bs : List ByteArray) (h : ∀ b ∈ bs, b.size = 128) : (flatL bs).length = 128 * bs.length := by
  induction bs with
  | nil => rfl
  | cons a l ih =>
    have e : flatL (a :: l) = a.data.toList ++ flatL l := rfl
    have ha : a.data.toList.length = 128 := h a List.mem_cons_self
    rw [e, List.length_append, ha, ih (fun b hb => h b (List.mem_cons_of_mem _ hb)), List.length_cons]; omega
theorem join_any (A : Option Addr) (n c : Nat) (bs : List ByteArray) (w : World) (h : Reads w w.heap.size 1 A n (encS bs)) (hc : n ≤ c) (hn : n * 16 ≤ 140737488355328) (hlen : (flatL bs).length ≤ 140737488355328) :
    Calls Try.prog 69 #[.slice A n c, .string ⟨#[]⟩] w fun e w' => e = .returned (.string (mkB (flatL bs))) ∧ Below w.heap.size w w' := by
  have hl := h.lenS
  rcases Nat.eq_zero_or_pos n with h0 | h0
  · subst h0
    obtain rfl : bs = [] := List.eq_nil_of_length_eq_zero hl
    exact (Try.strings_Join_none A c ⟨#[]⟩ w).mono fun e w' hh => ⟨hh.1, hh.2 ▸ Below.refl _ _⟩
  · obtain ⟨b, o, rfl, hb, hcell⟩ := h.2 h0
    have hj := Try.strings_Join b o c bs ⟨#[]⟩ w (fun j x hx => hcell j _ (by simp [encS, hx])) hb (by omega) (by omega) (by show (Lib.join (bs.map (·.data.toList)) []).length ≤ _; rw [join_flat]; exact hlen)
    rw [hl] at hj
    refine hj.mono fun e w' hh => ⟨hh.1.trans ?_, hh.2⟩
    show Ending.returned (.string ⟨(Lib.join (bs.map (·.data.toList)) []).toArray⟩) = _
    rw [join_flat]; rfl

end Go.Proofs.Ytlpijikhbjkmfaa

/-
  Places out of the bytes of the list: the program's function.
-/
namespace Go.Proofs.Ytlpijikhbjkmfaa
open Go.RowKit

/-- The number at the i-th place of a list of bytes. -/
def num2 (s : ByteArray) (i : Nat) : Nat := neL ((s.data.toList.drop (2 * i)).take 2)
def plL (s : ByteArray) (k i : Nat) : List Nat := (List.range i).map (num2 s) ++ List.replicate (k - i) 0
theorem plL_length {s : ByteArray} {k i : Nat} (h : i ≤ k) : (plL s k i).length = k := by simp [plL]; omega
theorem plL_zero (s : ByteArray) (k : Nat) : plL s k 0 = List.replicate k 0 := by simp [plL]
theorem plL_all (s : ByteArray) (k : Nat) : plL s k k = (List.range k).map (num2 s) := by simp [plL]
theorem plL_step {s : ByteArray} {k i : Nat} (h : i < k) : (plL s k i).set i (num2 s i) = plL s k (i + 1) := by
  unfold plL
  rw [List.set_append_right _ _ (by simp), List.range_succ, List.map_append, List.append_assoc]
  congr 1
  simp only [List.length_map, List.length_range, Nat.sub_self, List.map_cons, List.map_nil]
  rw [show k - i = (k - (i + 1)) + 1 by omega, List.replicate_succ]
  rfl
theorem encN_set (l : List Nat) (j x : Nat) : (encN l).set j (.int .i64 (x : Int)) = encN (l.set j x) := by
  unfold encN
  rw [List.map_set]
theorem num2_of (s : ByteArray) (i : Nat) : neL ((s.extract (2 * i) s.size).extract 0 2).data.toList = num2 s i := by
  unfold num2
  rw [ByteArray.data_extract, ByteArray.data_extract, Array.toList_extract, Array.toList_extract, List.extract_eq_take_drop, List.extract_eq_take_drop, List.drop_zero, List.take_take, Nat.sub_zero]
  by_cases h : 2 ≤ s.size - 2 * i
  · rw [Nat.min_eq_left h]
  · rw [Nat.min_eq_right (by omega), List.take_of_length_le, List.take_of_length_le]
    · simp; omega
    · simp
theorem num2_lt (s : ByteArray) (i : Nat) : num2 s i < 65536 := by
  have h1 := neL_lt ((s.data.toList.drop (2 * i)).take 2)
  have h2 : ((s.data.toList.drop (2 * i)).take 2).length ≤ 2 := by rw [List.length_take]; omega
  exact Nat.lt_of_lt_of_le h1 (Nat.le_trans (Nat.pow_le_pow_right (by decide) h2) (by decide))

set_option maxRecDepth 100000 in
set_option maxHeartbeats 2000000 in
theorem places_any (s : ByteArray) (k : Nat) (w : World) (hk : 2 * k ≤ s.size) (hk2 : k ≤ 512) (hs : s.size ≤ 131072) :
    Calls Try.prog 68 #[.string s, .int .i64 k] w fun e w' => ∃ A c, e = .returned (.slice A k c) ∧ w'.ownsRow w.heap.size 3 1 (.slice A k c) k (encN ((List.range k).map (num2 s))) ∧ Below w.heap.size w w' := by
  obtain ⟨i0, hi0, hz0, hz1, hz2⟩ := info_parts infoI
  have hmin : min (k : Int) ((s.size : Int) / 2) = (k : Int) := by omega
  have hmax : max (k : Int) 0 = (k : Int) := by omega
  go_enter Try.func68, Try.ntmps68
  go_wp2_with (at_make; refine wpList_make_full _ rfl _ _ 41 rfl w.heap.size 3 i0 _ 1 Try.underlying41 hi0 hz0 hz1 .i64 .i64 k k k rfl rfl rfl rfl ?_ ?_ ?_ ?_)
  any_goals (first | (rw [hz2]; omega) | omega | (simp only [maxLen]; omega) | exact Nat.le_refl _)
  intro w1 ho1 hg1
  have hb1 : Below w.heap.size w w1 := (Below.refl _ _).grown hg1 (Nat.le_refl _) (by intro k hk; cases hk)
  have J1 : Hid (w1.ownsRow w.heap.size 3 1 (.slice (some ⟨w.heap.size, 0, none⟩) k k) k (encN (plL s k 0)) ∧ Below w.heap.size w w1) := Lib.hid ⟨own_eq_vals ho1 (by rw [plL_zero, toList_madeCells_one]; simp [encN]), hb1⟩
  clear ho1 hg1 hb1
  go_wp2
  go_loopg [17] k (fun g s17 wr => ∃ j : Nat, j ≤ k ∧ k - j ≤ g ∧ s17 = .int .i64 j ∧ Hid (wr.ownsRow w.heap.size 3 1 (.slice (some ⟨w.heap.size, 0, none⟩) k k) k (encN (plL s k j)) ∧ Below w.heap.size w wr))
  case atStart => exact ⟨0, Nat.zero_le _, by omega, rfl, J1⟩
  case round =>
    obtain ⟨j, hj, hg, rfl, J⟩ := hrel
    by_cases hlt : j < k
    · have hjk : (j : Int) < (k : Int) := by omega
      have hlen := plL_length (s := s) (k := k) (i := j) (by omega)
      have hcj := J.out.1.cellAt j (by omega)
      rw [encN_get (by rw [hlen]; omega)] at hcj
      have hfj := J.out.1.frozenAt j
      have hst := J.out.1.stored j (.int .i64 (num2 s j : Nat))
      have JN : Hid ((wr.setCell ⟨w.heap.size, j, none⟩ (.int .i64 (num2 s j : Nat))).ownsRow w.heap.size 3 1 (.slice (some ⟨w.heap.size, 0, none⟩) k k) k (encN (plL s k (j + 1))) ∧ Below w.heap.size w (wr.setCell ⟨w.heap.size, j, none⟩ (.int .i64 (num2 s j : Nat)))) :=
        Lib.hid ⟨own_eq_vals hst.1 (by rw [encN_set, plL_step hlt]), J.out.2.setCell (p := ⟨w.heap.size, j, none⟩) (Nat.le_refl _) _⟩
      have h2j : 2 * (j : Int) ≤ (s.size : Int) := by omega
      have HN := Lib.hid (num2_of s j)
      have hE : ((s.extract (2 * j) s.size).extract 0 2).size ≤ 8 := by rw [ByteArray.size_extract]; omega
      have cn := fun W => number_any _ W hE
      have hx := num2_lt s j
      rw [HN.out] at cn
      generalize num2 s j = x at JN hx cn
      clear hlen hst hE
      go_wp2_with fail
      refine (cn _).mono ?_
      rintro e w3 ⟨rfl, rfl⟩
      go_wp2
      go_roundg (k - (j + 1))
      case measure => omega
      case rel => exact ⟨j + 1, by omega, by omega, by go_num, JN⟩
    · have : j = k := by omega
      subst this
      have hO := J.out.1
      rw [plL_all] at hO
      go_wp2
      go_ret
      exact ⟨_, _, rfl, hO, J.out.2⟩

end Go.Proofs.Ytlpijikhbjkmfaa
