/-
  A block of zeros, and a block that begins with a text: for all texts.
-/
import Derived.Test.YtlpijikhbjkmfaaG06
import Derived.Laws.BytesArg
import Derived.Laws.IdiomCopy
import Derived.Lib.LazyBuf
import Derived.Shelf.Bits.Mul64
import Derived.Shelf.Strings.Repeat
import Derived.Test.YtlpijikhbjkmfaaProg
import Derived.Laws.CopyOwn
import Derived.Deep.RegionLaw
namespace Go.Proofs.Ytlpijikhbjkmfaa
open Go.RowKit

/-- A block's bytes as numbers: the text's first 128, then zeros. -/
def padN (s : ByteArray) : List Int := (s.data.toList.take 128).map (fun x => (x.toNat : Int)) ++ List.replicate (128 - s.size) 0
theorem padN_length (s : ByteArray) : (padN s).length = 128 := by
  have : s.data.toList.length = s.size := by simp
  simp only [padN, List.length_append, List.length_map, List.length_take, List.length_replicate, this]
  omega
def filledD (s : ByteArray) : ByteArray := strOfNums (padN s)
theorem filledD_size (s : ByteArray) : (filledD s).size = 128 := by
  show (strOfNums (padN s)).data.size = 128
  simp [strOfNums, padN_length]
theorem filledD_none : filledD ⟨#[]⟩ = zeroB := by decide +kernel

theorem infoU : (Try.prog.info? 5).map (fun i => (i.zero, i.size, i.bytes)) = some (some (.int .u8 0), 1, 1) := by kernel_rfl

/-- copy(dst, s), s a text of whatever length: as many bytes as fit. -/
theorem run_copy_text {P : Program} (w : World) (dT sT ty elem : TypeId) (b o dLen dCap : Nat) (t : ByteArray) (hu : P.underlying dT = some (.slice elem)) (hz : ∀ w, (Go.sizeOf elem).run P w = .ok 1 w) (n : Nat) (hn : Nat.min t.size dLen = n)
    (hc : ∀ j, j < n → (w.cell? ⟨b, o + j, none⟩).isSome = true) (hf : ∀ j, j < n → w.frozen? ⟨b, o + j, none⟩ = false) :
    (Builtin.copy_ #[dT, sT] ty #[.slice (some ⟨b, o, none⟩) dLen dCap, .string t]).run P w = .ok (goInt n) (w.setCells b o ((t.data.toList.take n).map fun x => Value.int .u8 (x.toNat : Int))) := by
  have hsz : t.data.toList.length = t.size := by simp
  have hnt : n ≤ t.size := by rw [← hn]; exact Nat.min_le_left _ _
  have hl : ((t.data.toList.take n).map fun x => Value.int .u8 (x.toNat : Int)).length = n := by rw [List.length_map, List.length_take, hsz]; omega
  have hst := run_storeCells_cells (P := P) b o ((t.data.toList.take n).map fun x => Value.int .u8 (x.toNat : Int)) 0 w (by rw [hl]; simpa using hc) (by rw [hl]; simpa using hf) (by
    intro v hv
    obtain ⟨x, _, rfl⟩ := List.mem_map.1 hv
    rfl)
  simp [Builtin.copy_, run_underlying hu, Builtin.lenOf, Builtin.firstCells, hz, hn]
  rw [List.map_take] at hst
  rw [hst]
  rfl

set_option maxRecDepth 100000 in
set_option maxHeartbeats 2000000 in
theorem zeros_any (w : World) : Calls Try.prog 36 #[] w fun e w' => e = .returned (.string zeroB) ∧ Below w.heap.size w w' := by
  obtain ⟨i0, hi0, hz0, hz1, hz2⟩ := info_parts infoU
  go_enter Try.func36, Try.ntmps36
  go_wp2_with (at_make; refine wpList_make_full _ rfl _ _ 83 rfl w.heap.size 5 i0 _ 1 Try.underlying83 hi0 hz0 hz1 .i64 .i64 128 128 128 rfl rfl rfl rfl ?_ ?_ ?_ ?_)
  · rw [hz2]; omega
  · simp only [maxLen]; omega
  · exact Nat.le_refl _
  intro w1 ho1 hg1
  have hcell : ∀ i, i < 128 → w1.cell? ⟨w.heap.size, 0 + i, none⟩ = some (.int .u8 ((List.replicate 128 (0 : Int)).getD i 0)) := by
    intro i hi
    rw [Nat.zero_add, ho1.cellAt i (by omega)]
    show (madeCells #[.int .u8 0] 128).toList[i]? = _
    rw [toList_madeCells_one, List.getElem?_replicate, if_pos hi]
    rw [List.getD_eq_getElem?_getD, List.getElem?_replicate, if_pos hi]
    rfl
  have hcv := Lib.hid (run_convert_bytes_arg (P := Try.prog) w1 83 5 Try.underlying83 Try.underlying5 w.heap.size 0 128 128 (List.replicate 128 0) (by simp) hcell 9 Try.underlying9)
  have hb1 : Below w.heap.size w w1 := (Below.refl _ _).grown hg1 (Nat.le_refl _) (by intro k hk; cases hk)
  have hs : strOfNums (List.replicate 128 0) = zeroB := by decide +kernel
  rw [hs] at hcv
  clear ho1 hg1 hcell hs
  have hcv2 := hcv.out
  go_wp2
  go_ret
  exact ⟨rfl, hb1⟩

end Go.Proofs.Ytlpijikhbjkmfaa

/-
  The contracts of Go's own strings.Repeat and math/bits.Mul at this program, out of the library's shelf: count copies of a text within one allocation; a product in two words.
-/
namespace Go.Proofs
open Go.Shelf
def Try.lays264_ren : Go.Shelf.Ren := ⟨fun | 264 => 93 | n => n, fun | 53 => 26 | 46 => 100 | n => n, fun | n => n⟩
theorem Try.lays264 : Go.Proofs.Lays.n264 Try.prog Try.lays264_ren := {
  mixed := by kernel_rfl
  f264 := Try.func93.trans (congrArg some (by kernel_rfl))
  t46 := Try.underlying100
  a46 := Try.isAgg100
  z46 := Try.sizeOf100
  v46 := Try.zeroValue100
  t53 := Try.underlying26
  a53 := Try.isAgg26
  z53 := Try.sizeOf26
  v53 := Try.zeroValue26 }
open Go.RowKit Go.Lib in
theorem Try.bits_Mul64 (x y : Nat) (hx : x < 18446744073709551616) (hy : y < 18446744073709551616) (w : World) :
    Calls Try.prog 93 #[.int .u64 x, .int .u64 y] w fun e w' => e = .returned (.tuple #[.int .u64 ((x * y / 18446744073709551616 : Nat) : Int), .int .u64 ((x * y % 18446744073709551616 : Nat) : Int)]) ∧ w' = w := Any.bits_Mul64 Try.lays264 x y hx hy w
def Try.lays212_ren : Go.Shelf.Ren := ⟨fun | 212 => 82 | 263 => 92 | 264 => 93 | n => n, fun | 46 => 100 | 51 => 79 | 146 => 136 | 53 => 26 | 148 => 138 | n => n, fun | n => n⟩
theorem Try.lays212 : Go.Proofs.Lays.n212 Try.prog Try.lays212_ren := {
  mixed := by kernel_rfl
  f212 := Try.func82.trans (congrArg some (by kernel_rfl))
  f263 := Try.func92.trans (congrArg some (by kernel_rfl))
  f264 := Try.func93.trans (congrArg some (by kernel_rfl))
  t46 := Try.underlying100
  a46 := Try.isAgg100
  z46 := Try.sizeOf100
  v46 := Try.zeroValue100
  t51 := Try.underlying79
  a51 := Try.isAgg79
  z51 := Try.sizeOf79
  v51 := Try.zeroValue79
  t53 := Try.underlying26
  a53 := Try.isAgg26
  z53 := Try.sizeOf26
  v53 := Try.zeroValue26
  t146 := Try.underlying136
  a146 := Try.isAgg136
  z146 := Try.sizeOf136
  v146 := Try.zeroValue136
  t148 := Try.underlying138
  a148 := Try.isAgg138
  z148 := Try.sizeOf138
  v148 := Try.zeroValue138 }
open Go.RowKit Go.Lib in
/-- math/bits.Mul: "Mul returns the full-width product of x and y": on a machine of 64 bits: Mul64's. (LAID: no walk: one application.) -/
theorem Try.bits_Mul (x y : Nat) (hx : x < 18446744073709551616) (hy : y < 18446744073709551616) (w : World) :
    Calls Try.prog 82 #[.int .u64 x, .int .u64 y] w fun e w' => e = .returned (.tuple #[.int .u64 ((x * y / 18446744073709551616 : Nat) : Int), .int .u64 ((x * y % 18446744073709551616 : Nat) : Int)]) ∧ w' = w := Any.bits_Mul Try.lays212 x y hx hy w
def Try.lays105_ren : Go.Shelf.Ren := ⟨fun | 105 => 64 | 212 => 82 | 99 => 83 | 165 => 84 | 166 => 85 | 170 => 86 | 169 => 87 | 263 => 92 | 264 => 93 | 206 => 94 | 240 => 95 | 241 => 96 | 276 => 97 | 277 => 98 | n => n, fun | 9 => 9 | 3 => 3 | 4 => 4 | 20 => 20 | 0 => 0 | 46 => 100 | 109 => 120 | 5 => 5 | 72 => 125 | 76 => 129 | 51 => 79 | 146 => 136 | 53 => 26 | 148 => 138 | 70 => 123 | 37 => 83 | 75 => 128 | 127 => 140 | 164 => 141 | 80 => 69 | n => n, fun | n => n⟩
theorem Try.lays105 : Go.Proofs.Lays.n105 Try.prog Try.lays105_ren := {
  mixed := by kernel_rfl
  f99 := Try.func83.trans (congrArg some (by kernel_rfl))
  f105 := Try.func64.trans (congrArg some (by kernel_rfl))
  f165 := Try.func84.trans (congrArg some (by kernel_rfl))
  f166 := Try.func85.trans (congrArg some (by kernel_rfl))
  f169 := Try.func87.trans (congrArg some (by kernel_rfl))
  f170 := Try.func86.trans (congrArg some (by kernel_rfl))
  f206 := Try.func94.trans (congrArg some (by kernel_rfl))
  f212 := Try.func82.trans (congrArg some (by kernel_rfl))
  f240 := Try.func95.trans (congrArg some (by kernel_rfl))
  f241 := Try.func96.trans (congrArg some (by kernel_rfl))
  f263 := Try.func92.trans (congrArg some (by kernel_rfl))
  f264 := Try.func93.trans (congrArg some (by kernel_rfl))
  f276 := Try.func97.trans (congrArg some (by kernel_rfl))
  f277 := Try.func98.trans (congrArg some (by kernel_rfl))
  t0 := Try.underlying0
  a0 := Try.isAgg0
  z0 := Try.sizeOf0
  v0 := Try.zeroValue0
  t3 := Try.underlying3
  a3 := Try.isAgg3
  z3 := Try.sizeOf3
  v3 := Try.zeroValue3
  t4 := Try.underlying4
  a4 := Try.isAgg4
  z4 := Try.sizeOf4
  v4 := Try.zeroValue4
  t5 := Try.underlying5
  a5 := Try.isAgg5
  z5 := Try.sizeOf5
  v5 := Try.zeroValue5
  t9 := Try.underlying9
  a9 := Try.isAgg9
  z9 := Try.sizeOf9
  v9 := Try.zeroValue9
  t20 := Try.underlying20
  a20 := Try.isAgg20
  z20 := Try.sizeOf20
  v20 := Try.zeroValue20
  t37 := Try.underlying83
  a37 := Try.isAgg83
  z37 := Try.sizeOf83
  v37 := Try.zeroValue83
  t46 := Try.underlying100
  a46 := Try.isAgg100
  z46 := Try.sizeOf100
  v46 := Try.zeroValue100
  t51 := Try.underlying79
  a51 := Try.isAgg79
  z51 := Try.sizeOf79
  v51 := Try.zeroValue79
  t53 := Try.underlying26
  a53 := Try.isAgg26
  z53 := Try.sizeOf26
  v53 := Try.zeroValue26
  t70 := Try.underlying123
  a70 := Try.isAgg123
  z70 := Try.sizeOf123
  v70 := Try.zeroValue123
  t72 := Try.underlying125
  a72 := Try.isAgg125
  z72 := Try.sizeOf125
  v72 := Try.zeroValue125
  t75 := Try.underlying128
  a75 := Try.isAgg128
  z75 := Try.sizeOf128
  v75 := Try.zeroValue128
  t76 := Try.underlying129
  a76 := Try.isAgg129
  z76 := Try.sizeOf129
  v76 := Try.zeroValue129
  t109 := Try.underlying120
  a109 := Try.isAgg120
  z109 := Try.sizeOf120
  v109 := Try.zeroValue120
  t127 := Try.underlying140
  a127 := Try.isAgg140
  z127 := Try.sizeOf140
  v127 := Try.zeroValue140
  t146 := Try.underlying136
  a146 := Try.isAgg136
  z146 := Try.sizeOf136
  v146 := Try.zeroValue136
  t148 := Try.underlying138
  a148 := Try.isAgg138
  z148 := Try.sizeOf138
  v148 := Try.zeroValue138
  t164 := Try.underlying141
  a164 := Try.isAgg141
  z164 := Try.sizeOf141
  v164 := Try.zeroValue141 }
theorem Try.Builder_Extra_105 : Builder.Extra Try.prog Try.lays105_ren := {
  sizeBuilder := by kernel_rfl
  liesBuilder := by kernel_rfl
  t5 := Try.underlying5
  a5 := Try.isAgg5
  z5 := Try.sizeOf5
  v5 := Try.zeroValue5
  infoByte := by kernel_rfl
  cellsByte := by kernel_rfl
  sizeByte := by kernel_rfl
  neB5 := by decide }
open Go.RowKit Go.Lib in
/-- **strings.Repeat: count ≥ 0, the result within one allocation: count copies of s.** (LAID: no walk: one application.) -/
theorem Try.strings_Repeat (s : ByteArray) (c : Nat) (w : World) (hc : c ≤ 9223372036854775807) (hlen : s.size * c ≤ 140737488355328) :
    Calls Try.prog 64 #[.string s, .int .i64 c] w fun e w' => e = .returned (.string ⟨(Lib.repeatL s.data.toList c).toArray⟩) ∧ Below w.heap.size w w' := Any.strings_Repeat Try.lays105 Try.Builder_Extra_105 s c w hc hlen
end Go.Proofs

/-
  slices.Repeat of one element, at texts and at truth values: so many of it, in memory of the call's own.
-/
namespace Go.Proofs.Ytlpijikhbjkmfaa
open Go.RowKit

/-- The list with its first k elements u. -/
def Head (u : Value) (k : Nat) (cur : List Value) : Prop := ∀ j, j < k → cur[j]? = some u
theorem Head.splice {u : Value} {k m N : Nat} {cur : List Value} (h : Head u k cur) (hl : cur.length = N) (hk : k + m ≤ N) : Head u (k + m) (splice cur k (List.replicate m u)) := by
  intro j hj
  unfold Go.splice
  rw [List.getElem?_append]
  split
  · next hjk =>
    rw [List.length_take] at hjk
    rw [List.getElem?_take, if_pos (by omega)]
    exact h j (by omega)
  · next hjk =>
    rw [List.length_take] at hjk
    rw [List.getElem?_append_left (by simp [List.length_take]; omega), List.getElem?_replicate, if_pos (by rw [List.length_take]; omega)]
theorem Head.all {u : Value} {N : Nat} {cur : List Value} (h : Head u N cur) (hl : cur.length = N) : cur = List.replicate N u := by
  refine List.ext_getElem? fun j => ?_
  by_cases hj : j < N
  · rw [h j hj, List.getElem?_replicate, if_pos hj]
  · rw [List.getElem?_eq_none (by omega), List.getElem?_replicate, if_neg hj]
theorem mul_one_any (N : Nat) (hN : N ≤ 4096) (W : World) : Calls Try.prog 82 #[.int .u64 1, .int .u64 N] W fun e w' => e = .returned (.tuple #[.int .u64 0, .int .u64 N]) ∧ W = w' :=
  (Try.bits_Mul 1 N (by decide) (by omega) W).mono fun e w' ⟨h1, h2⟩ => ⟨by rw [h1, Nat.one_mul, Nat.div_eq_of_lt (by omega), Nat.mod_eq_of_lt (by omega)]; rfl, h2.symm⟩

set_option maxRecDepth 100000 in
set_option maxHeartbeats 2000000 in
theorem repeatS_any (b : Nat) (u : Value) (N : Nat) (w : World) (hb : b < w.heap.size) (hu : w.cell? ⟨b, 0, none⟩ = some u) (h1 : u.oneCell' = true) (hN : N ≤ 4096) :
    Calls Try.prog 65 #[.slice (some ⟨b, 0, none⟩) 1 1, .int .i64 N] w fun e w' => ∃ A c, e = .returned (.slice A N c) ∧ w'.ownsRow w.heap.size 9 1 (.slice A N c) N (List.replicate N u) ∧ Below w.heap.size w w' := by
  have c1 := fun W => mul_one_any N hN W
  have hU := Lib.hid (And.intro hu h1)
  have hcu : IntKind.u64.wrap (N : Int) = (N : Int) := IntWalk.u64_in _ (by omega)
  have hci : IntKind.i64.wrap (N : Int) = (N : Int) := IntWalk.i64_in _ (by omega)
  have hd : decide ((9223372036854775807 : Int) < (N : Int)) = false := by simp; omega
  have hB := Lib.hid hb
  have hd0 : decide ((N : Int) < 0) = false := by simp
  obtain ⟨i0, hi0, hz0, hz1, hz2⟩ := info_parts infoS
  clear hu h1 hb
  go_enter Try.func65, Try.ntmps65
  go_wp2_with (first
    | (go_at_call 82; refine (c1 _).mono ?_; rintro e w' ⟨rfl, rfl⟩)
    | (at_make; refine wpList_make_full _ rfl _ _ 22 rfl w.heap.size 9 i0 _ 1 Try.underlying22 hi0 hz0 hz1 _ _ _ _ N rfl rfl rfl rfl ?_ ?_ ?_ ?_))
  · rw [hz2]; omega
  · simp only [maxLen]; omega
  · exact Nat.le_refl _
  intro w1 ho1 hg1
  obtain ⟨cur0, hcur0, hl0⟩ : ∃ cur : List Value, w1.heap[w.heap.size]? = some (.cells cur.toArray 9 (0, 0)) ∧ cur.length = N := by
    rcases ho1.2 with ⟨h', _⟩ | ⟨g', cap', cur, h', _, hh, _, _, hs, _⟩
    · simp at h'
    · simp only [Value.slice.injEq, Option.some.injEq, Addr.mk.injEq, and_true, true_and] at h'
      obtain ⟨rfl, rfl⟩ := h'
      exact ⟨cur.toList, by rw [Array.toArray_toList]; exact hh, by simpa using hs⟩
  have hb1 : Below w.heap.size w w1 := (Below.refl _ _).grown hg1 (Nat.le_refl _) (by intro k hk; cases hk)
  obtain ⟨M, hM⟩ : ∃ M, M = Nat.min 1 N := ⟨_, rfl⟩
  have hM1 : M ≤ N := by rw [hM]; exact Nat.min_le_right _ _
  have hM2 : M = 1 ∨ N = 0 := by rw [hM]; simp only [Nat.min_def]; split <;> omega
  have HM := Lib.hid hM; clear hM
  have HM2 := Lib.hid hM2; clear hM2
  have hlen : (List.replicate M u).length = M := List.length_replicate
  have hsrc : ∀ j v, (List.replicate M u)[j]? = some v → w1.cell? ⟨b, j, none⟩ = some v := by
    intro j v hj
    rw [List.getElem?_replicate] at hj
    split at hj
    · next hjM =>
      have : j = 0 := by rcases HM2.out with h | h <;> omega
      subst this
      rw [hb1.cell (p := ⟨b, 0, none⟩) hB.out, hU.out.1]
      exact hj
    · cases hj
  have H0 := Lib.hid (And.intro hcur0 (And.intro hl0 (And.intro hlen (And.intro hsrc hb1))))
  clear hcur0 hl0 hlen hsrc hb1 ho1 hg1
  go_wp2_with (with_reducible refine wpList_copy_splice (o := ⟨some 33, _, _, _, _, _⟩) rfl (.tmp 31) (.tmp 32) 22 22 rfl 9 Try.underlying22 (by kernel_rfl) _ _ N N 1 1 rfl rfl w.heap.size 0 cur0 9 H0.out.1 (List.replicate M u) ?_ ?_ ?_ ?_ w.heap.size w H0.out.2.2.2.2 (Nat.le_refl _) ?_)
  · rw [H0.out.2.2.1]; exact HM.out
  · exact fun _ => H0.out.2.2.2.1
  · rw [H0.out.2.2.1, H0.out.2.1]; omega
  · intro v hv; rw [List.eq_of_mem_replicate hv]; exact hU.out.2
  intro w2 hh2 hb2
  have J0 : Hid (w2.heap[w.heap.size]? = some (.cells (splice cur0 0 (List.replicate M u)).toArray 9 (0, 0)) ∧ (splice cur0 0 (List.replicate M u)).length = N ∧ Head u M (splice cur0 0 (List.replicate M u))) :=
    Lib.hid ⟨hh2.out, by rw [length_splice _ _ _ (by rw [H0.out.2.2.1, H0.out.2.1]; omega)]; exact H0.out.2.1, by
      have := Head.splice (u := u) (k := 0) (m := M) (N := N) (cur := cur0) (fun j hj => absurd hj (Nat.not_lt_zero _)) H0.out.2.1 (by omega)
      rwa [Nat.zero_add] at this⟩
  generalize splice cur0 0 (List.replicate M u) = cur1 at J0
  clear H0 hh2
  go_wp2
  go_loopg [8] N (fun g s8 wr => ∃ (k : Nat) (cur : List Value), k ≤ N ∧ N - k ≤ g ∧ s8 = .int .i64 k ∧ (k = 0 → N = 0) ∧ Hid (wr.heap[w.heap.size]? = some (.cells cur.toArray 9 (0, 0)) ∧ cur.length = N ∧ Head u k cur) ∧ Below w.heap.size w wr)
  case atStart => exact ⟨M, cur1, hM1, by omega, rfl, fun h => by rcases HM2.out with h2 | h2 <;> omega, J0, hb2⟩
  case round =>
    obtain ⟨k, cur, hk, hg, rfl, hk0, J, hbw⟩ := hrel
    by_cases hlt : k < N
    · have hk1 : (k : Int) < (N : Int) := by omega
      obtain ⟨P, hP⟩ : ∃ P, P = Nat.min k (N - k) := ⟨_, rfl⟩
      have hP1 : P ≤ k := by rw [hP]; exact Nat.min_le_left _ _
      have hP2 : P ≤ N - k := by rw [hP]; exact Nat.min_le_right _ _
      have hP3 : 0 < P := by rw [hP]; simp only [Nat.min_def]; split <;> omega
      have HP := Lib.hid hP; clear hP
      have hlen : (List.replicate P u).length = P := List.length_replicate
      have hsrc : ∀ j v, (List.replicate P u)[j]? = some v → wr.cell? ⟨w.heap.size, j, none⟩ = some v := by
        intro j v hj
        rw [List.getElem?_replicate] at hj
        split at hj
        · next hjM =>
          rw [cell_of_row wr w.heap.size j cur.toArray 9 (0, 0) J.out.1, ← hj]
          simpa using J.out.2.2 j (by omega)
        · cases hj
      have HL := Lib.hid (And.intro hlen hsrc); clear hlen hsrc
      have HW := Lib.hid hbw; clear hbw
      have hne : ¬ N = k := by omega
      have hkp : (k : Int) + (P : Int) ≤ 4096 := by omega
      have hkP : IntKind.i64.wrap ((k : Int) + (P : Int)) = (k : Int) + (P : Int) := IntWalk.i64_in _ (by omega)
      go_wp2_with fail
      go_region_law (refine step_copy_splice rfl (.tmp 41) (.tmp 44) 22 22 rfl 9 Try.underlying22 (by kernel_rfl) (some ⟨w.heap.size, k, none⟩) (some ⟨w.heap.size, 0, none⟩) (N - k) (N - k) k N (by simp [Act.eval, Act.put]) (by simp [Act.eval, Act.put]) w.heap.size k cur 9 J.out.1 (List.replicate P u) (HL.out.1.trans HP.out) (fun _ => ⟨rfl, _, rfl, fun j v h => (congrArg wr.cell? (show (⟨w.heap.size, 0, none⟩ : Addr).add j = ⟨w.heap.size, j, none⟩ by rw [Go.WideShapes.add_plain, Nat.zero_add])).trans (HL.out.2 j v h)⟩) (by rw [HL.out.1, J.out.2.1]; omega) (fun v hv => by rw [List.eq_of_mem_replicate hv]; exact hU.out.2) w.heap.size w (HW.out.drew) (Nat.le_refl _) ?_; intro w4 hh4 hb4)
      have J4 : Hid (w4.heap[w.heap.size]? = some (.cells (splice cur k (List.replicate P u)).toArray 9 (0, 0)) ∧ (splice cur k (List.replicate P u)).length = N ∧ Head u (k + P) (splice cur k (List.replicate P u))) :=
        Lib.hid ⟨hh4.out, by rw [length_splice _ _ _ (by rw [HL.out.1, J.out.2.1]; omega)]; exact J.out.2.1, Head.splice J.out.2.2 J.out.2.1 (by omega)⟩
      generalize splice cur k (List.replicate P u) = cur4 at J4
      clear hh4 HL HP J
      go_wp2
      go_roundg (N - (k + P))
      case measure => omega
      case rel => exact ⟨k + P, cur4, by omega, by omega, by go_num, fun h => by omega, J4, hb4⟩
    · have : k = N := by omega
      subst this
      go_wp2
      go_ret
      refine ⟨some ⟨w.heap.size, 0, none⟩, k, rfl, ⟨by simp, .inr ⟨w.heap.size, k, cur.toArray, rfl, Nat.le_refl _, J.out.1, Nat.le_refl _, by simp only [maxLen]; omega, by simpa using J.out.2.1, ?_⟩⟩, hbw⟩
      rw [Head.all J.out.2.2 J.out.2.1]
      simp

set_option maxRecDepth 100000 in
set_option maxHeartbeats 2000000 in
theorem repeatB_any (b : Nat) (u : Value) (N : Nat) (w : World) (hb : b < w.heap.size) (hu : w.cell? ⟨b, 0, none⟩ = some u) (h1 : u.oneCell' = true) (hN : N ≤ 4096) :
    Calls Try.prog 77 #[.slice (some ⟨b, 0, none⟩) 1 1, .int .i64 N] w fun e w' => ∃ A c, e = .returned (.slice A N c) ∧ w'.ownsRow w.heap.size 4 1 (.slice A N c) N (List.replicate N u) ∧ Below w.heap.size w w' := by
  have c1 := fun W => mul_one_any N hN W
  have hU := Lib.hid (And.intro hu h1)
  have hcu : IntKind.u64.wrap (N : Int) = (N : Int) := IntWalk.u64_in _ (by omega)
  have hci : IntKind.i64.wrap (N : Int) = (N : Int) := IntWalk.i64_in _ (by omega)
  have hd : decide ((9223372036854775807 : Int) < (N : Int)) = false := by simp; omega
  have hB := Lib.hid hb
  have hd0 : decide ((N : Int) < 0) = false := by simp
  obtain ⟨i0, hi0, hz0, hz1, hz2⟩ := info_parts infoB
  clear hu h1 hb
  go_enter Try.func77, Try.ntmps77
  go_wp2_with (first
    | (go_at_call 82; refine (c1 _).mono ?_; rintro e w' ⟨rfl, rfl⟩)
    | (at_make; refine wpList_make_full _ rfl _ _ 49 rfl w.heap.size 4 i0 _ 1 Try.underlying49 hi0 hz0 hz1 _ _ _ _ N rfl rfl rfl rfl ?_ ?_ ?_ ?_))
  · rw [hz2]; omega
  · simp only [maxLen]; omega
  · exact Nat.le_refl _
  intro w1 ho1 hg1
  obtain ⟨cur0, hcur0, hl0⟩ : ∃ cur : List Value, w1.heap[w.heap.size]? = some (.cells cur.toArray 4 (0, 0)) ∧ cur.length = N := by
    rcases ho1.2 with ⟨h', _⟩ | ⟨g', cap', cur, h', _, hh, _, _, hs, _⟩
    · simp at h'
    · simp only [Value.slice.injEq, Option.some.injEq, Addr.mk.injEq, and_true, true_and] at h'
      obtain ⟨rfl, rfl⟩ := h'
      exact ⟨cur.toList, by rw [Array.toArray_toList]; exact hh, by simpa using hs⟩
  have hb1 : Below w.heap.size w w1 := (Below.refl _ _).grown hg1 (Nat.le_refl _) (by intro k hk; cases hk)
  obtain ⟨M, hM⟩ : ∃ M, M = Nat.min 1 N := ⟨_, rfl⟩
  have hM1 : M ≤ N := by rw [hM]; exact Nat.min_le_right _ _
  have hM2 : M = 1 ∨ N = 0 := by rw [hM]; simp only [Nat.min_def]; split <;> omega
  have HM := Lib.hid hM; clear hM
  have HM2 := Lib.hid hM2; clear hM2
  have hlen : (List.replicate M u).length = M := List.length_replicate
  have hsrc : ∀ j v, (List.replicate M u)[j]? = some v → w1.cell? ⟨b, j, none⟩ = some v := by
    intro j v hj
    rw [List.getElem?_replicate] at hj
    split at hj
    · next hjM =>
      have : j = 0 := by rcases HM2.out with h | h <;> omega
      subst this
      rw [hb1.cell (p := ⟨b, 0, none⟩) hB.out, hU.out.1]
      exact hj
    · cases hj
  have H0 := Lib.hid (And.intro hcur0 (And.intro hl0 (And.intro hlen (And.intro hsrc hb1))))
  clear hcur0 hl0 hlen hsrc hb1 ho1 hg1
  go_wp2_with (with_reducible refine wpList_copy_splice (o := ⟨some 33, _, _, _, _, _⟩) rfl (.tmp 31) (.tmp 32) 49 49 rfl 4 Try.underlying49 (by kernel_rfl) _ _ N N 1 1 rfl rfl w.heap.size 0 cur0 4 H0.out.1 (List.replicate M u) ?_ ?_ ?_ ?_ w.heap.size w H0.out.2.2.2.2 (Nat.le_refl _) ?_)
  · rw [H0.out.2.2.1]; exact HM.out
  · exact fun _ => H0.out.2.2.2.1
  · rw [H0.out.2.2.1, H0.out.2.1]; omega
  · intro v hv; rw [List.eq_of_mem_replicate hv]; exact hU.out.2
  intro w2 hh2 hb2
  have J0 : Hid (w2.heap[w.heap.size]? = some (.cells (splice cur0 0 (List.replicate M u)).toArray 4 (0, 0)) ∧ (splice cur0 0 (List.replicate M u)).length = N ∧ Head u M (splice cur0 0 (List.replicate M u))) :=
    Lib.hid ⟨hh2.out, by rw [length_splice _ _ _ (by rw [H0.out.2.2.1, H0.out.2.1]; omega)]; exact H0.out.2.1, by
      have := Head.splice (u := u) (k := 0) (m := M) (N := N) (cur := cur0) (fun j hj => absurd hj (Nat.not_lt_zero _)) H0.out.2.1 (by omega)
      rwa [Nat.zero_add] at this⟩
  generalize splice cur0 0 (List.replicate M u) = cur1 at J0
  clear H0 hh2
  go_wp2
  go_loopg [8] N (fun g s8 wr => ∃ (k : Nat) (cur : List Value), k ≤ N ∧ N - k ≤ g ∧ s8 = .int .i64 k ∧ (k = 0 → N = 0) ∧ Hid (wr.heap[w.heap.size]? = some (.cells cur.toArray 4 (0, 0)) ∧ cur.length = N ∧ Head u k cur) ∧ Below w.heap.size w wr)
  case atStart => exact ⟨M, cur1, hM1, by omega, rfl, fun h => by rcases HM2.out with h2 | h2 <;> omega, J0, hb2⟩
  case round =>
    obtain ⟨k, cur, hk, hg, rfl, hk0, J, hbw⟩ := hrel
    by_cases hlt : k < N
    · have hk1 : (k : Int) < (N : Int) := by omega
      obtain ⟨P, hP⟩ : ∃ P, P = Nat.min k (N - k) := ⟨_, rfl⟩
      have hP1 : P ≤ k := by rw [hP]; exact Nat.min_le_left _ _
      have hP2 : P ≤ N - k := by rw [hP]; exact Nat.min_le_right _ _
      have hP3 : 0 < P := by rw [hP]; simp only [Nat.min_def]; split <;> omega
      have HP := Lib.hid hP; clear hP
      have hlen : (List.replicate P u).length = P := List.length_replicate
      have hsrc : ∀ j v, (List.replicate P u)[j]? = some v → wr.cell? ⟨w.heap.size, j, none⟩ = some v := by
        intro j v hj
        rw [List.getElem?_replicate] at hj
        split at hj
        · next hjM =>
          rw [cell_of_row wr w.heap.size j cur.toArray 4 (0, 0) J.out.1, ← hj]
          simpa using J.out.2.2 j (by omega)
        · cases hj
      have HL := Lib.hid (And.intro hlen hsrc); clear hlen hsrc
      have HW := Lib.hid hbw; clear hbw
      have hne : ¬ N = k := by omega
      have hkp : (k : Int) + (P : Int) ≤ 4096 := by omega
      have hkP : IntKind.i64.wrap ((k : Int) + (P : Int)) = (k : Int) + (P : Int) := IntWalk.i64_in _ (by omega)
      go_wp2_with fail
      go_region_law (refine step_copy_splice rfl (.tmp 41) (.tmp 44) 49 49 rfl 4 Try.underlying49 (by kernel_rfl) (some ⟨w.heap.size, k, none⟩) (some ⟨w.heap.size, 0, none⟩) (N - k) (N - k) k N (by simp [Act.eval, Act.put]) (by simp [Act.eval, Act.put]) w.heap.size k cur 4 J.out.1 (List.replicate P u) (HL.out.1.trans HP.out) (fun _ => ⟨rfl, _, rfl, fun j v h => (congrArg wr.cell? (show (⟨w.heap.size, 0, none⟩ : Addr).add j = ⟨w.heap.size, j, none⟩ by rw [Go.WideShapes.add_plain, Nat.zero_add])).trans (HL.out.2 j v h)⟩) (by rw [HL.out.1, J.out.2.1]; omega) (fun v hv => by rw [List.eq_of_mem_replicate hv]; exact hU.out.2) w.heap.size w (HW.out.drew) (Nat.le_refl _) ?_; intro w4 hh4 hb4)
      have J4 : Hid (w4.heap[w.heap.size]? = some (.cells (splice cur k (List.replicate P u)).toArray 4 (0, 0)) ∧ (splice cur k (List.replicate P u)).length = N ∧ Head u (k + P) (splice cur k (List.replicate P u))) :=
        Lib.hid ⟨hh4.out, by rw [length_splice _ _ _ (by rw [HL.out.1, J.out.2.1]; omega)]; exact J.out.2.1, Head.splice J.out.2.2 J.out.2.1 (by omega)⟩
      generalize splice cur k (List.replicate P u) = cur4 at J4
      clear hh4 HL HP J
      go_wp2
      go_roundg (N - (k + P))
      case measure => omega
      case rel => exact ⟨k + P, cur4, by omega, by omega, by go_num, fun h => by omega, J4, hb4⟩
    · have : k = N := by omega
      subst this
      go_wp2
      go_ret
      refine ⟨some ⟨w.heap.size, 0, none⟩, k, rfl, ⟨by simp, .inr ⟨w.heap.size, k, cur.toArray, rfl, Nat.le_refl _, J.out.1, Nat.le_refl _, by simp only [maxLen]; omega, by simpa using J.out.2.1, ?_⟩⟩, hbw⟩
      rw [Head.all J.out.2.2 J.out.2.1]
      simp

end Go.Proofs.Ytlpijikhbjkmfaa
