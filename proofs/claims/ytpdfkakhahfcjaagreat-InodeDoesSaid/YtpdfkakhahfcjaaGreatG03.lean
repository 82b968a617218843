/-
  The contracts of Go's own strings.Repeat and math/bits.Mul at this program, out of the library's shelf: count copies of a text within one allocation; a product in two words.
-/
import Derived.Shelf.Bits.Mul64
import Derived.Shelf.Strings.Repeat
import Derived.Test.YtpdfkakhahfcjaaGreatProg
import Derived.Test.YtpdfkakhahfcjaaGreatG01
import Derived.LoopTactic
import Derived.Laws.CopyOwn
import Derived.Deep.RegionLaw
import Derived.Laws.IdiomStrings
import Derived.Laws.BytesArg
import Derived.Test.YtpdfkakhahfcjaaGreatG02
import Derived.RegionTactic
import Derived.ChangeAlike
import Derived.Lib.SmallJoins
import Derived.Lib.SlBytesConst
import Derived.Deep.LoopGhost
namespace Go.Proofs
open Go.Shelf
def Tryz.lays264_ren : Go.Shelf.Ren := ⟨fun | 264 => 96 | n => n, fun | 53 => 83 | 46 => 96 | n => n, fun | n => n⟩
theorem Tryz.lays264 : Go.Proofs.Lays.n264 Tryz.prog Tryz.lays264_ren := {
  mixed := by kernel_rfl
  f264 := Tryz.func96.trans (congrArg some (by kernel_rfl))
  t46 := Tryz.underlying96
  a46 := Tryz.isAgg96
  z46 := Tryz.sizeOf96
  v46 := Tryz.zeroValue96
  t53 := Tryz.underlying83
  a53 := Tryz.isAgg83
  z53 := Tryz.sizeOf83
  v53 := Tryz.zeroValue83 }
open Go.RowKit Go.Lib in
theorem Tryz.bits_Mul64 (x y : Nat) (hx : x < 18446744073709551616) (hy : y < 18446744073709551616) (w : World) :
    Calls Tryz.prog 96 #[.int .u64 x, .int .u64 y] w fun e w' => e = .returned (.tuple #[.int .u64 ((x * y / 18446744073709551616 : Nat) : Int), .int .u64 ((x * y % 18446744073709551616 : Nat) : Int)]) ∧ w' = w := Any.bits_Mul64 Tryz.lays264 x y hx hy w
def Tryz.lays212_ren : Go.Shelf.Ren := ⟨fun | 212 => 87 | 263 => 95 | 264 => 96 | n => n, fun | 46 => 96 | 51 => 122 | 146 => 123 | 53 => 83 | 148 => 125 | n => n, fun | n => n⟩
theorem Tryz.lays212 : Go.Proofs.Lays.n212 Tryz.prog Tryz.lays212_ren := {
  mixed := by kernel_rfl
  f212 := Tryz.func87.trans (congrArg some (by kernel_rfl))
  f263 := Tryz.func95.trans (congrArg some (by kernel_rfl))
  f264 := Tryz.func96.trans (congrArg some (by kernel_rfl))
  t46 := Tryz.underlying96
  a46 := Tryz.isAgg96
  z46 := Tryz.sizeOf96
  v46 := Tryz.zeroValue96
  t51 := Tryz.underlying122
  a51 := Tryz.isAgg122
  z51 := Tryz.sizeOf122
  v51 := Tryz.zeroValue122
  t53 := Tryz.underlying83
  a53 := Tryz.isAgg83
  z53 := Tryz.sizeOf83
  v53 := Tryz.zeroValue83
  t146 := Tryz.underlying123
  a146 := Tryz.isAgg123
  z146 := Tryz.sizeOf123
  v146 := Tryz.zeroValue123
  t148 := Tryz.underlying125
  a148 := Tryz.isAgg125
  z148 := Tryz.sizeOf125
  v148 := Tryz.zeroValue125 }
open Go.RowKit Go.Lib in
/-- math/bits.Mul: "Mul returns the full-width product of x and y": on a machine of 64 bits: Mul64's. (LAID: no walk: one application.) -/
theorem Tryz.bits_Mul (x y : Nat) (hx : x < 18446744073709551616) (hy : y < 18446744073709551616) (w : World) :
    Calls Tryz.prog 87 #[.int .u64 x, .int .u64 y] w fun e w' => e = .returned (.tuple #[.int .u64 ((x * y / 18446744073709551616 : Nat) : Int), .int .u64 ((x * y % 18446744073709551616 : Nat) : Int)]) ∧ w' = w := Any.bits_Mul Tryz.lays212 x y hx hy w
def Tryz.lays105_ren : Go.Shelf.Ren := ⟨fun | 105 => 88 | 212 => 87 | 99 => 97 | 165 => 98 | 166 => 89 | 170 => 90 | 169 => 91 | 263 => 95 | 264 => 96 | 206 => 100 | 240 => 99 | 241 => 101 | 276 => 102 | 277 => 103 | n => n, fun | 9 => 9 | 3 => 3 | 4 => 4 | 20 => 20 | 0 => 0 | 46 => 96 | 109 => 110 | 5 => 5 | 72 => 114 | 76 => 117 | 51 => 122 | 146 => 123 | 53 => 83 | 148 => 125 | 70 => 112 | 37 => 53 | 75 => 116 | 127 => 129 | 164 => 130 | 80 => 98 | n => n, fun | n => n⟩
theorem Tryz.lays105 : Go.Proofs.Lays.n105 Tryz.prog Tryz.lays105_ren := {
  mixed := by kernel_rfl
  f99 := Tryz.func97.trans (congrArg some (by kernel_rfl))
  f105 := Tryz.func88.trans (congrArg some (by kernel_rfl))
  f165 := Tryz.func98.trans (congrArg some (by kernel_rfl))
  f166 := Tryz.func89.trans (congrArg some (by kernel_rfl))
  f169 := Tryz.func91.trans (congrArg some (by kernel_rfl))
  f170 := Tryz.func90.trans (congrArg some (by kernel_rfl))
  f206 := Tryz.func100.trans (congrArg some (by kernel_rfl))
  f212 := Tryz.func87.trans (congrArg some (by kernel_rfl))
  f240 := Tryz.func99.trans (congrArg some (by kernel_rfl))
  f241 := Tryz.func101.trans (congrArg some (by kernel_rfl))
  f263 := Tryz.func95.trans (congrArg some (by kernel_rfl))
  f264 := Tryz.func96.trans (congrArg some (by kernel_rfl))
  f276 := Tryz.func102.trans (congrArg some (by kernel_rfl))
  f277 := Tryz.func103.trans (congrArg some (by kernel_rfl))
  t0 := Tryz.underlying0
  a0 := Tryz.isAgg0
  z0 := Tryz.sizeOf0
  v0 := Tryz.zeroValue0
  t3 := Tryz.underlying3
  a3 := Tryz.isAgg3
  z3 := Tryz.sizeOf3
  v3 := Tryz.zeroValue3
  t4 := Tryz.underlying4
  a4 := Tryz.isAgg4
  z4 := Tryz.sizeOf4
  v4 := Tryz.zeroValue4
  t5 := Tryz.underlying5
  a5 := Tryz.isAgg5
  z5 := Tryz.sizeOf5
  v5 := Tryz.zeroValue5
  t9 := Tryz.underlying9
  a9 := Tryz.isAgg9
  z9 := Tryz.sizeOf9
  v9 := Tryz.zeroValue9
  t20 := Tryz.underlying20
  a20 := Tryz.isAgg20
  z20 := Tryz.sizeOf20
  v20 := Tryz.zeroValue20
  t37 := Tryz.underlying53
  a37 := Tryz.isAgg53
  z37 := Tryz.sizeOf53
  v37 := Tryz.zeroValue53
  t46 := Tryz.underlying96
  a46 := Tryz.isAgg96
  z46 := Tryz.sizeOf96
  v46 := Tryz.zeroValue96
  t51 := Tryz.underlying122
  a51 := Tryz.isAgg122
  z51 := Tryz.sizeOf122
  v51 := Tryz.zeroValue122
  t53 := Tryz.underlying83
  a53 := Tryz.isAgg83
  z53 := Tryz.sizeOf83
  v53 := Tryz.zeroValue83
  t70 := Tryz.underlying112
  a70 := Tryz.isAgg112
  z70 := Tryz.sizeOf112
  v70 := Tryz.zeroValue112
  t72 := Tryz.underlying114
  a72 := Tryz.isAgg114
  z72 := Tryz.sizeOf114
  v72 := Tryz.zeroValue114
  t75 := Tryz.underlying116
  a75 := Tryz.isAgg116
  z75 := Tryz.sizeOf116
  v75 := Tryz.zeroValue116
  t76 := Tryz.underlying117
  a76 := Tryz.isAgg117
  z76 := Tryz.sizeOf117
  v76 := Tryz.zeroValue117
  t109 := Tryz.underlying110
  a109 := Tryz.isAgg110
  z109 := Tryz.sizeOf110
  v109 := Tryz.zeroValue110
  t127 := Tryz.underlying129
  a127 := Tryz.isAgg129
  z127 := Tryz.sizeOf129
  v127 := Tryz.zeroValue129
  t146 := Tryz.underlying123
  a146 := Tryz.isAgg123
  z146 := Tryz.sizeOf123
  v146 := Tryz.zeroValue123
  t148 := Tryz.underlying125
  a148 := Tryz.isAgg125
  z148 := Tryz.sizeOf125
  v148 := Tryz.zeroValue125
  t164 := Tryz.underlying130
  a164 := Tryz.isAgg130
  z164 := Tryz.sizeOf130
  v164 := Tryz.zeroValue130 }
theorem Tryz.Builder_Extra_105 : Builder.Extra Tryz.prog Tryz.lays105_ren := {
  sizeBuilder := by kernel_rfl
  liesBuilder := by kernel_rfl
  t5 := Tryz.underlying5
  a5 := Tryz.isAgg5
  z5 := Tryz.sizeOf5
  v5 := Tryz.zeroValue5
  infoByte := by kernel_rfl
  cellsByte := by kernel_rfl
  sizeByte := by kernel_rfl
  neB5 := by decide }
open Go.RowKit Go.Lib in
/-- **strings.Repeat: count ≥ 0, the result within one allocation: count copies of s.** (LAID: no walk: one application.) -/
theorem Tryz.strings_Repeat (s : ByteArray) (c : Nat) (w : World) (hc : c ≤ 9223372036854775807) (hlen : s.size * c ≤ 140737488355328) :
    Calls Tryz.prog 88 #[.string s, .int .i64 c] w fun e w' => e = .returned (.string ⟨(Lib.repeatL s.data.toList c).toArray⟩) ∧ Below w.heap.size w w' := Any.strings_Repeat Tryz.lays105 Tryz.Builder_Extra_105 s c w hc hlen
end Go.Proofs

/-
  Same, of the program and of the document: whether two devices are one, field by field: for all devices.
-/
namespace Go.Proofs.YtpdfkakhahfcjaaGreat
open Go.RowKit

theorem drawn_below {B : Nat} (w : World) (n : Nat) : Below B w (w.drewN n) := ⟨rfl, rfl, rfl, Nat.le_refl _, fun _ _ => rfl⟩
theorem sameD_no1 {d d2 : D} (h : d.bs ≠ d2.bs) : decide (d = d2) = false := decide_eq_false fun e => h (by rw [e])
theorem sameD_no2 {d d2 : D} (h : d.cs ≠ d2.cs) : decide (d = d2) = false := decide_eq_false fun e => h (by rw [e])
theorem sameD_no3 {d d2 : D} (h : d.left ≠ d2.left) : decide (d = d2) = false := decide_eq_false fun e => h (by rw [e])
theorem sameD_no4 {d d2 : D} (h : d.dead ≠ d2.dead) : decide (d = d2) = false := decide_eq_false fun e => h (by rw [e])
theorem sameD_yes {d d2 : D} (h1 : d.bs = d2.bs) (h2 : d.cs = d2.cs) (h3 : d.left = d2.left) (h4 : d.dead = d2.dead) : decide (d = d2) = true := by
  obtain ⟨a, b, c, e⟩ := d
  obtain ⟨a2, b2, c2, e2⟩ := d2
  exact decide_eq_true (by cases h1; cases h2; cases h3; cases h4; rfl)

end Go.Proofs.YtpdfkakhahfcjaaGreat

/-
  slices.Repeat of one element, at texts and at truth values: so many of it, in memory of the call's own.
-/
namespace Go.Proofs.YtpdfkakhahfcjaaGreat
open Go.RowKit

/-- The list with its first k elements u. -/
def Head (u : Value) (k : Nat) (cur : List Value) : Prop := ∀ j, j < k → cur[j]? = some u
theorem Head.splice {u : Value} {k m N : Nat} {cur : List Value} (h : Head u k cur) (hl : cur.length = N) (hk : k + m ≤ N) : Head u (k + m) (splice cur k (List.replicate m u)) := by
  intro j hj
  unfold Go.splice
  rw [List.getElem?_append]
  split
  · next hjk =>
    rw [List.length_take] at hjk
    rw [List.getElem?_take, if_pos (by omega)]
    exact h j (by omega)
  · next hjk =>
    rw [List.length_take] at hjk
    rw [List.getElem?_append_left (by simp [List.length_take]; omega), List.getElem?_replicate, if_pos (by rw [List.length_take]; omega)]
theorem Head.all {u : Value} {N : Nat} {cur : List Value} (h : Head u N cur) (hl : cur.length = N) : cur = List.replicate N u := by
  refine List.ext_getElem? fun j => ?_
  by_cases hj : j < N
  · rw [h j hj, List.getElem?_replicate, if_pos hj]
  · rw [List.getElem?_eq_none (by omega), List.getElem?_replicate, if_neg hj]
theorem mul_one_any (N : Nat) (hN : N ≤ 4096) (W : World) : Calls Tryz.prog 87 #[.int .u64 1, .int .u64 N] W fun e w' => e = .returned (.tuple #[.int .u64 0, .int .u64 N]) ∧ W = w' :=
  (Tryz.bits_Mul 1 N (by decide) (by omega) W).mono fun e w' ⟨h1, h2⟩ => ⟨by rw [h1, Nat.one_mul, Nat.div_eq_of_lt (by omega), Nat.mod_eq_of_lt (by omega)]; rfl, h2.symm⟩

set_option maxRecDepth 100000 in
set_option maxHeartbeats 2000000 in
theorem repeatS_any (b : Nat) (u : Value) (N : Nat) (w : World) (hb : b < w.heap.size) (hu : w.cell? ⟨b, 0, none⟩ = some u) (h1 : u.oneCell' = true) (hN : N ≤ 4096) :
    Calls Tryz.prog 55 #[.slice (some ⟨b, 0, none⟩) 1 1, .int .i64 N] w fun e w' => ∃ A c, e = .returned (.slice A N c) ∧ w'.ownsRow w.heap.size 9 1 (.slice A N c) N (List.replicate N u) ∧ Below w.heap.size w w' := by
  have c1 := fun W => mul_one_any N hN W
  have hU := Lib.hid (And.intro hu h1)
  have hcu : IntKind.u64.wrap (N : Int) = (N : Int) := IntWalk.u64_in _ (by omega)
  have hci : IntKind.i64.wrap (N : Int) = (N : Int) := IntWalk.i64_in _ (by omega)
  have hd : decide ((9223372036854775807 : Int) < (N : Int)) = false := by simp; omega
  have hB := Lib.hid hb
  have hd0 : decide ((N : Int) < 0) = false := by simp
  obtain ⟨i0, hi0, hz0, hz1, hz2⟩ := info_parts infoS
  clear hu h1 hb
  go_enter Tryz.func55, Tryz.ntmps55
  go_wp2_with (first
    | (go_at_call 87; refine (c1 _).mono ?_; rintro e w' ⟨rfl, rfl⟩)
    | (at_make; refine wpList_make_full _ rfl _ _ 22 rfl w.heap.size 9 i0 _ 1 Tryz.underlying22 hi0 hz0 hz1 _ _ _ _ N rfl rfl rfl rfl ?_ ?_ ?_ ?_))
  · rw [hz2]; omega
  · simp only [maxLen]; omega
  · exact Nat.le_refl _
  intro w1 ho1 hg1
  obtain ⟨cur0, hcur0, hl0⟩ : ∃ cur : List Value, w1.heap[w.heap.size]? = some (.cells cur.toArray 9 (0, 0)) ∧ cur.length = N := by
    rcases ho1.2 with ⟨h', _⟩ | ⟨g', cap', cur, h', _, hh, _, _, hs, _⟩
    · simp at h'
    · simp only [Value.slice.injEq, Option.some.injEq, Addr.mk.injEq, and_true, true_and] at h'
      obtain ⟨rfl, rfl⟩ := h'
      exact ⟨cur.toList, by rw [Array.toArray_toList]; exact hh, by simpa using hs⟩
  have hb1 : Below w.heap.size w w1 := (Below.refl _ _).grown hg1 (Nat.le_refl _) (by intro k hk; cases hk)
  obtain ⟨M, hM⟩ : ∃ M, M = Nat.min 1 N := ⟨_, rfl⟩
  have hM1 : M ≤ N := by rw [hM]; exact Nat.min_le_right _ _
  have hM2 : M = 1 ∨ N = 0 := by rw [hM]; simp only [Nat.min_def]; split <;> omega
  have HM := Lib.hid hM; clear hM
  have HM2 := Lib.hid hM2; clear hM2
  have hlen : (List.replicate M u).length = M := List.length_replicate
  have hsrc : ∀ j v, (List.replicate M u)[j]? = some v → w1.cell? ⟨b, j, none⟩ = some v := by
    intro j v hj
    rw [List.getElem?_replicate] at hj
    split at hj
    · next hjM =>
      have : j = 0 := by rcases HM2.out with h | h <;> omega
      subst this
      rw [hb1.cell (p := ⟨b, 0, none⟩) hB.out, hU.out.1]
      exact hj
    · cases hj
  have H0 := Lib.hid (And.intro hcur0 (And.intro hl0 (And.intro hlen (And.intro hsrc hb1))))
  clear hcur0 hl0 hlen hsrc hb1 ho1 hg1
  go_wp2_with (with_reducible refine wpList_copy_splice (o := ⟨some 33, _, _, _, _, _⟩) rfl (.tmp 31) (.tmp 32) 22 22 rfl 9 Tryz.underlying22 (by kernel_rfl) _ _ N N 1 1 rfl rfl w.heap.size 0 cur0 9 H0.out.1 (List.replicate M u) ?_ ?_ ?_ ?_ w.heap.size w H0.out.2.2.2.2 (Nat.le_refl _) ?_)
  · rw [H0.out.2.2.1]; exact HM.out
  · exact fun _ => H0.out.2.2.2.1
  · rw [H0.out.2.2.1, H0.out.2.1]; omega
  · intro v hv; rw [List.eq_of_mem_replicate hv]; exact hU.out.2
  intro w2 hh2 hb2
  have J0 : Hid (w2.heap[w.heap.size]? = some (.cells (splice cur0 0 (List.replicate M u)).toArray 9 (0, 0)) ∧ (splice cur0 0 (List.replicate M u)).length = N ∧ Head u M (splice cur0 0 (List.replicate M u))) :=
    Lib.hid ⟨hh2.out, by rw [length_splice _ _ _ (by rw [H0.out.2.2.1, H0.out.2.1]; omega)]; exact H0.out.2.1, by
      have := Head.splice (u := u) (k := 0) (m := M) (N := N) (cur := cur0) (fun j hj => absurd hj (Nat.not_lt_zero _)) H0.out.2.1 (by omega)
      rwa [Nat.zero_add] at this⟩
  generalize splice cur0 0 (List.replicate M u) = cur1 at J0
  clear H0 hh2
  go_wp2
  go_loopg [8] N (fun g s8 wr => ∃ (k : Nat) (cur : List Value), k ≤ N ∧ N - k ≤ g ∧ s8 = .int .i64 k ∧ (k = 0 → N = 0) ∧ Hid (wr.heap[w.heap.size]? = some (.cells cur.toArray 9 (0, 0)) ∧ cur.length = N ∧ Head u k cur) ∧ Below w.heap.size w wr)
  case atStart => exact ⟨M, cur1, hM1, by omega, rfl, fun h => by rcases HM2.out with h2 | h2 <;> omega, J0, hb2⟩
  case round =>
    obtain ⟨k, cur, hk, hg, rfl, hk0, J, hbw⟩ := hrel
    by_cases hlt : k < N
    · have hk1 : (k : Int) < (N : Int) := by omega
      obtain ⟨P, hP⟩ : ∃ P, P = Nat.min k (N - k) := ⟨_, rfl⟩
      have hP1 : P ≤ k := by rw [hP]; exact Nat.min_le_left _ _
      have hP2 : P ≤ N - k := by rw [hP]; exact Nat.min_le_right _ _
      have hP3 : 0 < P := by rw [hP]; simp only [Nat.min_def]; split <;> omega
      have HP := Lib.hid hP; clear hP
      have hlen : (List.replicate P u).length = P := List.length_replicate
      have hsrc : ∀ j v, (List.replicate P u)[j]? = some v → wr.cell? ⟨w.heap.size, j, none⟩ = some v := by
        intro j v hj
        rw [List.getElem?_replicate] at hj
        split at hj
        · next hjM =>
          rw [cell_of_row wr w.heap.size j cur.toArray 9 (0, 0) J.out.1, ← hj]
          simpa using J.out.2.2 j (by omega)
        · cases hj
      have HL := Lib.hid (And.intro hlen hsrc); clear hlen hsrc
      have HW := Lib.hid hbw; clear hbw
      have hne : ¬ N = k := by omega
      have hkp : (k : Int) + (P : Int) ≤ 4096 := by omega
      have hkP : IntKind.i64.wrap ((k : Int) + (P : Int)) = (k : Int) + (P : Int) := IntWalk.i64_in _ (by omega)
      go_wp2_with fail
      go_region_law (refine step_copy_splice rfl (.tmp 41) (.tmp 44) 22 22 rfl 9 Tryz.underlying22 (by kernel_rfl) (some ⟨w.heap.size, k, none⟩) (some ⟨w.heap.size, 0, none⟩) (N - k) (N - k) k N (by simp [Act.eval, Act.put]) (by simp [Act.eval, Act.put]) w.heap.size k cur 9 J.out.1 (List.replicate P u) (HL.out.1.trans HP.out) (fun _ => ⟨rfl, _, rfl, fun j v h => (congrArg wr.cell? (show (⟨w.heap.size, 0, none⟩ : Addr).add j = ⟨w.heap.size, j, none⟩ by rw [Go.WideShapes.add_plain, Nat.zero_add])).trans (HL.out.2 j v h)⟩) (by rw [HL.out.1, J.out.2.1]; omega) (fun v hv => by rw [List.eq_of_mem_replicate hv]; exact hU.out.2) w.heap.size w (HW.out.drew) (Nat.le_refl _) ?_; intro w4 hh4 hb4)
      have J4 : Hid (w4.heap[w.heap.size]? = some (.cells (splice cur k (List.replicate P u)).toArray 9 (0, 0)) ∧ (splice cur k (List.replicate P u)).length = N ∧ Head u (k + P) (splice cur k (List.replicate P u))) :=
        Lib.hid ⟨hh4.out, by rw [length_splice _ _ _ (by rw [HL.out.1, J.out.2.1]; omega)]; exact J.out.2.1, Head.splice J.out.2.2 J.out.2.1 (by omega)⟩
      generalize splice cur k (List.replicate P u) = cur4 at J4
      clear hh4 HL HP J
      go_wp2
      go_roundg (N - (k + P))
      case measure => omega
      case rel => exact ⟨k + P, cur4, by omega, by omega, by go_num, fun h => by omega, J4, hb4⟩
    · have : k = N := by omega
      subst this
      go_wp2
      go_ret
      refine ⟨some ⟨w.heap.size, 0, none⟩, k, rfl, ⟨by simp, .inr ⟨w.heap.size, k, cur.toArray, rfl, Nat.le_refl _, J.out.1, Nat.le_refl _, by simp only [maxLen]; omega, by simpa using J.out.2.1, ?_⟩⟩, hbw⟩
      rw [Head.all J.out.2.2 J.out.2.1]
      simp

end Go.Proofs.YtpdfkakhahfcjaaGreat

/-
  A row of bytes of the call's own, made from a text or made empty, written byte by byte, and made a text again.
-/
namespace Go.Proofs.YtpdfkakhahfcjaaGreat
open Go.RowKit

/-- The block g begins with these bytes, none of them frozen. -/
structure Byt (w : World) (g : Nat) (l : List UInt8) : Prop where
  blk : ∃ cur e lo hi, w.heap[g]? = some (.cells cur e (lo, hi)) ∧ (l.length ≤ lo ∨ hi = 0) ∧ l.length ≤ cur.size ∧ ∀ j, j < l.length → cur[j]? = some (.int .u8 ((l.getD j 0).toNat : Int))
section
variable {w w' : World} {g : Nat} {l : List UInt8}
theorem Byt.lt (h : Byt w g l) : g < w.heap.size := by
  obtain ⟨_, _, _, _, h, _⟩ := h.blk
  exact (Array.getElem?_eq_some_iff.1 h).1
theorem Byt.cell (h : Byt w g l) (j : Nat) (hj : j < l.length) : w.cell? ⟨g, j, none⟩ = some (.int .u8 ((l.getD j 0).toNat : Int)) := by
  obtain ⟨cur, e, lo, hi, h, _, _, hc⟩ := h.blk
  simp [World.cell?, h, hc j hj]
theorem Byt.free (h : Byt w g l) (j : Nat) (hj : j < l.length) : w.frozen? ⟨g, j, none⟩ = false := by
  obtain ⟨cur, e, lo, hi, h, hz, _, _⟩ := h.blk
  simp [World.frozen?, h]
  omega
theorem Byt.of_text (w : World) (e : TypeId) (m : ByteArray) (c : Nat) : Byt (w.drew.alloc (.cells (bytesRow m c) e ((bytesRow m c).size, (bytesRow m c).size + 1))) w.heap.size m.data.toList := by
  have hs : m.data.toList.length ≤ (bytesRow m c).size := by simp [bytesRow]
  refine ⟨bytesRow m c, e, _, _, heap_alloc_new w.drew _, .inl hs, hs, fun j hj => ?_⟩
  have hj' : j < m.data.size := by simpa using hj
  unfold bytesRow
  rw [Array.getElem?_append_left (by simpa using hj')]
  simp [Array.getElem?_eq_getElem hj', List.getD_eq_getElem?_getD]
theorem Byt.of_text_below (w : World) (e : TypeId) (m : ByteArray) (c : Nat) : Below w.heap.size w (w.drew.alloc (.cells (bytesRow m c) e ((bytesRow m c).size, (bytesRow m c).size + 1))) := ((Below.refl _ w).drew).alloc (Nat.le_refl _) _
theorem Byt.set (h : Byt w g l) (k : Nat) (x : UInt8) : Byt (w.setCell ⟨g, k, none⟩ (.int .u8 (x.toNat : Int))) g (l.set k x) := by
  obtain ⟨cur, e, lo, hi, h, hz, hs, hc⟩ := h.blk
  refine ⟨cur.setIfInBounds k (.int .u8 (x.toNat : Int)), e, lo, hi, ?_, by simpa using hz, by simpa using hs, fun j hj => ?_⟩
  · simp [World.setCell, Array.getElem?_modify, h]
  · have hj : j < l.length := by simpa using hj
    rw [Array.getElem?_setIfInBounds, List.getD_eq_getElem?_getD, List.getElem?_set]
    by_cases hk : k = j
    · subst hk
      rw [if_pos rfl, if_pos (by omega), if_pos rfl, if_pos hj]; rfl
    · rw [if_neg hk, if_neg hk, hc j hj, List.getD_eq_getElem?_getD]
theorem Byt.drew (h : Byt w g l) : Byt w.drew g l := ⟨h.blk⟩
theorem Byt.drewN (h : Byt w g l) (q : Nat) : Byt (w.drewN q) g l := ⟨h.blk⟩
theorem Byt.step (h : Byt w g l) (hb : Below w.heap.size w w') : Byt w' g l := by
  have hl := h.lt
  obtain ⟨cur, e, lo, hi, h, r⟩ := h.blk
  exact ⟨cur, e, lo, hi, (hb.block g hl).trans h, r⟩
theorem Byt.alloc (h : Byt w g l) (o : Obj) : Byt (w.alloc o) g l := h.step ((Below.refl _ _).alloc (Nat.le_refl _) o)
/-- A row just made, all of one byte. -/
theorem Byt.of_own {base : Nat} {e : TypeId} {c n : Nat} {l : List UInt8} (h : w.ownsRow base e 1 (.slice (some ⟨g, 0, none⟩) n c) n (l.map fun x => Value.int .u8 (x.toNat : Int))) (_hn : 0 < n) : Byt w g l := by
  have hl : l.length = n := by have := h.1; simpa using this
  rcases h.2 with ⟨h', _⟩ | ⟨g', cap', cur, h', _, hg, h1, h2, hc, hx⟩
  · simp at h'
  · simp only [Value.slice.injEq, Option.some.injEq, Addr.mk.injEq, and_true, true_and] at h'
    obtain ⟨rfl, rfl⟩ := h'
    exact ⟨cur, e, 0, 0, hg, .inr rfl, by simp at hc; omega, fun j hj => by
      have hcell := h.cellAt j (by omega)
      simp [World.cell?, hg] at hcell
      rw [hcell]
      simp [hj]⟩
theorem toNums (l : List UInt8) : strOfNums (l.map fun x => (x.toNat : Int)) = ⟨l.toArray⟩ := by
  unfold strOfNums
  rw [List.map_map]
  congr 2
  conv => rhs; rw [← List.map_id l]
  refine List.map_congr_left fun x _ => ?_
  simp
theorem Byt.conv {P : Program} {src e dst : TypeId} (hs : P.underlying src = some (.slice e)) (he : P.underlying e = some (.int .u8)) (hd : P.underlying dst = some .string) (h : Byt w g l) (c n : Nat) (hn : l.length = n) :
    (convert src dst (.slice (some ⟨g, 0, none⟩) n c)).run P w = .ok (.string (mkB l)) w := by
  have := run_convert_bytes_arg (P := P) w src e hs he g 0 n c (l.map fun x => (x.toNat : Int)) (by simpa using hn) (fun i hi => by
    rw [Nat.zero_add, h.cell i (by omega)]
    simp [show i < l.length by omega]) dst hd
  rw [toNums] at this
  exact this
end

end Go.Proofs.YtpdfkakhahfcjaaGreat

/-
  The small answers of the program on an image: how many inodes, where data begin, its map's bits.
-/
namespace Go.Proofs.YtpdfkakhahfcjaaGreat
open Go.RowKit

set_option maxRecDepth 100000 in
theorem isCount_any (x : Int) (w : World) : Calls Tryz.prog 54 #[.int .i64 x] w fun e w' => e = .returned (.bool (decide (8 ≤ x ∧ x ≤ 512))) ∧ w = w' := by
  by_cases h : 8 ≤ x
  · by_cases h2 : x ≤ 512
    · have e : decide (8 ≤ x ∧ x ≤ 512) = true := decide_eq_true ⟨h, h2⟩
      rw [e]
      go_enter Tryz.func54, Tryz.ntmps54
      go_wp2
      go_ret
      exact ⟨rfl, rfl⟩
    · have e : decide (8 ≤ x ∧ x ≤ 512) = false := decide_eq_false fun hh => h2 hh.2
      rw [e]
      go_enter Tryz.func54, Tryz.ntmps54
      go_wp2
      go_ret
      exact ⟨rfl, rfl⟩
  · have e : decide (8 ≤ x ∧ x ≤ 512) = false := decide_eq_false fun hh => h hh.1
    rw [e]
    go_enter Tryz.func54, Tryz.ntmps54
    go_wp2
    go_ret
    exact ⟨rfl, rfl⟩

set_option maxRecDepth 100000 in
theorem inodes_any (A : Option Addr) (n c : Nat) (hn : n ≤ maxLen) (w : World) : Calls Tryz.prog 32 #[.slice A n c] w fun e w' => e = .returned (.int .i64 (cntA n : Nat)) ∧ w = w' := by
  unfold maxLen at hn
  go_enter Tryz.func32, Tryz.ntmps32
  go_wp2
  go_ret
  exact ⟨congrArg (fun z => Ending.returned (Value.int .i64 z)) (by unfold cntA; omega), rfl⟩

set_option maxRecDepth 100000 in
theorem first_any (A : Option Addr) (n c : Nat) (hn : n ≤ maxLen) (w : World) : Calls Tryz.prog 58 #[.slice A n c] w fun e w' => e = .returned (.int .i64 (firstA n : Nat)) ∧ w = w' := by
  have ci := fun W => inodes_any A n c hn W
  have hc : cntA n ≤ maxLen := by unfold cntA; unfold maxLen at hn ⊢; omega
  have hf : firstA n = 2 + cntA n / 4 := rfl
  unfold maxLen at hc
  have HF := Lib.hid hf
  clear hf
  generalize cntA n = k at ci hc HF
  go_enter Tryz.func58, Tryz.ntmps58
  go_wp2_with (go_at_call 32; refine (ci _).mono ?_; rintro e w1 ⟨rfl, rfl⟩)
  go_ret
  exact ⟨congrArg (fun z => Ending.returned (Value.int .i64 z)) (by rw [HF.out]; omega), rfl⟩

theorem and8 : ∀ x : Fin 256, ∀ k : Fin 8, (bits BinOp.and IntKind.u8 ((x.val : Int) / 2 ^ k.val) 1 == 1) = x.val.testBit k.val := by decide +kernel
theorem bit_and (m : ByteArray) (i : Nat) (hi : i / 8 < m.size) : (bits BinOp.and IntKind.u8 ((m[i / 8].toNat : Int) / 2 ^ (i % 8)) 1 == 1) = bitA m i := by
  have h := and8 ⟨m[i / 8].toNat, UInt8.toNat_lt _⟩ ⟨i % 8, by omega⟩
  dsimp only at h
  rw [h]
  unfold bitA byA
  rw [List.getD_eq_getElem?_getD, List.getElem?_eq_getElem (by simpa using hi)]
  rfl
set_option maxRecDepth 100000 in
theorem isTaken_any (m : ByteArray) (i : Nat) (hi : i / 8 < m.size) (h2 : i ≤ 1099511627776) (w : World) : Calls Tryz.prog 93 #[.string m, .int .i64 i] w fun e w' => e = .returned (.bool (bitA m i)) ∧ w = w' := by
  go_enter Tryz.func93, Tryz.ntmps93
  go_wp2
  go_ret
  exact ⟨congrArg (fun z => Ending.returned (Value.bool z)) (bit_and m i hi), rfl⟩

/-- The map of an image in memory is long enough. -/
def MapP (img : List ByteArray) : Prop := (8 ≤ img.length ∧ img.length ≤ 512) ∧ (blk img 1).size = 128
theorem FitA.map {img : List ByteArray} (h : FitA img) : MapP img := ⟨⟨by have := h.1; omega, h.1.2⟩, h.2.1 _ (List.mem_of_getElem? (blk_get (by have := h.1; omega)))⟩
set_option maxRecDepth 100000 in
theorem mapped_any (A : Option Addr) (n c : Nat) (img : List ByteArray) (w : World) (h : Reads w w.heap.size 1 A n (encS img)) (hf : MapP img) : Calls Tryz.prog 73 #[.slice A n c] w fun e w' => e = .returned (.int .i64 n) ∧ w = w' := by
  have hl := h.lenS
  obtain ⟨⟨h8, h512⟩, hsz⟩ := hf
  obtain ⟨b, o, rfl, _, g1⟩ := h.str (k := 1) (by omega)
  generalize blk img 1 = m at g1 hsz
  have hn1 : 1 < n := by omega
  have hn5 : n ≤ 512 := by omega
  clear h hl h8 h512
  go_enter Tryz.func73, Tryz.ntmps73
  go_wp2
  go_ret
  exact ⟨congrArg (fun z => Ending.returned (Value.int .i64 z)) (by omega), rfl⟩

theorem xor8 : ∀ x : Fin 256, ∀ k : Fin 8, bits BinOp.xor IntKind.u8 (x.val : Int) (2 ^ k.val % 256) = ((UInt8.ofNat (x.val ^^^ 2 ^ k.val)).toNat : Int) := by decide +kernel
theorem bit_xor (x : UInt8) (i : Nat) : bits BinOp.xor IntKind.u8 (x.toNat : Int) (2 ^ (i % 8) % 256) = ((flip8 x (i % 8)).toNat : Int) := xor8 ⟨x.toNat, UInt8.toNat_lt _⟩ ⟨i % 8, by omega⟩
theorem flipA_set (m : ByteArray) (i : Nat) (hi : i / 8 < m.size) : mkB (m.data.toList.set (i / 8) (flip8 (m.data.toList.getD (i / 8) 0) (i % 8))) = flipA m i := by
  have hi' : i / 8 < m.data.toList.length := by simpa using hi
  unfold flipA
  congr 1
  rw [List.getD_eq_getElem?_getD, List.getElem?_eq_getElem hi']
  refine List.ext_getElem? fun j => ?_
  rw [List.getElem?_modify, List.getElem?_set]
  by_cases h : i / 8 = j
  · subst h
    rw [if_pos rfl, if_pos hi', List.getElem?_eq_getElem hi']
    simp
  · rw [if_neg h]
    simp [h]
set_option maxRecDepth 100000 in
theorem turned_any (m : ByteArray) (i : Nat) (hi : i / 8 < m.size) (hm : m.size ≤ 1099511627776) (h2 : i ≤ 1099511627776) (w : World) : Calls Tryz.prog 59 #[.string m, .int .i64 i] w fun e w' => e = .returned (.string (flipA m i)) ∧ Below w.heap.size w w' := by
  have hcv := run_bytes_of_string (P := Tryz.prog) w 9 53 5 m Tryz.underlying9 Tryz.underlying53 Tryz.underlying5
  have hb0 := Byt.of_text w 5 m (grownCap w m.size 0 5)
  have hl0 := Byt.of_text_below w 5 m (grownCap w m.size 0 5)
  generalize w.drew.alloc (.cells (bytesRow m (grownCap w m.size 0 5)) 5 ((bytesRow m (grownCap w m.size 0 5)).size, (bytesRow m (grownCap w m.size 0 5)).size + 1)) = w1 at hcv hb0 hl0
  have hlen : m.data.toList.length = m.size := by simp
  have hce := hb0.cell (i / 8) (by omega)
  have hfr := hb0.free (i / 8) (by omega)
  have HB := Lib.hid (And.intro hb0 hl0)
  obtain ⟨x, hx⟩ : ∃ x, x = m.data.toList.getD (i / 8) 0 := ⟨_, rfl⟩
  rw [← hx] at hce
  have HX := Lib.hid hx
  have HL := Lib.hid hlen
  clear hb0 hl0 hlen hx
  go_enter Tryz.func59, Tryz.ntmps59
  go_wp2
  go_region
  rw [bit_xor]
  have hs1 := (HB.out.1.set (i / 8) (flip8 x (i % 8))).drew
  have hl1 : Below w.heap.size w (w1.setCell ⟨w.heap.size, i / 8, none⟩ (.int .u8 ((flip8 x (i % 8)).toNat : Int))).drew := ((HB.out.2.setCell (p := ⟨w.heap.size, i / 8, none⟩) (Nat.le_refl _) _)).drew
  generalize (w1.setCell ⟨w.heap.size, i / 8, none⟩ (.int .u8 ((flip8 x (i % 8)).toNat : Int))).drew = w2 at hs1 hl1 ⊢
  have hcv2 := hs1.conv (P := Tryz.prog) Tryz.underlying53 Tryz.underlying5 Tryz.underlying9 (grownCap w m.size 0 5) m.size (by rw [List.length_set]; exact HL.out)
  rw [HX.out, flipA_set m i hi] at hcv2
  have HB2 := Lib.hid hl1
  clear hs1 hl1 hce hfr hcv
  go_wp2
  go_ret
  exact ⟨rfl, HB2.out⟩

end Go.Proofs.YtpdfkakhahfcjaaGreat

/-
  A block padded with zeros; an image's block 0.
-/
namespace Go.Proofs.YtpdfkakhahfcjaaGreat
open Go.RowKit

theorem rep_zeroA : ∀ k : Nat, Lib.repeatL [0] k = List.replicate k 0
  | 0 => rfl
  | k + 1 => by rw [Lib.repeatL, rep_zeroA k]; rfl
theorem pad_repA (s : ByteArray) : s ++ (⟨(Lib.repeatL [0] (128 - s.size)).toArray⟩ : ByteArray) = padL s.data.toList := by
  apply ByteArray.ext
  rw [ByteArray.data_append, rep_zeroA]
  have hl : s.data.toList.length = s.size := by simp
  unfold padL mkB
  rw [hl]
  apply Array.ext'
  simp
set_option maxRecDepth 100000 in
set_option maxHeartbeats 1000000 in
theorem paddedA_any (s : ByteArray) (w : World) (hs : s.size ≤ 128) : Calls Tryz.prog 56 #[.string s] w fun e w' => e = .returned (.string (padL s.data.toList)) ∧ Below w.heap.size w w' := by
  obtain ⟨k, hk⟩ : ∃ k : Nat, k = 128 - s.size := ⟨_, rfl⟩
  have HP := Lib.hid (pad_repA s)
  have cr := fun W => Tryz.strings_Repeat ⟨#[0]⟩ k W (by omega) (by show 1 * k ≤ _; omega)
  rw [← hk] at HP
  have hk2 : (128 : Int) - (s.size : Int) = (k : Int) := by omega
  have hzs : (⟨(Lib.repeatL [0] k).toArray⟩ : ByteArray).size = k := by
    show (Lib.repeatL [0] k).toArray.size = k
    rw [rep_zeroA]; simp
  have hsum : ¬ 9223372036854775807 < s.size + (⟨(Lib.repeatL [0] k).toArray⟩ : ByteArray).size := by rw [hzs]; omega
  have cr : ∀ W : World, Calls Tryz.prog 88 #[.string ⟨#[0]⟩, .int .i64 k] W fun e w' => e = .returned (.string ⟨(Lib.repeatL [0] k).toArray⟩) ∧ Below W.heap.size W w' := cr
  clear hzs
  generalize (⟨(Lib.repeatL [0] k).toArray⟩ : ByteArray) = z at cr HP hsum
  clear hs hk
  go_enter Tryz.func56, Tryz.ntmps56
  go_wp2_with (go_at_call 88; refine (cr _).mono ?_; rintro e w1 ⟨rfl, hb1⟩)
  go_ret
  rw [HP.out]
  exact ⟨rfl, hb1⟩
theorem padL_nil : padL [] = zeroB := by decide +kernel
theorem padded0_any (w : World) : Calls Tryz.prog 56 #[.string ⟨#[]⟩] w fun e w' => e = .returned (.string zeroB) ∧ Below w.heap.size w w' := by
  have h := paddedA_any ⟨#[]⟩ w (by decide)
  rwa [show (⟨#[]⟩ : ByteArray).data.toList = [] from rfl, padL_nil] at h

theorem Byt.of_lit {w : World} {e : TypeId} (l : List UInt8) (C : Array Value) (h : C.toList = l.map fun x => Value.int .u8 (x.toNat : Int)) : Byt (w.alloc (.cells C e)) w.heap.size l := by
  have hs : C.size = l.length := by rw [← Array.length_toList, h, List.length_map]
  refine ⟨C, e, 0, 0, heap_alloc_new w _, .inr rfl, by omega, fun j hj => ?_⟩
  rw [← Array.getElem?_toList, h]
  simp [hj]
theorem byte_lo (n : Nat) : (n : Int) % 256 = ((UInt8.ofNat n).toNat : Int) := by simp
theorem byte_hi (n : Nat) : (n : Int) / 256 % 256 = ((UInt8.ofNat (n / 256)).toNat : Int) := by simp
theorem mkB_app4 (a b c d x y z u : UInt8) : (⟨#[a, b, c, d]⟩ : ByteArray) ++ mkB [x, y, z, u] = mkB [a, b, c, d, x, y, z, u] := by
  apply ByteArray.ext
  rw [ByteArray.data_append]
  rfl
set_option maxRecDepth 100000 in
set_option maxHeartbeats 1000000 in
theorem head_any (A : Option Addr) (n c : Nat) (w : World) (hn : n ≤ 512) : Calls Tryz.prog 57 #[.slice A n c] w fun e w' => e = .returned (.string (superB n)) ∧ Below w.heap.size w w' := by
  have ci := fun W => inodes_any A n c (by unfold maxLen; omega) W
  have hc : cntA n ≤ 128 := by unfold cntA; omega
  have HS : Hid (superB n = padL (superL n) ∧ superL n = [65, 70, 83, 49, UInt8.ofNat (n / 256), UInt8.ofNat n, UInt8.ofNat (cntA n / 256), UInt8.ofNat (cntA n)]) := Lib.hid ⟨rfl, rfl⟩
  generalize cntA n = k at ci hc HS

  obtain ⟨l, hl⟩ : ∃ l : List UInt8, l = [UInt8.ofNat (n / 256), UInt8.ofNat n, UInt8.ofNat (k / 256), UInt8.ofNat k] := ⟨_, rfl⟩
  have hby := Byt.of_lit (w := w) (e := 5) l #[.int .u8 ((n : Int) / 256), .int .u8 ((n : Int) % 256), .int .u8 ((k : Int) / 256), .int .u8 (k : Int)] (by
    rw [hl]
    simp only [List.map_cons, List.map_nil]
    rw [← byte_hi, ← byte_lo, ← byte_hi, ← byte_lo, show (n : Int) / 256 % 256 = (n : Int) / 256 by omega, show (k : Int) / 256 % 256 = (k : Int) / 256 by omega, show (k : Int) % 256 = (k : Int) by omega])
  have hcv := hby.conv (P := Tryz.prog) Tryz.underlying53 Tryz.underlying5 Tryz.underlying9 4 4 (by rw [hl]; rfl)
  have hsz : (mkB l).size = 4 := by rw [hl]; rfl
  have hno : ¬ 9223372036854775807 < (⟨#[65, 70, 83, 49]⟩ : ByteArray).size + (mkB l).size := by rw [hsz]; decide
  have cp : ∀ W : World, Calls Tryz.prog 56 #[.string ((⟨#[65, 70, 83, 49]⟩ : ByteArray) ++ mkB l)] W fun e w' => e = .returned (.string (superB n)) ∧ Below W.heap.size W w' := fun W => by
    have h := paddedA_any ((⟨#[65, 70, 83, 49]⟩ : ByteArray) ++ mkB l) W (by rw [ByteArray.size_append, hsz]; decide)
    rw [HS.out.1, HS.out.2]
    rw [hl, mkB_app4] at h ⊢
    exact h
  clear hby hl hsz
  generalize mkB l = s at hcv hno cp
  go_enter Tryz.func57, Tryz.ntmps57
  go_wp2_with (first | (go_at_call 32; refine (ci _).mono ?_; rintro e w1 ⟨rfl, rfl⟩) | (go_at_call 56; refine (cp _).mono ?_; rintro e w1 ⟨rfl, hb1⟩))
  go_ret
  exact ⟨rfl, ((Below.refl _ _).alloc (Nat.le_refl _) _).trans (hb1.mono (by simp))⟩

end Go.Proofs.YtpdfkakhahfcjaaGreat

/-
  An image of the call's own; an empty image as the program makes it.
-/
namespace Go.Proofs.YtpdfkakhahfcjaaGreat
open Go.RowKit

/-- An image of the call's own: block g holds its blocks. -/
structure OwI (w : World) (base g n c : Nat) (img : List ByteArray) : Prop where
  own : w.ownsRow base 9 1 (.slice (some ⟨g, 0, none⟩) n c) n (encS img)
  pos : 0 < n
section
variable {w w' : World} {base g n c : Nat} {img : List ByteArray}
theorem OwI.of {A : Option Addr} (h : w.ownsRow base 9 1 (.slice A n c) n (encS img)) (hn : 0 < n) : ∃ g, A = some ⟨g, 0, none⟩ ∧ OwI w base g n c img := by
  obtain ⟨g, rfl, _⟩ := own_cells h hn
  exact ⟨g, rfl, h, hn⟩
theorem OwI.reads (h : OwI w base g n c img) : Reads w w.heap.size 1 (some ⟨g, 0, none⟩) n (encS img) := .of_own h.own
theorem OwI.len (h : OwI w base g n c img) : img.length = n := h.reads.lenS
theorem OwI.ge (h : OwI w base g n c img) : base ≤ g := own_row_ge h.own g rfl
theorem OwI.lt (h : OwI w base g n c img) : g < w.heap.size := by
  obtain ⟨g', e, _, hlt, _⟩ := own_cells h.own h.pos
  injection e with e
  injection e with e
  rw [e]; exact hlt
theorem OwI.cell (h : OwI w base g n c img) (j : Nat) (hj : j < n) : w.cell? ⟨g, j, none⟩ = some (.string (blk img j)) := by
  obtain ⟨b, o, e, _, hc⟩ := h.reads.str hj
  injection e with e
  injection e with e1 e2
  subst e1; subst e2
  rwa [Nat.zero_add] at hc
theorem OwI.free (h : OwI w base g n c img) (j : Nat) : w.frozen? ⟨g, j, none⟩ = false := by
  obtain ⟨g', e, _, _, ⟨cur, hg⟩, _⟩ := own_cells h.own h.pos
  injection e with e
  injection e with e
  subst e
  simp [World.frozen?, hg]
theorem OwI.set (h : OwI w base g n c img) (j : Nat) (s : ByteArray) : OwI (w.setCell ⟨g, j, none⟩ (.string s)) base g n c (img.set j s) := by
  refine ⟨?_, h.pos⟩
  have := (h.own.stored j (.string s)).1
  have e : encS (img.set j s) = (encS img).set j (.string s) := by simp [encS, List.map_set]
  rw [e]; exact this
theorem OwI.step (h : OwI w base g n c img) (hb : Below w.heap.size w w') : OwI w' base g n c img := ⟨own_below h.own hb, h.pos⟩
theorem OwI.below_set (h : OwI w base g n c img) (j : Nat) (u : Value) {w0 : World} {B : Nat} (hB : B ≤ base) (hb : Below B w0 w) : Below B w0 (w.setCell ⟨g, j, none⟩ u) := hb.setCell (Nat.le_trans hB h.ge) _
end

def mapL : Nat → ByteArray
  | 0 => zeroB
  | k + 1 => flipA (mapL k) k
theorem mapL_size : ∀ k, (mapL k).size = 128
  | 0 => zeroB_size
  | k + 1 => by rw [mapL, flipA_size, mapL_size k]
theorem zero_bit (j : Nat) : bitA zeroB j = false := by
  unfold bitA byA
  have : zeroB.data.toList = List.replicate 128 0 := by decide +kernel
  rw [this, List.getD_eq_getElem?_getD, List.getElem?_replicate]
  by_cases h : j / 8 < 128
  · rw [if_pos h]; simp
  · rw [if_neg h]; simp
theorem mapL_bit : ∀ (k : Nat), k ≤ 1024 → ∀ j, bitA (mapL k) j = decide (j < k)
  | 0, _, j => by rw [mapL, zero_bit]; simp
  | k + 1, h, j => by
    rw [mapL, bit_flip _ _ _ (by rw [mapL_size]; omega), mapL_bit k (by omega)]
    by_cases e : j = k
    · subst e; simp
    · rw [if_neg e, decide_eq_decide]; omega
def makeL (n k : Nat) : List ByteArray := ((List.replicate n zeroB).set 0 (superB n)).set 1 (mapL k)
def makeA (x : Int) : List ByteArray × Int := if x < 8 ∨ 512 < x then ([], 13) else (makeL x.toNat (firstA x.toNat), 0)
theorem makeL_length (n k : Nat) : (makeL n k).length = n := by simp [makeL]
theorem makeL_map {n k : Nat} (hn : 2 ≤ n) : blk (makeL n k) 1 = mapL k := by
  unfold blk makeL
  rw [List.getD_eq_getElem?_getD, List.getElem?_set, if_pos rfl, if_pos (by simp; omega)]
  rfl
theorem makeL_head {n k : Nat} (hn : 2 ≤ n) : blk (makeL n k) 0 = superB n := by
  unfold blk makeL
  rw [List.getD_eq_getElem?_getD, List.getElem?_set, if_neg (by decide), List.getElem?_set, if_pos rfl, if_pos (by simp; omega)]
  rfl
theorem makeL_turn {n k : Nat} (hn : 2 ≤ n) : turn1A (makeL n k) k = makeL n (k + 1) := by
  unfold turn1A
  rw [makeL_map hn]
  unfold makeL
  rw [List.set_set]
  rfl
theorem makeL_zero {n : Nat} (hn : 2 ≤ n) : makeL n 0 = (List.replicate n zeroB).set 0 (superB n) := by
  unfold makeL
  refine List.ext_getElem? fun j => ?_
  rw [List.getElem?_set]
  by_cases h : 1 = j
  · subst h
    rw [if_pos rfl, if_pos (by simp; omega), List.getElem?_set, if_neg (by decide), List.getElem?_replicate, if_pos (by omega)]
    rfl
  · rw [if_neg h]
theorem encS_rep (n : Nat) (s : ByteArray) : List.replicate n (Value.string s) = encS (List.replicate n s) := by simp [encS]

set_option maxRecDepth 100000 in
set_option maxHeartbeats 1000000 in
theorem makeA_any (x : Int) (w : World) : Calls Tryz.prog 25 #[.int .i64 x] w fun e w' => ∃ A n c, e = .returned (.tuple #[.slice A n c, .int .i64 (makeA x).2]) ∧ w'.ownsRow w.heap.size 9 1 (.slice A n c) n (encS (makeA x).1) ∧ n ≤ 512 ∧ Below w.heap.size w w' := by
  have ck := fun W => isCount_any x W
  by_cases hx : 8 ≤ x ∧ x ≤ 512
  · have HE : Hid (makeA x = (makeL x.toNat (firstA x.toNat), 0)) := Lib.hid (by unfold makeA; rw [if_neg (by omega)])
    rw [decide_eq_true hx] at ck
    obtain ⟨N, rfl⟩ : ∃ N : Nat, x = N := ⟨x.toNat, by omega⟩
    have hN : 8 ≤ N ∧ N ≤ 512 := by omega
    rw [Int.toNat_natCast] at HE
    obtain ⟨F, hF⟩ : ∃ F, F = firstA N := ⟨_, rfl⟩
    have hF2 : F ≤ 34 := by have := first_le hN.1 hN.2; omega
    have cf := fun A c W => first_any A N c (by unfold maxLen; omega) W
    rw [← hF] at HE cf
    have HN := Lib.hid hN
    clear hx hF
    go_enter Tryz.func25, Tryz.ntmps25
    go_wp2_with (go_at_call 54; refine (ck _).mono ?_; rintro e w1 ⟨rfl, rfl⟩)
    refine (padded0_any _).mono ?_
    rintro e w1 ⟨rfl, hb1⟩
    have hr := repeatS_any w1.heap.size (.string zeroB) N (w1.alloc (.cells #[.string zeroB] 9)) (by simp) (by go_simp) rfl (by omega)
    have B1 := Lib.hid (hb1.alloc hb1.size (.cells #[.string zeroB] 9))
    clear hb1
    go_wp2_with fail
    refine hr.mono ?_
    rintro e w2 ⟨A, c, rfl, ho, hb2⟩
    have B2 := Lib.hid (B1.out.trans (hb2.mono B1.out.size))
    obtain ⟨g, rfl, hO⟩ := OwI.of (by rw [← encS_rep]; exact ho) (by omega)
    have hbs : w.heap.size ≤ (w1.alloc (.cells #[.string zeroB] 9)).heap.size := B1.out.size
    have O2 := Lib.hid (show OwI w2 w.heap.size g N c (List.replicate N zeroB) from ⟨own_base hO.own hbs, hO.pos⟩)
    clear hO ho hb2 hbs hr B1
    go_wp2_with fail
    refine (head_any _ N c _ (by omega)).mono ?_
    rintro e w3 ⟨rfl, hb3⟩
    have B3 := Lib.hid (B2.out.trans (hb3.mono B2.out.size))
    have O3 := Lib.hid (O2.out.step hb3)
    clear hb3 B2 O2
    have f0 := O3.out.free 0
    have h0N : 0 < N := by omega
    have c0 := O3.out.cell 0 h0N
    go_wp2_with fail
    refine (cf _ _ _).mono ?_
    rintro e w4 ⟨rfl, rfl⟩
    have O4 := Lib.hid (O3.out.set 0 (superB N))
    have B4 := Lib.hid (O3.out.below_set 0 (.string (superB N)) (Nat.le_refl _) B3.out)
    generalize w3.setCell ⟨g, 0, none⟩ (.string (superB N)) = w5 at O4 B4 ⊢
    rw [← makeL_zero (by omega)] at O4
    clear f0 c0 B3 O3
    go_wp2
    go_loopg [19] F (fun gk s19 wr => ∃ i : Nat, i ≤ F ∧ F - i ≤ gk ∧ s19 = .int .i64 i ∧ Hid (OwI wr w.heap.size g N c (makeL N i) ∧ Below w.heap.size w wr))
    case atStart => exact ⟨0, Nat.zero_le _, by omega, rfl, Lib.hid ⟨O4.out, B4.out⟩⟩
    case round =>
      obtain ⟨i, hi, hgk, rfl, J⟩ := hrel
      by_cases hlt : i < F
      · have hil : (i : Int) < (F : Int) := by omega
        have h1N : 1 < N := by omega
        have c1 := J.out.1.cell 1 h1N
        have f1 := J.out.1.free 1
        rw [makeL_map (by omega)] at c1
        have ct := turned_any (mapL i) i (by rw [mapL_size]; omega) (by rw [mapL_size]; omega) (by omega)
        rw [show flipA (mapL i) i = mapL (i + 1) from rfl] at ct
        generalize mapL i = m at c1 ct
        go_wp2_with fail
        refine (ct _).mono ?_
        rintro e w6 ⟨rfl, hb6⟩
        have O6 := Lib.hid (J.out.1.step hb6)
        have B6 := Lib.hid (J.out.2.trans (hb6.mono J.out.2.size))
        clear J c1 f1 ct hb6
        have c1 := O6.out.cell 1 h1N
        have f1 := O6.out.free 1
        have JN : Hid (OwI (w6.setCell ⟨g, 1, none⟩ (.string (mapL (i + 1)))) w.heap.size g N c (makeL N (i + 1)) ∧ Below w.heap.size w (w6.setCell ⟨g, 1, none⟩ (.string (mapL (i + 1))))) := Lib.hid ⟨by
          have := O6.out.set 1 (mapL (i + 1))
          rwa [show mapL (i + 1) = flipA (mapL i) i from rfl, ← makeL_map (n := N) (k := i) (by omega), show (makeL N i).set 1 (flipA (blk (makeL N i) 1) i) = turn1A (makeL N i) i from rfl, makeL_turn (by omega), makeL_map (by omega)] at this, O6.out.below_set 1 _ (Nat.le_refl _) B6.out⟩
        go_wp2
        go_roundg (F - (i + 1))
        case measure => omega
        case rel => exact ⟨i + 1, by omega, by omega, by go_num, JN⟩
      · have : i = F := by omega
        subst this
        go_wp2
        go_ret2
        rw [HE.out]
        exact ⟨_, N, c, rfl, J.out.1.own, by omega, J.out.2⟩
  · have HE : Hid (makeA x = ([], 13)) := Lib.hid (by unfold makeA; rw [if_pos (by omega)])
    rw [decide_eq_false hx] at ck
    clear hx
    go_enter Tryz.func25, Tryz.ntmps25
    go_wp2_with (go_at_call 54; refine (ck _).mono ?_; rintro e w1 ⟨rfl, rfl⟩)
    go_ret2
    rw [HE.out]
    exact ⟨none, 0, 0, rfl, own_nil, by omega, Below.refl _ _⟩

end Go.Proofs.YtpdfkakhahfcjaaGreat
