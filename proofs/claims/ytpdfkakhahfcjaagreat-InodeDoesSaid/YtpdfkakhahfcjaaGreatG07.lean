/-
  Numbers of two bytes each, as the program reads them out of an inode or an indirect block.
-/
import Derived.Test.YtpdfkakhahfcjaaGreatG06
import Derived.Test.YtpdfkakhahfcjaaGreatG04
import Derived.Test.YtpdfkakhahfcjaaGreatG05
import Derived.Test.YtpdfkakhahfcjaaGreatG03
import Derived.Laws.Tables
import Derived.Deep.MidRow
import Derived.Laws.CopyOwn
import Derived.RangeFuncNested
import Derived.RangeFuncBound
import Derived.RangeFuncCalls
import Derived.RangeFuncLeaves
import Derived.RangeFuncBox
import Derived.Shelf.Abstract
import Derived.Shelf.RegionOpen
import Derived.OwnWalkIn
import Derived.TacticsInMore
import Derived.RegionIn
import Derived.LoopNIn
import Derived.LoopIn
namespace Go.Proofs.YtpdfkakhahfcjaaGreat
open Go.RowKit

/-- The number at the i-th place. -/
def wordN (s : ByteArray) (i : Nat) : Nat := 256 * byA s (2 * i) + byA s (2 * i + 1)
def wdL (s : ByteArray) (k i : Nat) : List Nat := (List.range i).map (wordN s) ++ List.replicate (k - i) 0
theorem wdL_length {s : ByteArray} {k i : Nat} (h : i ≤ k) : (wdL s k i).length = k := by simp [wdL]; omega
theorem wdL_zero (s : ByteArray) (k : Nat) : wdL s k 0 = List.replicate k 0 := by simp [wdL]
theorem wdL_all (s : ByteArray) (k : Nat) : wdL s k k = (List.range k).map (wordN s) := by simp [wdL]
theorem wdL_step {s : ByteArray} {k i : Nat} (h : i < k) : (wdL s k i).set i (wordN s i) = wdL s k (i + 1) := by
  unfold wdL
  rw [List.set_append_right _ _ (by simp), List.range_succ, List.map_append, List.append_assoc]
  congr 1
  simp only [List.length_map, List.length_range, Nat.sub_self, List.map_cons, List.map_nil]
  rw [show k - i = (k - (i + 1)) + 1 by omega, List.replicate_succ]
  rfl
theorem encW_set (l : List Nat) (j x : Nat) : (encN l).set j (.int .i64 (x : Int)) = encN (l.set j x) := by
  unfold encN
  rw [List.map_set]
theorem wordN_lt (s : ByteArray) (i : Nat) : wordN s i < 65536 := by
  have h1 : byA s (2 * i) < 256 := UInt8.toNat_lt _
  have h2 : byA s (2 * i + 1) < 256 := UInt8.toNat_lt _
  unfold wordN
  omega
theorem byA_get (s : ByteArray) (i : Nat) (h : i < s.size) : byA s i = s[i].toNat := by
  unfold byA
  rw [List.getD_eq_getElem?_getD, List.getElem?_eq_getElem (by simpa using h)]
  rfl

theorem or64 : ∀ x y : Fin 256, bits BinOp.or IntKind.i64 (wrap64 (wrap64 (x.val : Int) * 256)) (wrap64 (y.val : Int)) = ((256 * x.val + y.val : Nat) : Int) := by decide +kernel
theorem wordN_bits (s : ByteArray) (j : Nat) (h1 : 2 * j < s.size) (h2 : 2 * j + 1 < s.size) : bits BinOp.or IntKind.i64 (wrap64 (wrap64 (s[2 * j].toNat : Int) * 256)) (wrap64 (s[2 * j + 1].toNat : Int)) = ((wordN s j : Nat) : Int) := by
  have h := or64 ⟨s[2 * j].toNat, UInt8.toNat_lt _⟩ ⟨s[2 * j + 1].toNat, UInt8.toNat_lt _⟩
  dsimp only at h
  rw [h]
  unfold wordN
  rw [byA_get s _ h1, byA_get s _ h2]

set_option maxRecDepth 100000 in
set_option maxHeartbeats 2000000 in
theorem wordsI_any (s : ByteArray) (k : Nat) (w : World) (hk : s.size / 2 = k) (hk2 : k ≤ 512) :
    Calls Tryz.prog 66 #[.string s] w fun e w' => ∃ A c, e = .returned (.slice A k c) ∧ w'.ownsRow w.heap.size 3 1 (.slice A k c) k (encN ((List.range k).map (wordN s))) ∧ Below w.heap.size w w' := by
  obtain ⟨i0, hi0, hz0, hz1, hz2⟩ := info_parts infoI
  have hki : (s.size : Int) / 2 = (k : Int) := by omega
  have hkt : (s.size : Int).tdiv 2 = (k : Int) := by rw [Int.tdiv_eq_ediv_of_nonneg (by omega)]; omega
  go_enter Tryz.func66, Tryz.ntmps66
  go_wp2_with (at_make; refine wpList_make_full _ rfl _ _ 49 rfl w.heap.size 3 i0 _ 1 Tryz.underlying49 hi0 hz0 hz1 .i64 .i64 k k k rfl rfl rfl rfl ?_ ?_ ?_ ?_)
  any_goals (first | (rw [hz2]; omega) | omega | (simp only [maxLen]; omega) | exact Nat.le_refl _)
  intro w1 ho1 hg1
  have hb1 : Below w.heap.size w w1 := (Below.refl _ _).grown hg1 (Nat.le_refl _) (by intro k hk; cases hk)
  have J1 : Hid (w1.ownsRow w.heap.size 3 1 (.slice (some ⟨w.heap.size, 0, none⟩) k k) k (encN (wdL s k 0)) ∧ Below w.heap.size w w1) := Lib.hid ⟨own_eq_vals ho1 (by rw [wdL_zero, toList_madeCells_one]; simp [encN]), hb1⟩
  clear ho1 hg1 hb1
  go_wp2
  go_loopg [11] k (fun g s11 wr => ∃ j : Nat, j ≤ k ∧ k - j ≤ g ∧ s11 = .int .i64 j ∧ Hid (wr.ownsRow w.heap.size 3 1 (.slice (some ⟨w.heap.size, 0, none⟩) k k) k (encN (wdL s k j)) ∧ Below w.heap.size w wr))
  case atStart => exact ⟨0, Nat.zero_le _, by omega, rfl, J1⟩
  case round =>
    obtain ⟨j, hj, hg, rfl, J⟩ := hrel
    by_cases hlt : j < k
    · have hjk : (j : Int) < (k : Int) := by omega
      have hlen := wdL_length (s := s) (k := k) (i := j) (by omega)
      have hcj := J.out.1.cellAt j (by omega)
      rw [encN_get (by rw [hlen]; omega)] at hcj
      have hfj := J.out.1.frozenAt j
      have hst := J.out.1.stored j (.int .i64 (wordN s j : Nat))
      have h1j : 2 * j < s.size := by omega
      have h2j : 2 * j + 1 < s.size := by omega
      have h1ji : 2 * (j : Int) < (s.size : Int) := by omega
      have h2ji : 2 * (j : Int) + 1 < (s.size : Int) := by omega
      have h0jj : (0 : Int) ≤ 2 * (j : Int) := by omega
      have htjj : (2 * (j : Int)).toNat = 2 * j := by omega
      have hwjj : IntKind.i64.wrap (2 * (j : Int)) = 2 * (j : Int) := by rw [IntKind.wrap_i64]; omega
      have h0ji : (0 : Int) ≤ 2 * (j : Int) + 1 := by omega
      have htj : (2 * (j : Int) + 1).toNat = 2 * j + 1 := by omega
      have hwj : IntKind.i64.wrap (2 * (j : Int) + 1) = 2 * (j : Int) + 1 := by rw [IntKind.wrap_i64]; omega
      have JN : Hid ((wr.setCell ⟨w.heap.size, j, none⟩ (.int .i64 (wordN s j : Nat))).ownsRow w.heap.size 3 1 (.slice (some ⟨w.heap.size, 0, none⟩) k k) k (encN (wdL s k (j + 1))) ∧ Below w.heap.size w (wr.setCell ⟨w.heap.size, j, none⟩ (.int .i64 (wordN s j : Nat)))) :=
        Lib.hid ⟨own_eq_vals hst.1 (by rw [encW_set, wdL_step hlt]), J.out.2.setCell (p := ⟨w.heap.size, j, none⟩) (Nat.le_refl _) _⟩
      clear hlen hst
      go_upto_region 5 with fail
      go_region
      rw [wordN_bits s j h1j h2j]
      have JD := Lib.hid (And.intro (JN.out.1.drew) (JN.out.2.drew))
      clear JN
      go_wp2
      go_roundg (k - (j + 1))
      case measure => omega
      case rel => exact ⟨j + 1, by omega, by omega, by go_num, JD⟩
    · have : j = k := by omega
      subst this
      have hO := J.out.1
      rw [wdL_all] at hO
      go_wp2
      go_ret
      exact ⟨_, _, rfl, hO, J.out.2⟩

end Go.Proofs.YtpdfkakhahfcjaaGreat

/-
  Inodes as plain records: what an image's bytes say of one, and how one is written.
-/
namespace Go.Proofs.YtpdfkakhahfcjaaGreat
open Go.RowKit

/-- An inode with its number and what its indirect block names. -/
structure RecI where
  num : Nat
  kind : Nat
  size : Nat
  bl : List Nat
  ind : Nat
  ls : List Nat
  deriving DecidableEq
/-- Its cells: those of the inode alone, and all. -/
def cellsI (r : RecI) : List Value := .int .i64 (r.kind : Int) :: .int .i64 (r.size : Int) :: (encN r.bl ++ [.int .i64 (r.ind : Int)])
def cellsR (r : RecI) : List Value := .int .i64 (r.num : Int) :: (cellsI r ++ encN r.ls)
def valI (r : RecI) : Value := .agg (cellsI r).toArray
def valR (r : RecI) : Value := .agg (cellsR r).toArray
/-- As long as it must be, its numbers as great as they can be. -/
structure OkR (r : RecI) : Prop where
  bl : r.bl.length = 4
  ls : r.ls.length = 64
  num : r.num ≤ 1024
  kind : r.kind ≤ 255
  size : r.size < 4294967296
  ind : r.ind < 65536
theorem cellsI_length {r : RecI} (h : OkR r) : (cellsI r).length = 7 := by simp [cellsI, encN_length, h.bl]
theorem cellsR_length {r : RecI} (h : OkR r) : (cellsR r).length = 72 := by simp [cellsR, cellsI_length h, encN_length, h.ls]
theorem cellsI_one (r : RecI) : ∀ u ∈ cellsI r, u.oneCell' = true := by
  intro u hu
  simp only [cellsI, List.mem_cons, List.mem_append, List.not_mem_nil, or_false] at hu
  rcases hu with rfl | rfl | hu | rfl
  · rfl
  · rfl
  · exact encN_one _ u hu
  · rfl
theorem cellsR_one (r : RecI) : ∀ u ∈ cellsR r, u.oneCell' = true := by
  intro u hu
  simp only [cellsR, List.mem_cons, List.mem_append] at hu
  rcases hu with rfl | hu | hu
  · rfl
  · exact cellsI_one _ u hu
  · exact encN_one _ u hu

/-- Two bytes from a place on, as a number. -/
def w2 (s : ByteArray) (o : Nat) : Nat := 256 * byA s o + byA s (o + 1)
theorem w2_lt (s : ByteArray) (o : Nat) : w2 s o < 65536 := by
  have h1 : byA s o < 256 := UInt8.toNat_lt _
  have h2 : byA s (o + 1) < 256 := UInt8.toNat_lt _
  unfold w2; omega
def padN (k : Nat) (l : List Nat) : List Nat := l ++ List.replicate (k - l.length) 0
theorem padN_length {k : Nat} {l : List Nat} (h : l.length ≤ k) : (padN k l).length = k := by simp [padN]; omega
/-- The inode of a number, as an image's bytes say. -/
def recI (img : List ByteArray) (i : Nat) : RecI where
  num := i
  kind := byA (rawI img i) 0
  size := 65536 * w2 (rawI img i) 1 + w2 (rawI img i) 3
  bl := [w2 (rawI img i) 5, w2 (rawI img i) 7, w2 (rawI img i) 9, w2 (rawI img i) 11]
  ind := w2 (rawI img i) 13
  ls := if w2 (rawI img i) 13 = 0 then List.replicate 64 0 else (List.range 64).map (wordN (blkI img (w2 (rawI img i) 13)))
theorem recI_ok (img : List ByteArray) (i : Nat) (hi : i ≤ 1024) : OkR (recI img i) where
  bl := rfl
  ls := by
    show (if _ then _ else _ : List Nat).length = 64
    split <;> simp
  num := hi
  kind := by have := byA_lt (rawI img i) 0; show byA _ _ ≤ 255; omega
  size := by
    have h1 := w2_lt (rawI img i) 1
    have h2 := w2_lt (rawI img i) 3
    show 65536 * w2 _ 1 + w2 _ 3 < _; omega
  ind := w2_lt _ _

/-- Its data blocks; all that it names. -/
def dataR (r : RecI) : List Nat := (r.bl ++ r.ls).take (needN r.size)
def namedR (r : RecI) : List Nat := dataR r ++ if r.ind = 0 then [] else [r.ind]
theorem dataR_length {r : RecI} (h : OkR r) : (dataR r).length = min (needN r.size) 68 := by simp [dataR, h.bl, h.ls]
/-- The same inode with another size and other blocks. -/
def nameR (r : RecI) (size : Nat) (data : List Nat) (ind : Nat) : RecI := { r with size := size, bl := padN 4 (data.take 4), ind := ind, ls := padN 64 ((data.drop 4).take 64) }
theorem nameR_ok {r : RecI} (h : OkR r) {size : Nat} {data : List Nat} {ind : Nat} (hs : size < 4294967296) (hi : ind < 65536) : OkR (nameR r size data ind) where
  bl := padN_length (by simp; omega)
  ls := padN_length (by simp; omega)
  num := h.num
  kind := h.kind
  size := hs
  ind := hi
/-- Its bytes. -/
def headR (r : RecI) : List UInt8 := UInt8.ofNat r.kind :: (beL (r.size / 65536) 2 ++ beL r.size 2 ++ (r.bl.flatMap fun p => beL p 2) ++ beL r.ind 2)
def textR (r : RecI) : ByteArray := mkB (headR r ++ List.replicate 17 0)
theorem flat2_length (l : List Nat) : (l.flatMap fun p => beL p 2).length = 2 * l.length := by
  induction l with
  | nil => rfl
  | cons a l ih => rw [List.flatMap_cons, List.length_append, ih, List.length_cons]; have : (beL a 2).length = 2 := by simp [beL]
                   omega
theorem headR_length {r : RecI} (h : OkR r) : (headR r).length = 15 := by
  have h1 : ∀ n, (beL n 2).length = 2 := fun n => by simp [beL]
  simp only [headR, List.length_cons, List.length_append, flat2_length, h1, h.bl]
theorem mkB_size (l : List UInt8) : (mkB l).size = l.length := by show l.toArray.size = _; simp
theorem textR_size {r : RecI} (h : OkR r) : (textR r).size = 32 := by rw [textR, mkB_size]; simp [headR_length h]
/-- Bytes laid over a block's from a place on. -/
def overB (b : ByteArray) (o : Nat) (s : ByteArray) : ByteArray := mkB (b.data.toList.take o ++ s.data.toList ++ b.data.toList.drop (o + s.size))
theorem overB_size {b s : ByteArray} {o : Nat} (h : o + s.size ≤ b.size) : (overB b o s).size = b.size := by
  have hb : b.data.toList.length = b.size := by simp
  have hs : s.data.toList.length = s.size := by simp
  rw [overB, mkB_size, List.length_append, List.length_append, List.length_take, List.length_drop, hb, hs]; omega
def putI (img : List ByteArray) (i o : Nat) (s : ByteArray) : List ByteArray := if i < img.length then img.set i (overB (blkI img i) o s) else img
theorem putI_length (img : List ByteArray) (i o : Nat) (s : ByteArray) : (putI img i o s).length = img.length := by unfold putI; split <;> simp
def listB (l : List Nat) : ByteArray := mkB (l.flatMap fun p => beL p 2)
theorem listB_size (l : List Nat) : (listB l).size = 2 * l.length := by rw [listB, mkB_size, flat2_length]
def saveR (img : List ByteArray) (r : RecI) : List ByteArray :=
  if r.ind = 0 then putI img (2 + r.num / 4) (32 * (r.num % 4)) (textR r) else putI (putI img (2 + r.num / 4) (32 * (r.num % 4)) (textR r)) r.ind 0 (listB r.ls)
theorem saveR_length (img : List ByteArray) (r : RecI) : (saveR img r).length = img.length := by unfold saveR; split <;> simp [putI_length]
/-- What its data blocks hold. -/
def flatR (img : List ByteArray) (r : RecI) : List UInt8 := (dataR r).flatMap fun i => (blkI img i).data.toList
theorem flatI_length (img : List ByteArray) : ∀ l : List Nat, (l.flatMap fun i => (blkI img i).data.toList).length = 128 * l.length
  | [] => rfl
  | a :: l => by
    have h : (blkI img a).data.toList.length = 128 := by have := blkI_size img a; simpa using this
    rw [List.flatMap_cons, List.length_append, flatI_length img l, h, List.length_cons]; omega

end Go.Proofs.YtpdfkakhahfcjaaGreat

/-
  A record's block: its 72 cells as one row, what is read of it, what is written into it.
-/
namespace Go.Proofs.YtpdfkakhahfcjaaGreat
open Go.RowKit

/-- The block g is a record's variable. -/
def BR (w : World) (g : Nat) (r : RecI) : Prop := w.heap[g]? = some (.cells (cellsR r).toArray 62 (0, 0))
theorem infoR : (Tryz.prog.info? 62).map (fun i => (i.zero, i.size)) = some (some (.agg (List.replicate 72 (Value.int .i64 0)).toArray), 72) := by kernel_rfl
theorem sizeR : (Tryz.prog.info? 62).map (·.size) = some 72 := by kernel_rfl
theorem sizeIn : (Tryz.prog.info? 47).map (·.size) = some 7 := by kernel_rfl
theorem sizeInt : (Tryz.prog.info? 3).map (·.size) = some 1 := by kernel_rfl
def zeroR (i : Nat) : RecI := ⟨i, 0, 0, [0, 0, 0, 0], 0, List.replicate 64 0⟩
theorem zeroR_ok {i : Nat} (h : i ≤ 1024) : OkR (zeroR i) := ⟨rfl, by simp [zeroR], h, by simp [zeroR], by simp [zeroR], by simp [zeroR]⟩
theorem zeroR_cells : cellsR (zeroR 0) = List.replicate 72 (Value.int .i64 0) := by kernel_rfl
theorem built_num (i : Nat) : Tryz.prog.built 62 [(0, .int .i64 (i : Int))] = some (cellsR (zeroR i)).toArray := by kernel_rfl
theorem built_no : Tryz.prog.built 62 [] = some (cellsR (zeroR 0)).toArray := by kernel_rfl

section
variable {w w' : World} {g : Nat} {r : RecI}
theorem BR.lt (h : BR w g r) : g < w.heap.size := (Array.getElem?_eq_some_iff.1 h).1
theorem BR.new (w : World) (r : RecI) : BR (w.alloc (.cells (cellsR r).toArray 62)) w.heap.size r := heap_alloc_new w _
theorem BR.below (h : BR w g r) {B : Nat} (hb : Below B w w') (hg : g < B) : BR w' g r := (hb.block g hg).trans h
theorem BR.step (h : BR w g r) (hb : Below w.heap.size w w') : BR w' g r := h.below hb h.lt
theorem BR.alloc (h : BR w g r) (o : Obj) : BR (w.alloc o) g r := (Below.heap_alloc w o g h.lt).trans h
theorem BR.drewN (h : BR w g r) (q : Nat) : BR (w.drewN q) g r := h
theorem BR.range (h : BR w g r) : w.rangeAt g 0 (cellsR r) := fun j v hv => by
  unfold BR at h
  rw [Nat.zero_add]
  simp [World.cell?, h, hv]
theorem BR.cell (h : BR w g r) {j : Nat} {v : Value} (hv : (cellsR r)[j]? = some v) : w.cell? ⟨g, j, none⟩ = some v := by
  have := h.range j v hv
  rwa [Nat.zero_add] at this
theorem BR.free (h : BR w g r) (j : Nat) : w.frozen? ⟨g, j, none⟩ = false := by
  unfold BR at h
  simp [World.frozen?, h]
theorem BR.num (h : BR w g r) : w.cell? ⟨g, 0, none⟩ = some (.int .i64 (r.num : Int)) := h.cell rfl
theorem BR.kind (h : BR w g r) : w.cell? ⟨g, 1, none⟩ = some (.int .i64 (r.kind : Int)) := h.cell rfl
theorem BR.size (h : BR w g r) : w.cell? ⟨g, 2, none⟩ = some (.int .i64 (r.size : Int)) := h.cell rfl
theorem cellsR_bl (r : RecI) (j : Nat) (hj : j < r.bl.length) : (cellsR r)[3 + j]? = (encN r.bl)[j]? := by
  unfold cellsR cellsI
  rw [show 3 + j = j + 1 + 1 + 1 by omega]
  simp only [List.cons_append, List.getElem?_cons_succ, List.append_assoc]
  rw [List.getElem?_append_left (by rw [encN_length]; exact hj)]
theorem cellsR_ind (r : RecI) (h4 : r.bl.length = 4) : (cellsR r)[7]? = some (.int .i64 (r.ind : Int)) := by
  unfold cellsR cellsI
  rw [show 7 = 4 + 1 + 1 + 1 by omega]
  simp only [List.cons_append, List.getElem?_cons_succ, List.append_assoc]
  rw [List.getElem?_append_right (by rw [encN_length]; omega), encN_length, h4]
  rfl
theorem cellsR_ls (r : RecI) (h4 : r.bl.length = 4) (j : Nat) : (cellsR r)[8 + j]? = (encN r.ls)[j]? := by
  unfold cellsR cellsI
  rw [show 8 + j = (5 + j) + 1 + 1 + 1 by omega]
  simp only [List.cons_append, List.getElem?_cons_succ, List.append_assoc]
  rw [List.getElem?_append_right (by rw [encN_length]; omega), encN_length, h4, show 5 + j - 4 = j + 1 by omega]
  rfl
theorem BR.ind (h : BR w g r) (hr : OkR r) : w.cell? ⟨g, 7, none⟩ = some (.int .i64 (r.ind : Int)) := h.cell (cellsR_ind r hr.bl)
theorem BR.bl (h : BR w g r) (hr : OkR r) : Reads w w.heap.size 1 (some ⟨g, 3, none⟩) 4 (encN r.bl) :=
  ⟨by rw [encN_length, hr.bl], fun _ => ⟨g, 3, rfl, h.lt, fun j u hj => h.cell (by
    have hlt : j < r.bl.length := by have := (List.getElem?_eq_some_iff.1 hj).1; rwa [encN_length] at this
    rw [cellsR_bl r j hlt, hj])⟩⟩
theorem BR.ls (h : BR w g r) (hr : OkR r) : Reads w w.heap.size 1 (some ⟨g, 8, none⟩) 64 (encN r.ls) :=
  ⟨by rw [encN_length, hr.ls], fun _ => ⟨g, 8, rfl, h.lt, fun j u hj => h.cell (by rw [cellsR_ls r hr.bl, hj])⟩⟩
/-- The whole record by value. -/
theorem BR.load (h : BR w g r) (hr : OkR r) : (Instr.loadAt 62 (.pointer (some ⟨g, 0, none⟩))).run Tryz.prog w = .ok (valR r) w :=
  run_loadAt_mid w g 0 62 (cellsR r) _ h.range Tryz.underlying62 rfl (by rw [cellsR_length hr]; exact sizeR)
theorem BR.loadVar (h : BR w g r) (hr : OkR r) : (Go.loadVar 62 ⟨g, 0, none⟩).run Tryz.prog w = .ok (valR r) w :=
  run_loadVar_mid w g 0 62 (cellsR r) _ h.range Tryz.underlying62 rfl (by rw [cellsR_length hr]; exact sizeR)
theorem BR.setRow (h : BR w g r) (r' : RecI) : BR (w.setRow g (cellsR r').toArray) g r' := by
  unfold BR at h ⊢
  exact setRow_heap w g _ _ _ _ h
theorem BR.store (h : BR w g r) (hr : OkR r) {r' : RecI} (hr' : OkR r') : (Instr.storeAt 62 (.pointer (some ⟨g, 0, none⟩)) (valR r')).run Tryz.prog w = .ok () (w.setRow g (cellsR r').toArray) := by
  simp only [Instr.storeAt, Instr.sureAddr, Sem.run_bind, Sem.run_pure, Result.andThen_ok]
  exact run_storeVar_row w g _ _ _ _ h (by rw [List.size_toArray, cellsR_length hr']; exact sizeR) (by rw [List.size_toArray, List.size_toArray, cellsR_length hr, cellsR_length hr'])
    (all_oneCell_toArray (cellsR_one r'))
/-- One cell set. -/
theorem BR.setC (h : BR w g r) (j : Nat) (u : Value) {r' : RecI} (e : (cellsR r).set j u = cellsR r') : BR (w.setCell ⟨g, j, none⟩ u) g r' := by
  unfold BR at h ⊢
  simp [World.setCell, Array.getElem?_modify, h, ← e]
theorem set_bl (r : RecI) (h4 : r.bl.length = 4) (u : Value) : (cellsR r).set 7 u = .int .i64 (r.num : Int) :: (.int .i64 (r.kind : Int) :: .int .i64 (r.size : Int) :: (encN r.bl ++ [u]) ++ encN r.ls) := by
  unfold cellsR cellsI
  simp only [List.cons_append, List.set_cons_succ, List.append_assoc]
  rw [List.set_append_right _ _ (by rw [encN_length, h4]; omega), encN_length, h4]
  rfl
theorem BR.setKind (h : BR w g r) (k : Nat) : BR (w.setCell ⟨g, 1, none⟩ (.int .i64 (k : Int))) g { r with kind := k } := h.setC 1 _ rfl
theorem BR.setSize (h : BR w g r) (k : Nat) : BR (w.setCell ⟨g, 2, none⟩ (.int .i64 (k : Int))) g { r with size := k } := h.setC 2 _ rfl
theorem BR.setInd (h : BR w g r) (hr : OkR r) (k : Nat) : BR (w.setCell ⟨g, 7, none⟩ (.int .i64 (k : Int))) g { r with ind := k } := h.setC 7 _ (set_bl r hr.bl _)
theorem BR.far (h : BR w g r) {p : Addr} (hp : g ≠ p.block) (u : Value) : BR (w.setCell p u) g r := (Below.heap_setCell w p u g hp).trans h
theorem over_cells (pre : List Value) (a : List Value) (post cs : List Value) (hc : cs.length ≤ a.length) :
    (pre ++ a ++ post).take pre.length ++ cs ++ (pre ++ a ++ post).drop (pre.length + cs.length) = pre ++ (cs ++ a.drop cs.length) ++ post := by
  rw [List.append_assoc pre a post, List.take_left, ← List.drop_drop, List.drop_left, List.drop_append_of_le_length hc]
  simp
/-- A row of numbers copied over the first blocks' names, over the listed ones. -/
theorem BR.copyBl (h : BR w g r) {l : List Nat} (hl : l.length ≤ r.bl.length) : BR (w.setRow g ((cellsR r).toArray.toList.take 3 ++ encN l ++ (cellsR r).toArray.toList.drop (3 + (encN l).length)).toArray) g { r with bl := l ++ r.bl.drop l.length } := by
  have e : ((cellsR r).toArray.toList.take 3 ++ encN l ++ (cellsR r).toArray.toList.drop (3 + (encN l).length)) = cellsR { r with bl := l ++ r.bl.drop l.length } := by
    have := over_cells [.int .i64 (r.num : Int), .int .i64 (r.kind : Int), .int .i64 (r.size : Int)] (encN r.bl) (.int .i64 (r.ind : Int) :: encN r.ls) (encN l) (by rw [encN_length, encN_length]; exact hl)
    simp only [List.length_cons, List.length_nil] at this
    have e0 : (cellsR r).toArray.toList = [.int .i64 (r.num : Int), .int .i64 (r.kind : Int), .int .i64 (r.size : Int)] ++ encN r.bl ++ (.int .i64 (r.ind : Int) :: encN r.ls) := by simp [cellsR, cellsI]
    rw [e0]
    refine this.trans ?_
    simp [cellsR, cellsI, encN]
  rw [e]
  exact h.setRow _
theorem BR.copyLs (h : BR w g r) (hr : OkR r) {l : List Nat} (hl : l.length ≤ r.ls.length) : BR (w.setRow g ((cellsR r).toArray.toList.take 8 ++ encN l ++ (cellsR r).toArray.toList.drop (8 + (encN l).length)).toArray) g { r with ls := l ++ r.ls.drop l.length } := by
  have e : ((cellsR r).toArray.toList.take 8 ++ encN l ++ (cellsR r).toArray.toList.drop (8 + (encN l).length)) = cellsR { r with ls := l ++ r.ls.drop l.length } := by
    have := over_cells (.int .i64 (r.num : Int) :: cellsI r) (encN r.ls) [] (encN l) (by rw [encN_length, encN_length]; exact hl)
    simp only [List.length_cons, cellsI_length hr, List.append_nil] at this
    have e0 : (cellsR r).toArray.toList = (.int .i64 (r.num : Int) :: cellsI r) ++ encN r.ls := by simp [cellsR]
    rw [e0]
    refine this.trans ?_
    simp [cellsR, cellsI, encN]
  rw [e]
  exact h.setRow _
theorem below_setRow {B : Nat} (w : World) {g : Nat} (hg : B ≤ g) (cs : Array Value) : Below B w (w.setRow g cs) := ⟨rfl, rfl, rfl, by simp, fun k hk => by
  rw [setRow_other _ _ _ _ (by omega)]⟩
end

end Go.Proofs.YtpdfkakhahfcjaaGreat

/-
  Numbers of two bytes each, spelt.
-/
namespace Go.Proofs.YtpdfkakhahfcjaaGreat
open Go.RowKit

theorem u8s_app (a b : List UInt8) : u8s (a ++ b) = u8s a ++ u8s b := by simp [u8s]
theorem spelt_two (x : Nat) : [Value.int .u8 ((x : Int) / 256 % 256), Value.int .u8 ((x : Int) % 256)] = u8s (beL x 2) := by
  have h1 := be_byte x 1
  have h0 := be_byte x 0
  rw [show (2 : Int) ^ (8 * 1) = 256 by decide] at h1
  rw [show (2 : Int) ^ (8 * 0) = 1 by decide, Int.ediv_one] at h0
  rw [h1, h0]
  rfl
theorem flat_snoc (l : List Nat) (i : Nat) (h : i < l.length) : ((l.take (i + 1)).flatMap fun p => beL p 2) = ((l.take i).flatMap fun p => beL p 2) ++ beL (l.getD i 0) 2 := by
  rw [take_snoc_get (nat_get h)]
  simp

set_option maxRecDepth 100000 in
set_option maxHeartbeats 2000000 in
theorem spelt_any (A : Option Addr) (n c : Nat) (l : List Nat) (w : World) (h : Reads w w.heap.size 1 A n (encN l)) (hn : n ≤ 512) (h0 : 0 < n) :
    Calls Tryz.prog 71 #[.slice A n c] w fun e w' => e = .returned (.string (listB l)) ∧ Below w.heap.size w w' := by
  obtain ⟨i0, hi0, hz0, hz1, hz2⟩ := info_parts infoUA
  have H := Lib.hid h
  have HL := Lib.hid h.lenN
  clear h
  go_enter Tryz.func71, Tryz.ntmps71
  go_wp2
  go_loopg [3, 8] n (fun g s3 s8 wr => ∃ (j : Nat) (A2 : Option Addr) (c2 : Nat), j ≤ n ∧ n - j ≤ g ∧ s8 = .int .i64 j ∧ s3 = .slice A2 (2 * j) c2 ∧ Hid (wr.ownsRow w.heap.size 5 1 (.slice A2 (2 * j) c2) (2 * j) (u8s ((l.take j).flatMap fun p => beL p 2)) ∧ Below w.heap.size w wr))
  case atStart => exact ⟨0, none, 0, Nat.zero_le _, by omega, rfl, rfl, Lib.hid ⟨own_nil, Below.refl _ _⟩⟩
  case round =>
    obtain ⟨j, A2, c2, hj, hg, rfl, rfl, J⟩ := hrel
    by_cases hlt : j < n
    · have hin : (j : Int) < (n : Int) := by omega
      obtain ⟨b1, o1, rfl, _, g1⟩ := (H.out.below J.out.2).nat hlt
      have HP := Lib.hid (flat_snoc l j (by rw [HL.out]; exact hlt))
      generalize l.getD j 0 = x at g1 HP
      have HV := Lib.hid (spelt_two x)
      go_wp2_with (at_builtin; refine wpList_append_reads _ rfl (.tmp 12) (.tmp 18) 53 rfl w.heap.size 5 i0 _ 1 1 Tryz.underlying53 hi0 hz0 hz1 hz2 rfl (by omega) (.slice A2 (2 * j) c2) (2 * j) (u8s ((l.take j).flatMap fun p => beL p 2)) rfl (own_alloc J.out.1 _) _ (some ⟨wr.heap.size, 0, none⟩) 2 2 [Value.int .u8 ((x : Int) / 256 % 256), Value.int .u8 ((x : Int) % 256)] rfl (reads_new wr #[Value.int .u8 ((x : Int) / 256 % 256), Value.int .u8 ((x : Int) % 256)] 5 2 1 rfl) (by simp [Value.oneCell']) (by simp only [maxLen]; omega) (by omega) (by have := J.out.2.size; simp; omega) ?_; intro A6 c6 w6 ho6 hg6 _)
      have JN : Hid (w6.ownsRow w.heap.size 5 1 (.slice A6 (2 * (j + 1)) c6) (2 * (j + 1)) (u8s ((l.take (j + 1)).flatMap fun p => beL p 2)) ∧ Below w.heap.size w w6) :=
        Lib.hid ⟨own_eq_vals ho6 (by rw [HP.out, u8s_app, HV.out]), (J.out.2.alloc J.out.2.size _).grown hg6 (by have := J.out.2.size; simp; omega) (fun q hq => by have := own_row_ge J.out.1 _ hq; omega)⟩
      go_roundg (n - (j + 1))
      case measure => omega
      case rel => exact ⟨j + 1, A6, c6, by omega, by omega, by go_num, rfl, JN⟩
    · have : j = n := by omega
      subst this
      have hT : l.take j = l := List.take_of_length_le (by rw [HL.out]; exact Nat.le_refl _)
      have hO := J.out.1
      rw [hT] at hO
      have hconv := own_string Tryz.underlying53 Tryz.underlying5 Tryz.underlying9 hO (by omega)
      clear hT hO
      go_wp2
      go_ret
      exact ⟨rfl, J.out.2⟩

end Go.Proofs.YtpdfkakhahfcjaaGreat

/-
  The program's iterator over the free blocks.
-/
namespace Go.Proofs.YtpdfkakhahfcjaaGreat
open Go.RowKit Go.Shelf
attribute [local go_sem] Oper.semAt_some

/-- What a round keeps: what lay below n₀, and the iterator's box. -/
structure KpF (n₀ Bs : Nat) (A B : World) : Prop where
  below : Below n₀ A B
  bs : B.heap[Bs]? = A.heap[Bs]?
theorem KpF.trans {n₀ Bs : Nat} {A B C : World} (h : KpF n₀ Bs A B) (k : KpF n₀ Bs B C) : KpF n₀ Bs A C := ⟨h.below.trans k.below, k.bs.trans h.bs⟩
theorem belowF_put {n₀ z l : Nat} (hn : n₀ ≤ z) (hl : z ≤ l) (W : World) (o o' : Obj) (ho : W.heap[l]? = some o) (_hc : o.isCells = false) : Below n₀ W (W.putObj l o') :=
  (Below.refl n₀ W).grown (grownBy_putObj' W l o') (by have := (Array.getElem?_eq_some_iff.1 ho).1; omega) fun j ej => by cases ej; omega
theorem kpF_put {n₀ Bs z : Nat} (hn : n₀ ≤ z) (hs : Bs < z) (W : World) (l : Nat) (o o' : Obj) (hl : z ≤ l) (ho : W.heap[l]? = some o) (hc : o.isCells = false) (_hw : o.isWalk = false) : KpF n₀ Bs W (W.putObj l o') :=
  ⟨(Below.refl n₀ W).trans (belowF_put hn hl W o o' ho hc), World.putObj_heap_other (by omega)⟩
/-- What is handed out: a block's number. -/
abbrev encsFree (k : Nat) : Array Value := #[.int .i64 (k : Int)]

set_option maxRecDepth 100000 in
set_option maxHeartbeats 2000000 in
theorem free1_in (n : Nat) (hn : 1 ≤ n) (l Bs n₀ : Nat) (A : Option Addr) (N c : Nat) (img : List ByteArray) (hf : MapP img) (J Jx : List Nat → World → Prop)
    (hY : ∀ (pre : List Nat) (i : Nat) (W : World), J pre W → pre.length < (freeA img).length → YieldAt Fence.wide (n - 1) Tryz.prog l (encsFree i) W fun e W' =>
      (e = .returned (.bool true) ∧ J (pre ++ [i]) W' ∧ KpF n₀ Bs W W') ∨ (e = .returned (.bool false) ∧ Jx (pre ++ [i]) W'))
    (W : World) (hz : n₀ ≤ W.heap.size) (hBs : W.cell? ⟨Bs, 0, none⟩ = some (.slice A N c)) (hR : Reads W n₀ 1 A N (encS img)) (h0 : J [] W) :
    CallsIn Fence.wide n Tryz.prog 92 #[.func (.yield l) #[] #[], .pointer (some ⟨Bs, 0, none⟩)] W fun e W' => (∃ v, e = .returned v) ∧
      ((∃ ys, ys = freeA img ∧ J ys W') ∨ (∃ pre, (∃ k, k ≤ N ∧ pre = freeTo img k) ∧ Jx pre W')) := by
  have hl := hR.lenS
  have h8 : 8 ≤ N := by have := hf.1; omega
  have h5 : N ≤ 512 := by have := hf.1; omega
  obtain ⟨F, hF⟩ : ∃ F, F = firstA N := ⟨_, rfl⟩
  have cf := fun W => first_any A N c (by unfold maxLen; omega) W
  have cm := fun W hW => mapped_any A N c img W hW hf
  rw [← hF] at cf
  have hFN : F ≤ N := by have := first_le h8 h5; omega
  have HF : Hid (F = firstA img.length) := Lib.hid (by rw [hl, hF])
  have HL := Lib.hid hl
  have HM := Lib.hid hf
  obtain ⟨b, o, e1, hb, _⟩ := hR.str (k := 1) (by omega)
  have HADDR := Lib.hid (And.intro e1 hb)
  have HR := Lib.hid hR
  clear hF hl hf hR e1 hb
  refine callsIn_of_wp Tryz.func92 rfl trivial ?_ rfl
  simp only [Tryz.ntmps92, List.size_toArray, List.length_cons, List.length_nil, Nat.reduceAdd, Nat.reduceSub, Array.replicate_succ, Array.replicate_zero, List.push_toArray, List.append_toArray, List.nil_append, List.cons_append]
  gi_wp2_with fail
  refine ⟨trivial, (callsIn_wide.2 (cf _)).mono ?_⟩
  rintro e w1 ⟨rfl, rfl⟩
  gi_wp2
  gi_loopw [3] (fun p wr => ∃ k : Nat, p = .int .i64 k ∧ F ≤ k ∧ k ≤ N ∧ J (freeTo img k) wr ∧ Hid (KpF n₀ Bs W wr)) (fun p _ => N - (intOf p).toNat)
  case atStart => exact ⟨F, rfl, Nat.le_refl _, hFN, by rw [freeTo_zero (by rw [← HF.out]; exact Nat.le_refl _)]; exact h0, Lib.hid ⟨Below.refl _ _, rfl⟩⟩
  case round =>
    obtain ⟨k, rfl, hFk, hk, hJ, K⟩ := hrel
    have hcb := (World.cell?_of_block (a := ⟨Bs, 0, none⟩) K.out.bs).trans hBs
    have hRr : Reads wr wr.heap.size 1 A N (encS img) := (HR.out.below K.out.below).more (Nat.le_trans hz K.out.below.size)
    have cmr := cm wr hRr
    have HJ := Lib.hid hJ
    by_cases h : k < N
    · have hlt : (k : Int) < (N : Int) := by omega
      obtain ⟨b1, o1, e1, _, g1⟩ := hRr.str (k := 1) (by omega)
      subst e1
      have hms := HM.out.2
      have ct := isTaken_any (blk img 1) k (by omega) (by omega) wr
      obtain ⟨t, ht⟩ : ∃ t, t = bitA (blk img 1) k := ⟨_, rfl⟩
      rw [← ht] at ct
      have HT := Lib.hid ht
      generalize blk img 1 = m at g1 ct hms
      have h1N : 1 < N := by omega
      clear ht hRr hJ
      cases t with
      | true =>
        have HN := Lib.hid (freeTo_no (img := img) (i := k) HT.out.symm)
        gi_wp2_with (first | (refine ⟨trivial, (callsIn_wide.2 cmr).mono ?_⟩; rintro e w2 ⟨rfl, rfl⟩) | (refine ⟨trivial, (callsIn_wide.2 ct).mono ?_⟩; rintro e w2 ⟨rfl, rfl⟩))
        refine ⟨(fun f h => (by cases h)), ?_⟩
        gi_wp2
        go_roundw
        case rel => exact ⟨k + 1, by go_num, by omega, by omega, by rw [HN.out]; exact HJ.out, K⟩
        case measure => simp [intOf]; omega
      | false =>
        have HN := Lib.hid (freeTo_yes (img := img) (i := k) HT.out.symm (by rw [← HF.out]; exact hFk))
        have hlen : (freeTo img k).length < (freeA img).length := by
          have := (freeTo_pre (img := img) (i := k + 1) (j := img.length) (by rw [HL.out]; exact h)).length_le
          rw [HN.out, List.length_append] at this
          exact this
        obtain ⟨fn, tmps, assign, body, hy, hR⟩ := hY (freeTo img k) k wr HJ.out hlen
        dsimp only [encsFree] at hy
        gi_wp2_with (first | (refine ⟨trivial, (callsIn_wide.2 cmr).mono ?_⟩; rintro e w2 ⟨rfl, rfl⟩) | (refine ⟨trivial, (callsIn_wide.2 ct).mono ?_⟩; rintro e w2 ⟨rfl, rfl⟩))
        refine hR.mono ?_
        rintro e W3 (⟨rfl, hJ3, hk3⟩ | ⟨rfl, hJx3⟩)
        · have HJ3 := Lib.hid hJ3
          have K3 := Lib.hid (K.out.trans hk3)
          clear hJ3 hk3 g1
          gi_wp2
          go_roundw
          case rel => exact ⟨k + 1, by go_num, by omega, by omega, by rw [HN.out]; exact HJ3.out, K3⟩
          case measure => simp [intOf]; omega
        · gi_wp2
          refine bodyPost_ret (results_none rfl _ _ _) rfl ?_
          exact ⟨⟨_, rfl⟩, .inr ⟨_, ⟨k + 1, by omega, HN.out.symm⟩, hJx3⟩⟩
    · have : k = N := by omega
      subst this
      have HE : Hid (freeA img = freeTo img k) := Lib.hid (by unfold freeA; rw [HL.out])
      clear hRr hJ
      gi_wp2_with (refine ⟨trivial, (callsIn_wide.2 cmr).mono ?_⟩; rintro e w2 ⟨rfl, rfl⟩)
      go_end0
      exact ⟨⟨_, rfl⟩, .inl ⟨_, HE.out.symm, HJ.out⟩⟩

set_option maxHeartbeats 1000000 in
theorem freeFn_in (n : Nat) (A : Option Addr) (N c : Nat) (w : World) :
    CallsIn Fence.wide n Tryz.prog 61 #[.slice A N c] w fun e w' => e = .returned (.func (.func 92) #[] #[.pointer (some ⟨w.heap.size, 0, none⟩)]) ∧ w' = w.alloc (.cells #[.slice A N c] 22) := by
  refine callsIn_of_wp Tryz.func61 rfl trivial ?_ rfl
  simp only [Tryz.ntmps61, List.size_toArray, List.length_cons, List.length_nil, Nat.reduceAdd, Nat.reduceSub, Array.replicate_succ, Array.replicate_zero, List.push_toArray, List.append_toArray, List.nil_append, List.cons_append]
  gi_wp2
  go_ret
  exact ⟨rfl, rfl⟩

theorem free_stops (n : Nat) (hn : 1 ≤ n) (Bs n₀ : Nat) (A : Option Addr) (N c : Nat) (img : List ByteArray) (hf : MapP img) (w : World) (hz : n₀ ≤ w.heap.size) (hBs : Bs < w.heap.size)
    (hcs : w.cell? ⟨Bs, 0, none⟩ = some (.slice A N c)) (hR : Reads w n₀ 1 A N (encS img)) :
    SeqStopsK Fence.wide n Tryz.prog 92 #[.pointer (some ⟨Bs, 0, none⟩)] encsFree (KpF n₀ Bs) (fun ys => ys = freeA img) (fun pre => ∃ k, k ≤ N ∧ pre = freeTo img k) (freeA img).length w := fun l J Jx W hW _ _ hY h0 =>
  free1_in n hn l Bs n₀ A N c img hf J Jx hY W (Nat.le_trans hz hW.size) ((hW.cell (p := ⟨Bs, 0, none⟩) hBs).trans hcs) (hR.below (hW.mono hz)) h0

end Go.Proofs.YtpdfkakhahfcjaaGreat

/-
  How many blocks are free, as the program counts them.
-/
namespace Go.Proofs.YtpdfkakhahfcjaaGreat
open Go.RowKit Go.Shelf
attribute [local go_sem] Oper.semAt_some

theorem below_setF {n₀ B : Nat} (hn : n₀ ≤ B) (W : World) (u : Value) : Below n₀ W (W.setCell ⟨B, 0, none⟩ u) := (Below.refl n₀ W).setCell (p := ⟨B, 0, none⟩) hn u
theorem kpF_set {n₀ Bs B : Nat} {W : World} {u : Value} (hn : n₀ ≤ B) (hs : Bs ≠ B) : KpF n₀ Bs W (W.setCell ⟨B, 0, none⟩ u) :=
  ⟨below_setF hn W u, Below.heap_setCell W ⟨B, 0, none⟩ u Bs hs⟩

/-- Between two rounds: so many were counted. -/
def InvF (w : World) (pre : List Nat) (W : World) : Prop := Boxed W w.heap.size 3 (.int .i64 (pre.length : Nat)) ∧ Below w.heap.size w W
def NoF (_ : Code) (_ : List Nat) (_ : World) : Prop := False
set_option maxRecDepth 100000 in
set_option maxHeartbeats 2000000 in
theorem freeA_any (A : Option Addr) (n c : Nat) (img : List ByteArray) (w : World) (h : Reads w w.heap.size 1 A n (encS img)) (hf : MapP img) :
    Calls Tryz.prog 29 #[.slice A n c] w fun e w' => e = .returned (.int .i64 ((freeA img).length : Nat)) ∧ Below w.heap.size w w' := by
  have hlen : (freeA img).length ≤ 512 := Nat.le_trans (freeTo_len _) hf.1.2
  refine (callsIn_wide (n := 3)).1 ?_
  refine callsIn_of_wp_marks Tryz.func29 rfl trivial ?_ rfl
  refine wpIn_wide.2 ?_
  simp only [Tryz.ntmps29, List.size_toArray, List.length_cons, List.length_nil, Nat.reduceAdd, Nat.reduceSub, Array.replicate_succ, Array.replicate_zero, List.push_toArray, List.append_toArray, List.nil_append, List.cons_append]
  go_wp2_with (go_at_call 61; refine ((callsIn_wide (n := 2)).1 (freeFn_in 2 _ _ _ _)).mono ?_; rintro e w' ⟨rfl, rfl⟩)
  refine (wpIn_wide (n := 3)).1 ?_
  have hB0 : Below w.heap.size w ((w.alloc (.cells #[.int .i64 0] 3)).alloc (.cells #[.slice A n c] 22)) := ((Below.refl _ w).alloc (Nat.le_refl _) _).alloc (by simp) _
  have bT := (Boxed.new w 3 (.int .i64 0)).alloc (.cells #[.slice A n c] 22)
  have bS := Boxed.new (w.alloc (.cells #[.int .i64 0] 3)) 22 (.slice A n c)
  simp only [World.size_alloc] at bT bS
  refine wpIn_rangeFunc_ownG rfl (by omega) (gf := 92) (lb := #[.pointer (some ⟨w.heap.size + 1, 0, none⟩)]) rfl trivial (enters_of Tryz.func92 (by kernel_rfl) rfl)
    (free_stops 2 (by omega) (w.heap.size + 1) w.heap.size A n c img hf _ (by simp; omega) (by simp) bS.cell (h.below hB0)) KpF.trans (kpF_put (by simp; omega) (by simp)) (Below.refl _ _) (fun _ => rfl)
    (InvF w) NoF
    ?own ?ownx ⟨bT, hB0⟩
    (fun i => { tmps := #[.slice A n c, undef, .int .i64 0, .pointer (some ⟨w.heap.size, 0, none⟩), .slice A n c, .func (.func 92) #[] #[.pointer (some ⟨w.heap.size + 1, 0, none⟩)], .int .i64 (i : Int), undef, undef, undef], defers := [] }) ?assign ?body ?done ?stop
  case own =>
    rintro pre X Y row ⟨h1, h2⟩ hg hr
    have ne : ∀ k, k ≤ w.heap.size → some k ≠ row := fun k hk e => by have := (hr _ e.symm).1; simp at this; omega
    exact ⟨h1.kept hg (ne _ (by omega)), ownFrom_below (β := Unit) (n₀ := w.heap.size) (w₀ := w) (Nat.le_refl _) (by simp; omega) () X Y row h2 hg hr⟩
  case ownx =>
    rintro c pre X Y row h0 hg hr
    exact h0.elim
  case assign =>
    intro l i W K hK
    gi_wp2
    simp [encsFree]
    exact hK
  case body =>
    rintro l pre i W ⟨hT, hB⟩ hlt
    have cT := hT.cell
    have fT := hT.frozen
    have hp : pre.length ≤ 512 := by omega
    have HP : Hid ((pre ++ [i]).length = pre.length + 1) := Lib.hid (by simp)
    have HI : Hid (InvF w (pre ++ [i]) (W.setCell ⟨w.heap.size, 0, none⟩ (.int .i64 ((pre.length : Int) + 1)))) := Lib.hid ⟨by rw [HP.out]; simpa using hT.set (.int .i64 ((pre.length : Int) + 1)), hB.trans (below_setF (Nat.le_refl _) W _)⟩
    clear hB0 bT bS hB hT hlt
    generalize pre.length = q at cT hp HI
    gi_wp2
    exact ⟨(KeepsOthers.setCell _ _ _).from _, kpF_set (Nat.le_refl _) (by omega), HI.out⟩
  case done =>
    rintro D ys W hD rfl ⟨hT, hB⟩ hK
    have cT := hT.cell
    clear hB0 bT bS
    go_wp2
    refine ⟨by simp, .inl ⟨_, _, rfl, run_takeDeferred (show W.heap[D]? = some (.deferred (some [])) from hK), ?_⟩⟩
    refine ⟨_, results_tmp rfl _ _ _, ?_, hB.trans (belowF_put (z := w.heap.size) (Nat.le_refl _) (by simp at hD; omega) W _ _ hK rfl)⟩
    rfl
  case stop =>
    rintro D c pre W hD _ h0 hK
    exact h0.elim

end Go.Proofs.YtpdfkakhahfcjaaGreat
