/-
  A record's block: its 72 cells as one row, what is read of it, what is written into it.
-/
import Derived.Test.YtcfmpmcdfllibaaG07
import Derived.Test.YtcfmpmcdfllibaaG06
import Derived.Test.YtcfmpmcdfllibaaG04
import Derived.Laws.Tables
import Derived.Deep.MidRow
import Derived.Laws.CopyOwn
import Derived.RangeFuncNested
import Derived.RangeFuncBound
import Derived.RangeFuncCalls
import Derived.RangeFuncLeaves
import Derived.RangeFuncBox
import Derived.Shelf.Abstract
import Derived.Shelf.RegionOpen
import Derived.OwnWalkIn
import Derived.TacticsInMore
import Derived.RegionIn
import Derived.LoopNIn
import Derived.LoopIn
namespace Go.Proofs.Ytcfmpmcdfllibaa
open Go.RowKit

/-- The block g is a record's variable. -/
def BR (w : World) (g : Nat) (r : RecI) : Prop := w.heap[g]? = some (.cells (cellsR r).toArray 55 (0, 0))
theorem infoR : (Try.prog.info? 55).map (fun i => (i.zero, i.size)) = some (some (.agg (List.replicate 72 (Value.int .i64 0)).toArray), 72) := by kernel_rfl
theorem sizeR : (Try.prog.info? 55).map (·.size) = some 72 := by kernel_rfl
theorem sizeIn : (Try.prog.info? 27).map (·.size) = some 7 := by kernel_rfl
theorem sizeInt : (Try.prog.info? 3).map (·.size) = some 1 := by kernel_rfl
def zeroR (i : Nat) : RecI := ⟨i, 0, 0, [0, 0, 0, 0], 0, List.replicate 64 0⟩
theorem zeroR_ok {i : Nat} (h : i ≤ 1024) : OkR (zeroR i) := ⟨rfl, by simp [zeroR], h, by simp [zeroR], by simp [zeroR], by simp [zeroR]⟩
theorem zeroR_cells : cellsR (zeroR 0) = List.replicate 72 (Value.int .i64 0) := by kernel_rfl
theorem built_num (i : Nat) : Try.prog.built 55 [(0, .int .i64 (i : Int))] = some (cellsR (zeroR i)).toArray := by kernel_rfl
theorem built_no : Try.prog.built 55 [] = some (cellsR (zeroR 0)).toArray := by kernel_rfl

section
variable {w w' : World} {g : Nat} {r : RecI}
theorem BR.lt (h : BR w g r) : g < w.heap.size := (Array.getElem?_eq_some_iff.1 h).1
theorem BR.new (w : World) (r : RecI) : BR (w.alloc (.cells (cellsR r).toArray 55)) w.heap.size r := heap_alloc_new w _
theorem BR.below (h : BR w g r) {B : Nat} (hb : Below B w w') (hg : g < B) : BR w' g r := (hb.block g hg).trans h
theorem BR.step (h : BR w g r) (hb : Below w.heap.size w w') : BR w' g r := h.below hb h.lt
theorem BR.alloc (h : BR w g r) (o : Obj) : BR (w.alloc o) g r := (Below.heap_alloc w o g h.lt).trans h
theorem BR.drewN (h : BR w g r) (q : Nat) : BR (w.drewN q) g r := h
theorem BR.range (h : BR w g r) : w.rangeAt g 0 (cellsR r) := fun j v hv => by
  unfold BR at h
  rw [Nat.zero_add]
  simp [World.cell?, h, hv]
theorem BR.cell (h : BR w g r) {j : Nat} {v : Value} (hv : (cellsR r)[j]? = some v) : w.cell? ⟨g, j, none⟩ = some v := by
  have := h.range j v hv
  rwa [Nat.zero_add] at this
theorem BR.free (h : BR w g r) (j : Nat) : w.frozen? ⟨g, j, none⟩ = false := by
  unfold BR at h
  simp [World.frozen?, h]
theorem BR.num (h : BR w g r) : w.cell? ⟨g, 0, none⟩ = some (.int .i64 (r.num : Int)) := h.cell rfl
theorem BR.kind (h : BR w g r) : w.cell? ⟨g, 1, none⟩ = some (.int .i64 (r.kind : Int)) := h.cell rfl
theorem BR.size (h : BR w g r) : w.cell? ⟨g, 2, none⟩ = some (.int .i64 (r.size : Int)) := h.cell rfl
theorem cellsR_bl (r : RecI) (j : Nat) (hj : j < r.bl.length) : (cellsR r)[3 + j]? = (encN r.bl)[j]? := by
  unfold cellsR cellsI
  rw [show 3 + j = j + 1 + 1 + 1 by omega]
  simp only [List.cons_append, List.getElem?_cons_succ, List.append_assoc]
  rw [List.getElem?_append_left (by rw [encN_length]; exact hj)]
theorem cellsR_ind (r : RecI) (h4 : r.bl.length = 4) : (cellsR r)[7]? = some (.int .i64 (r.ind : Int)) := by
  unfold cellsR cellsI
  rw [show 7 = 4 + 1 + 1 + 1 by omega]
  simp only [List.cons_append, List.getElem?_cons_succ, List.append_assoc]
  rw [List.getElem?_append_right (by rw [encN_length]; omega), encN_length, h4]
  rfl
theorem cellsR_ls (r : RecI) (h4 : r.bl.length = 4) (j : Nat) : (cellsR r)[8 + j]? = (encN r.ls)[j]? := by
  unfold cellsR cellsI
  rw [show 8 + j = (5 + j) + 1 + 1 + 1 by omega]
  simp only [List.cons_append, List.getElem?_cons_succ, List.append_assoc]
  rw [List.getElem?_append_right (by rw [encN_length]; omega), encN_length, h4, show 5 + j - 4 = j + 1 by omega]
  rfl
theorem BR.ind (h : BR w g r) (hr : OkR r) : w.cell? ⟨g, 7, none⟩ = some (.int .i64 (r.ind : Int)) := h.cell (cellsR_ind r hr.bl)
theorem BR.bl (h : BR w g r) (hr : OkR r) : Reads w w.heap.size 1 (some ⟨g, 3, none⟩) 4 (encN r.bl) :=
  ⟨by rw [encN_length, hr.bl], fun _ => ⟨g, 3, rfl, h.lt, fun j u hj => h.cell (by
    have hlt : j < r.bl.length := by have := (List.getElem?_eq_some_iff.1 hj).1; rwa [encN_length] at this
    rw [cellsR_bl r j hlt, hj])⟩⟩
theorem BR.ls (h : BR w g r) (hr : OkR r) : Reads w w.heap.size 1 (some ⟨g, 8, none⟩) 64 (encN r.ls) :=
  ⟨by rw [encN_length, hr.ls], fun _ => ⟨g, 8, rfl, h.lt, fun j u hj => h.cell (by rw [cellsR_ls r hr.bl, hj])⟩⟩
/-- The whole record by value. -/
theorem BR.load (h : BR w g r) (hr : OkR r) : (Instr.loadAt 55 (.pointer (some ⟨g, 0, none⟩))).run Try.prog w = .ok (valR r) w :=
  run_loadAt_mid w g 0 55 (cellsR r) _ h.range Try.underlying55 rfl (by rw [cellsR_length hr]; exact sizeR)
theorem BR.loadVar (h : BR w g r) (hr : OkR r) : (Go.loadVar 55 ⟨g, 0, none⟩).run Try.prog w = .ok (valR r) w :=
  run_loadVar_mid w g 0 55 (cellsR r) _ h.range Try.underlying55 rfl (by rw [cellsR_length hr]; exact sizeR)
theorem BR.setRow (h : BR w g r) (r' : RecI) : BR (w.setRow g (cellsR r').toArray) g r' := by
  unfold BR at h ⊢
  exact setRow_heap w g _ _ _ _ h
theorem BR.store (h : BR w g r) (hr : OkR r) {r' : RecI} (hr' : OkR r') : (Instr.storeAt 55 (.pointer (some ⟨g, 0, none⟩)) (valR r')).run Try.prog w = .ok () (w.setRow g (cellsR r').toArray) := by
  simp only [Instr.storeAt, Instr.sureAddr, Sem.run_bind, Sem.run_pure, Result.andThen_ok]
  exact run_storeVar_row w g _ _ _ _ h (by rw [List.size_toArray, cellsR_length hr']; exact sizeR) (by rw [List.size_toArray, List.size_toArray, cellsR_length hr, cellsR_length hr'])
    (all_oneCell_toArray (cellsR_one r'))
/-- One cell set. -/
theorem BR.setC (h : BR w g r) (j : Nat) (u : Value) {r' : RecI} (e : (cellsR r).set j u = cellsR r') : BR (w.setCell ⟨g, j, none⟩ u) g r' := by
  unfold BR at h ⊢
  simp [World.setCell, Array.getElem?_modify, h, ← e]
theorem set_bl (r : RecI) (h4 : r.bl.length = 4) (u : Value) : (cellsR r).set 7 u = .int .i64 (r.num : Int) :: (.int .i64 (r.kind : Int) :: .int .i64 (r.size : Int) :: (encN r.bl ++ [u]) ++ encN r.ls) := by
  unfold cellsR cellsI
  simp only [List.cons_append, List.set_cons_succ, List.append_assoc]
  rw [List.set_append_right _ _ (by rw [encN_length, h4]; omega), encN_length, h4]
  rfl
theorem BR.setKind (h : BR w g r) (k : Nat) : BR (w.setCell ⟨g, 1, none⟩ (.int .i64 (k : Int))) g { r with kind := k } := h.setC 1 _ rfl
theorem BR.setSize (h : BR w g r) (k : Nat) : BR (w.setCell ⟨g, 2, none⟩ (.int .i64 (k : Int))) g { r with size := k } := h.setC 2 _ rfl
theorem BR.setInd (h : BR w g r) (hr : OkR r) (k : Nat) : BR (w.setCell ⟨g, 7, none⟩ (.int .i64 (k : Int))) g { r with ind := k } := h.setC 7 _ (set_bl r hr.bl _)
theorem BR.far (h : BR w g r) {p : Addr} (hp : g ≠ p.block) (u : Value) : BR (w.setCell p u) g r := (Below.heap_setCell w p u g hp).trans h
theorem over_cells (pre : List Value) (a : List Value) (post cs : List Value) (hc : cs.length ≤ a.length) :
    (pre ++ a ++ post).take pre.length ++ cs ++ (pre ++ a ++ post).drop (pre.length + cs.length) = pre ++ (cs ++ a.drop cs.length) ++ post := by
  rw [List.append_assoc pre a post, List.take_left, ← List.drop_drop, List.drop_left, List.drop_append_of_le_length hc]
  simp
/-- A row of numbers copied over the first blocks' names, over the listed ones. -/
theorem BR.copyBl (h : BR w g r) {l : List Nat} (hl : l.length ≤ r.bl.length) : BR (w.setRow g ((cellsR r).toArray.toList.take 3 ++ encN l ++ (cellsR r).toArray.toList.drop (3 + (encN l).length)).toArray) g { r with bl := l ++ r.bl.drop l.length } := by
  have e : ((cellsR r).toArray.toList.take 3 ++ encN l ++ (cellsR r).toArray.toList.drop (3 + (encN l).length)) = cellsR { r with bl := l ++ r.bl.drop l.length } := by
    have := over_cells [.int .i64 (r.num : Int), .int .i64 (r.kind : Int), .int .i64 (r.size : Int)] (encN r.bl) (.int .i64 (r.ind : Int) :: encN r.ls) (encN l) (by rw [encN_length, encN_length]; exact hl)
    simp only [List.length_cons, List.length_nil] at this
    have e0 : (cellsR r).toArray.toList = [.int .i64 (r.num : Int), .int .i64 (r.kind : Int), .int .i64 (r.size : Int)] ++ encN r.bl ++ (.int .i64 (r.ind : Int) :: encN r.ls) := by simp [cellsR, cellsI]
    rw [e0]
    refine this.trans ?_
    simp [cellsR, cellsI, encN]
  rw [e]
  exact h.setRow _
theorem BR.copyLs (h : BR w g r) (hr : OkR r) {l : List Nat} (hl : l.length ≤ r.ls.length) : BR (w.setRow g ((cellsR r).toArray.toList.take 8 ++ encN l ++ (cellsR r).toArray.toList.drop (8 + (encN l).length)).toArray) g { r with ls := l ++ r.ls.drop l.length } := by
  have e : ((cellsR r).toArray.toList.take 8 ++ encN l ++ (cellsR r).toArray.toList.drop (8 + (encN l).length)) = cellsR { r with ls := l ++ r.ls.drop l.length } := by
    have := over_cells (.int .i64 (r.num : Int) :: cellsI r) (encN r.ls) [] (encN l) (by rw [encN_length, encN_length]; exact hl)
    simp only [List.length_cons, cellsI_length hr, List.append_nil] at this
    have e0 : (cellsR r).toArray.toList = (.int .i64 (r.num : Int) :: cellsI r) ++ encN r.ls := by simp [cellsR]
    rw [e0]
    refine this.trans ?_
    simp [cellsR, cellsI, encN]
  rw [e]
  exact h.setRow _
theorem below_setRow {B : Nat} (w : World) {g : Nat} (hg : B ≤ g) (cs : Array Value) : Below B w (w.setRow g cs) := ⟨rfl, rfl, rfl, by simp, fun k hk => by
  rw [setRow_other _ _ _ _ (by omega)]⟩
end

end Go.Proofs.Ytcfmpmcdfllibaa

/-
  Numbers of two bytes each, spelt.
-/
namespace Go.Proofs.Ytcfmpmcdfllibaa
open Go.RowKit

theorem u8s_app (a b : List UInt8) : u8s (a ++ b) = u8s a ++ u8s b := by simp [u8s]
theorem spelt_two (x : Nat) : [Value.int .u8 ((x : Int) / 256 % 256), Value.int .u8 ((x : Int) % 256)] = u8s (beL x 2) := by
  have h1 := be_byte x 1
  have h0 := be_byte x 0
  rw [show (2 : Int) ^ (8 * 1) = 256 by decide] at h1
  rw [show (2 : Int) ^ (8 * 0) = 1 by decide, Int.ediv_one] at h0
  rw [h1, h0]
  rfl
theorem flat_snoc (l : List Nat) (i : Nat) (h : i < l.length) : ((l.take (i + 1)).flatMap fun p => beL p 2) = ((l.take i).flatMap fun p => beL p 2) ++ beL (l.getD i 0) 2 := by
  rw [take_snoc_get (nat_get h)]
  simp

set_option maxRecDepth 100000 in
set_option maxHeartbeats 2000000 in
theorem spelt_any (A : Option Addr) (n c : Nat) (l : List Nat) (w : World) (h : Reads w w.heap.size 1 A n (encN l)) (hn : n ≤ 512) (h0 : 0 < n) :
    Calls Try.prog 79 #[.slice A n c] w fun e w' => e = .returned (.string (listB l)) ∧ Below w.heap.size w w' := by
  obtain ⟨i0, hi0, hz0, hz1, hz2⟩ := info_parts infoUA
  have H := Lib.hid h
  have HL := Lib.hid h.lenN
  clear h
  go_enter Try.func79, Try.ntmps79
  go_wp2
  go_loopg [3, 8] n (fun g s3 s8 wr => ∃ (j : Nat) (A2 : Option Addr) (c2 : Nat), j ≤ n ∧ n - j ≤ g ∧ s8 = .int .i64 j ∧ s3 = .slice A2 (2 * j) c2 ∧ Hid (wr.ownsRow w.heap.size 5 1 (.slice A2 (2 * j) c2) (2 * j) (u8s ((l.take j).flatMap fun p => beL p 2)) ∧ Below w.heap.size w wr))
  case atStart => exact ⟨0, none, 0, Nat.zero_le _, by omega, rfl, rfl, Lib.hid ⟨own_nil, Below.refl _ _⟩⟩
  case round =>
    obtain ⟨j, A2, c2, hj, hg, rfl, rfl, J⟩ := hrel
    by_cases hlt : j < n
    · have hin : (j : Int) < (n : Int) := by omega
      obtain ⟨b1, o1, rfl, _, g1⟩ := (H.out.below J.out.2).nat hlt
      have HP := Lib.hid (flat_snoc l j (by rw [HL.out]; exact hlt))
      generalize l.getD j 0 = x at g1 HP
      have HV := Lib.hid (spelt_two x)
      go_wp2_with (at_builtin; refine wpList_append_reads _ rfl (.tmp 12) (.tmp 18) 63 rfl w.heap.size 5 i0 _ 1 1 Try.underlying63 hi0 hz0 hz1 hz2 rfl (by omega) (.slice A2 (2 * j) c2) (2 * j) (u8s ((l.take j).flatMap fun p => beL p 2)) rfl (own_alloc J.out.1 _) _ (some ⟨wr.heap.size, 0, none⟩) 2 2 [Value.int .u8 ((x : Int) / 256 % 256), Value.int .u8 ((x : Int) % 256)] rfl (reads_new wr #[Value.int .u8 ((x : Int) / 256 % 256), Value.int .u8 ((x : Int) % 256)] 5 2 1 rfl) (by simp [Value.oneCell']) (by simp only [maxLen]; omega) (by omega) (by have := J.out.2.size; simp; omega) ?_; intro A6 c6 w6 ho6 hg6 _)
      have JN : Hid (w6.ownsRow w.heap.size 5 1 (.slice A6 (2 * (j + 1)) c6) (2 * (j + 1)) (u8s ((l.take (j + 1)).flatMap fun p => beL p 2)) ∧ Below w.heap.size w w6) :=
        Lib.hid ⟨own_eq_vals ho6 (by rw [HP.out, u8s_app, HV.out]), (J.out.2.alloc J.out.2.size _).grown hg6 (by have := J.out.2.size; simp; omega) (fun q hq => by have := own_row_ge J.out.1 _ hq; omega)⟩
      go_roundg (n - (j + 1))
      case measure => omega
      case rel => exact ⟨j + 1, A6, c6, by omega, by omega, by go_num, rfl, JN⟩
    · have : j = n := by omega
      subst this
      have hT : l.take j = l := List.take_of_length_le (by rw [HL.out]; exact Nat.le_refl _)
      have hO := J.out.1
      rw [hT] at hO
      have hconv := own_string Try.underlying63 Try.underlying5 Try.underlying9 hO (by omega)
      clear hT hO
      go_wp2
      go_ret
      exact ⟨rfl, J.out.2⟩

end Go.Proofs.Ytcfmpmcdfllibaa

/-
  The program's iterator over the free blocks.
-/
namespace Go.Proofs.Ytcfmpmcdfllibaa
open Go.RowKit Go.Shelf
attribute [local go_sem] Oper.semAt_some

/-- What a round keeps: what lay below n₀, and the iterator's box. -/
structure KpF (n₀ Bs : Nat) (A B : World) : Prop where
  below : Below n₀ A B
  bs : B.heap[Bs]? = A.heap[Bs]?
theorem KpF.trans {n₀ Bs : Nat} {A B C : World} (h : KpF n₀ Bs A B) (k : KpF n₀ Bs B C) : KpF n₀ Bs A C := ⟨h.below.trans k.below, k.bs.trans h.bs⟩
theorem belowF_put {n₀ z l : Nat} (hn : n₀ ≤ z) (hl : z ≤ l) (W : World) (o o' : Obj) (ho : W.heap[l]? = some o) (_hc : o.isCells = false) : Below n₀ W (W.putObj l o') :=
  (Below.refl n₀ W).grown (grownBy_putObj' W l o') (by have := (Array.getElem?_eq_some_iff.1 ho).1; omega) fun j ej => by cases ej; omega
theorem kpF_put {n₀ Bs z : Nat} (hn : n₀ ≤ z) (hs : Bs < z) (W : World) (l : Nat) (o o' : Obj) (hl : z ≤ l) (ho : W.heap[l]? = some o) (hc : o.isCells = false) (_hw : o.isWalk = false) : KpF n₀ Bs W (W.putObj l o') :=
  ⟨(Below.refl n₀ W).trans (belowF_put hn hl W o o' ho hc), World.putObj_heap_other (by omega)⟩
/-- What is handed out: a block's number. -/
abbrev encsFree (k : Nat) : Array Value := #[.int .i64 (k : Int)]

set_option maxRecDepth 100000 in
set_option maxHeartbeats 2000000 in
theorem free1_in (n : Nat) (hn : 1 ≤ n) (l Bs n₀ : Nat) (A : Option Addr) (N c : Nat) (img : List ByteArray) (hf : MapP img) (J Jx : List Nat → World → Prop)
    (hY : ∀ (pre : List Nat) (i : Nat) (W : World), J pre W → pre.length < (freeA img).length → YieldAt Fence.wide (n - 1) Try.prog l (encsFree i) W fun e W' =>
      (e = .returned (.bool true) ∧ J (pre ++ [i]) W' ∧ KpF n₀ Bs W W') ∨ (e = .returned (.bool false) ∧ Jx (pre ++ [i]) W'))
    (W : World) (hz : n₀ ≤ W.heap.size) (hBs : W.cell? ⟨Bs, 0, none⟩ = some (.slice A N c)) (hR : Reads W n₀ 1 A N (encS img)) (h0 : J [] W) :
    CallsIn Fence.wide n Try.prog 82 #[.func (.yield l) #[] #[], .pointer (some ⟨Bs, 0, none⟩)] W fun e W' => (∃ v, e = .returned v) ∧
      ((∃ ys, ys = freeA img ∧ J ys W') ∨ (∃ pre, (∃ k, k ≤ N ∧ pre = freeTo img k) ∧ Jx pre W')) := by
  have hl := hR.lenS
  have h8 : 8 ≤ N := by have := hf.1; omega
  have h5 : N ≤ 512 := by have := hf.1; omega
  obtain ⟨F, hF⟩ : ∃ F, F = firstA N := ⟨_, rfl⟩
  have cf := fun W => first_any A N c (by unfold maxLen; omega) W
  have cm := fun W hW => mapped_any A N c img W hW hf
  rw [← hF] at cf
  have hFN : F ≤ N := by have := first_le h8 h5; omega
  have HF : Hid (F = firstA img.length) := Lib.hid (by rw [hl, hF])
  have HL := Lib.hid hl
  have HM := Lib.hid hf
  obtain ⟨b, o, e1, hb, _⟩ := hR.str (k := 1) (by omega)
  have HADDR := Lib.hid (And.intro e1 hb)
  have HR := Lib.hid hR
  clear hF hl hf hR e1 hb
  refine callsIn_of_wp Try.func82 rfl trivial ?_ rfl
  simp only [Try.ntmps82, List.size_toArray, List.length_cons, List.length_nil, Nat.reduceAdd, Nat.reduceSub, Array.replicate_succ, Array.replicate_zero, List.push_toArray, List.append_toArray, List.nil_append, List.cons_append]
  gi_wp2_with fail
  refine ⟨trivial, (callsIn_wide.2 (cf _)).mono ?_⟩
  rintro e w1 ⟨rfl, rfl⟩
  gi_wp2
  gi_loopw [3] (fun p wr => ∃ k : Nat, p = .int .i64 k ∧ F ≤ k ∧ k ≤ N ∧ J (freeTo img k) wr ∧ Hid (KpF n₀ Bs W wr)) (fun p _ => N - (intOf p).toNat)
  case atStart => exact ⟨F, rfl, Nat.le_refl _, hFN, by rw [freeTo_zero (by rw [← HF.out]; exact Nat.le_refl _)]; exact h0, Lib.hid ⟨Below.refl _ _, rfl⟩⟩
  case round =>
    obtain ⟨k, rfl, hFk, hk, hJ, K⟩ := hrel
    have hcb := (World.cell?_of_block (a := ⟨Bs, 0, none⟩) K.out.bs).trans hBs
    have hRr : Reads wr wr.heap.size 1 A N (encS img) := (HR.out.below K.out.below).more (Nat.le_trans hz K.out.below.size)
    have cmr := cm wr hRr
    have HJ := Lib.hid hJ
    by_cases h : k < N
    · have hlt : (k : Int) < (N : Int) := by omega
      obtain ⟨b1, o1, e1, _, g1⟩ := hRr.str (k := 1) (by omega)
      subst e1
      have hms := HM.out.2
      have ct := isTaken_any (blk img 1) k (by omega) (by omega) wr
      obtain ⟨t, ht⟩ : ∃ t, t = bitA (blk img 1) k := ⟨_, rfl⟩
      rw [← ht] at ct
      have HT := Lib.hid ht
      generalize blk img 1 = m at g1 ct hms
      have h1N : 1 < N := by omega
      clear ht hRr hJ
      cases t with
      | true =>
        have HN := Lib.hid (freeTo_no (img := img) (i := k) HT.out.symm)
        gi_wp2_with (first | (refine ⟨trivial, (callsIn_wide.2 cmr).mono ?_⟩; rintro e w2 ⟨rfl, rfl⟩) | (refine ⟨trivial, (callsIn_wide.2 ct).mono ?_⟩; rintro e w2 ⟨rfl, rfl⟩))
        refine ⟨(fun f h => (by cases h)), ?_⟩
        gi_wp2
        go_roundw
        case rel => exact ⟨k + 1, by go_num, by omega, by omega, by rw [HN.out]; exact HJ.out, K⟩
        case measure => simp [intOf]; omega
      | false =>
        have HN := Lib.hid (freeTo_yes (img := img) (i := k) HT.out.symm (by rw [← HF.out]; exact hFk))
        have hlen : (freeTo img k).length < (freeA img).length := by
          have := (freeTo_pre (img := img) (i := k + 1) (j := img.length) (by rw [HL.out]; exact h)).length_le
          rw [HN.out, List.length_append] at this
          exact this
        obtain ⟨fn, tmps, assign, body, hy, hR⟩ := hY (freeTo img k) k wr HJ.out hlen
        dsimp only [encsFree] at hy
        gi_wp2_with (first | (refine ⟨trivial, (callsIn_wide.2 cmr).mono ?_⟩; rintro e w2 ⟨rfl, rfl⟩) | (refine ⟨trivial, (callsIn_wide.2 ct).mono ?_⟩; rintro e w2 ⟨rfl, rfl⟩))
        refine hR.mono ?_
        rintro e W3 (⟨rfl, hJ3, hk3⟩ | ⟨rfl, hJx3⟩)
        · have HJ3 := Lib.hid hJ3
          have K3 := Lib.hid (K.out.trans hk3)
          clear hJ3 hk3 g1
          gi_wp2
          go_roundw
          case rel => exact ⟨k + 1, by go_num, by omega, by omega, by rw [HN.out]; exact HJ3.out, K3⟩
          case measure => simp [intOf]; omega
        · gi_wp2
          refine bodyPost_ret (results_none rfl _ _ _) rfl ?_
          exact ⟨⟨_, rfl⟩, .inr ⟨_, ⟨k + 1, by omega, HN.out.symm⟩, hJx3⟩⟩
    · have : k = N := by omega
      subst this
      have HE : Hid (freeA img = freeTo img k) := Lib.hid (by unfold freeA; rw [HL.out])
      clear hRr hJ
      gi_wp2_with (refine ⟨trivial, (callsIn_wide.2 cmr).mono ?_⟩; rintro e w2 ⟨rfl, rfl⟩)
      go_end0
      exact ⟨⟨_, rfl⟩, .inl ⟨_, HE.out.symm, HJ.out⟩⟩

set_option maxHeartbeats 1000000 in
theorem freeFn_in (n : Nat) (A : Option Addr) (N c : Nat) (w : World) :
    CallsIn Fence.wide n Try.prog 51 #[.slice A N c] w fun e w' => e = .returned (.func (.func 82) #[] #[.pointer (some ⟨w.heap.size, 0, none⟩)]) ∧ w' = w.alloc (.cells #[.slice A N c] 22) := by
  refine callsIn_of_wp Try.func51 rfl trivial ?_ rfl
  simp only [Try.ntmps51, List.size_toArray, List.length_cons, List.length_nil, Nat.reduceAdd, Nat.reduceSub, Array.replicate_succ, Array.replicate_zero, List.push_toArray, List.append_toArray, List.nil_append, List.cons_append]
  gi_wp2
  go_ret
  exact ⟨rfl, rfl⟩

theorem free_stops (n : Nat) (hn : 1 ≤ n) (Bs n₀ : Nat) (A : Option Addr) (N c : Nat) (img : List ByteArray) (hf : MapP img) (w : World) (hz : n₀ ≤ w.heap.size) (hBs : Bs < w.heap.size)
    (hcs : w.cell? ⟨Bs, 0, none⟩ = some (.slice A N c)) (hR : Reads w n₀ 1 A N (encS img)) :
    SeqStopsK Fence.wide n Try.prog 82 #[.pointer (some ⟨Bs, 0, none⟩)] encsFree (KpF n₀ Bs) (fun ys => ys = freeA img) (fun pre => ∃ k, k ≤ N ∧ pre = freeTo img k) (freeA img).length w := fun l J Jx W hW _ _ hY h0 =>
  free1_in n hn l Bs n₀ A N c img hf J Jx hY W (Nat.le_trans hz hW.size) ((hW.cell (p := ⟨Bs, 0, none⟩) hBs).trans hcs) (hR.below (hW.mono hz)) h0

end Go.Proofs.Ytcfmpmcdfllibaa

/-
  How many blocks are free, as the program counts them.
-/
namespace Go.Proofs.Ytcfmpmcdfllibaa
open Go.RowKit Go.Shelf
attribute [local go_sem] Oper.semAt_some

theorem below_setF {n₀ B : Nat} (hn : n₀ ≤ B) (W : World) (u : Value) : Below n₀ W (W.setCell ⟨B, 0, none⟩ u) := (Below.refl n₀ W).setCell (p := ⟨B, 0, none⟩) hn u
theorem kpF_set {n₀ Bs B : Nat} {W : World} {u : Value} (hn : n₀ ≤ B) (hs : Bs ≠ B) : KpF n₀ Bs W (W.setCell ⟨B, 0, none⟩ u) :=
  ⟨below_setF hn W u, Below.heap_setCell W ⟨B, 0, none⟩ u Bs hs⟩

/-- Between two rounds: so many were counted. -/
def InvF (w : World) (pre : List Nat) (W : World) : Prop := Boxed W w.heap.size 3 (.int .i64 (pre.length : Nat)) ∧ Below w.heap.size w W
def NoF (_ : Code) (_ : List Nat) (_ : World) : Prop := False
set_option maxRecDepth 100000 in
set_option maxHeartbeats 2000000 in
theorem freeA_any (A : Option Addr) (n c : Nat) (img : List ByteArray) (w : World) (h : Reads w w.heap.size 1 A n (encS img)) (hf : MapP img) :
    Calls Try.prog 22 #[.slice A n c] w fun e w' => e = .returned (.int .i64 ((freeA img).length : Nat)) ∧ Below w.heap.size w w' := by
  have hlen : (freeA img).length ≤ 512 := Nat.le_trans (freeTo_len _) hf.1.2
  refine (callsIn_wide (n := 3)).1 ?_
  refine callsIn_of_wp_marks Try.func22 rfl trivial ?_ rfl
  refine wpIn_wide.2 ?_
  simp only [Try.ntmps22, List.size_toArray, List.length_cons, List.length_nil, Nat.reduceAdd, Nat.reduceSub, Array.replicate_succ, Array.replicate_zero, List.push_toArray, List.append_toArray, List.nil_append, List.cons_append]
  go_wp2_with (go_at_call 51; refine ((callsIn_wide (n := 2)).1 (freeFn_in 2 _ _ _ _)).mono ?_; rintro e w' ⟨rfl, rfl⟩)
  refine (wpIn_wide (n := 3)).1 ?_
  have hB0 : Below w.heap.size w ((w.alloc (.cells #[.int .i64 0] 3)).alloc (.cells #[.slice A n c] 22)) := ((Below.refl _ w).alloc (Nat.le_refl _) _).alloc (by simp) _
  have bT := (Boxed.new w 3 (.int .i64 0)).alloc (.cells #[.slice A n c] 22)
  have bS := Boxed.new (w.alloc (.cells #[.int .i64 0] 3)) 22 (.slice A n c)
  simp only [World.size_alloc] at bT bS
  refine wpIn_rangeFunc_ownG rfl (by omega) (gf := 82) (lb := #[.pointer (some ⟨w.heap.size + 1, 0, none⟩)]) rfl trivial (enters_of Try.func82 (by kernel_rfl) rfl)
    (free_stops 2 (by omega) (w.heap.size + 1) w.heap.size A n c img hf _ (by simp; omega) (by simp) bS.cell (h.below hB0)) KpF.trans (kpF_put (by simp; omega) (by simp)) (Below.refl _ _) (fun _ => rfl)
    (InvF w) NoF
    ?own ?ownx ⟨bT, hB0⟩
    (fun i => { tmps := #[.slice A n c, undef, .int .i64 0, .pointer (some ⟨w.heap.size, 0, none⟩), .slice A n c, .func (.func 82) #[] #[.pointer (some ⟨w.heap.size + 1, 0, none⟩)], .int .i64 (i : Int), undef, undef, undef], defers := [] }) ?assign ?body ?done ?stop
  case own =>
    rintro pre X Y row ⟨h1, h2⟩ hg hr
    have ne : ∀ k, k ≤ w.heap.size → some k ≠ row := fun k hk e => by have := (hr _ e.symm).1; simp at this; omega
    exact ⟨h1.kept hg (ne _ (by omega)), ownFrom_below (β := Unit) (n₀ := w.heap.size) (w₀ := w) (Nat.le_refl _) (by simp; omega) () X Y row h2 hg hr⟩
  case ownx =>
    rintro c pre X Y row h0 hg hr
    exact h0.elim
  case assign =>
    intro l i W K hK
    gi_wp2
    simp [encsFree]
    exact hK
  case body =>
    rintro l pre i W ⟨hT, hB⟩ hlt
    have cT := hT.cell
    have fT := hT.frozen
    have hp : pre.length ≤ 512 := by omega
    have HP : Hid ((pre ++ [i]).length = pre.length + 1) := Lib.hid (by simp)
    have HI : Hid (InvF w (pre ++ [i]) (W.setCell ⟨w.heap.size, 0, none⟩ (.int .i64 ((pre.length : Int) + 1)))) := Lib.hid ⟨by rw [HP.out]; simpa using hT.set (.int .i64 ((pre.length : Int) + 1)), hB.trans (below_setF (Nat.le_refl _) W _)⟩
    clear hB0 bT bS hB hT hlt
    generalize pre.length = q at cT hp HI
    gi_wp2
    exact ⟨(KeepsOthers.setCell _ _ _).from _, kpF_set (Nat.le_refl _) (by omega), HI.out⟩
  case done =>
    rintro D ys W hD rfl ⟨hT, hB⟩ hK
    have cT := hT.cell
    clear hB0 bT bS
    go_wp2
    refine ⟨by simp, .inl ⟨_, _, rfl, run_takeDeferred (show W.heap[D]? = some (.deferred (some [])) from hK), ?_⟩⟩
    refine ⟨_, results_tmp rfl _ _ _, ?_, hB.trans (belowF_put (z := w.heap.size) (Nat.le_refl _) (by simp at hD; omega) W _ _ hK rfl)⟩
    rfl
  case stop =>
    rintro D c pre W hD _ h0 hK
    exact h0.elim

end Go.Proofs.Ytcfmpmcdfllibaa
