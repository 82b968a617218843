/-
  The program's iterator over the free blocks.
-/
import Derived.RangeFuncNested
import Derived.RangeFuncBound
import Derived.RangeFuncCalls
import Derived.RangeFuncLeaves
import Derived.RangeFuncBox
import Derived.Shelf.Abstract
import Derived.Shelf.RegionOpen
import Derived.OwnWalkIn
import Derived.TacticsInMore
import Derived.RegionIn
import Derived.LoopNIn
import Derived.LoopIn
import Derived.Test.YtihmgamdnmipaaaAllocGive
namespace Go.Proofs.Ytihmgamdnmipaaa
open Go.RowKit Go.Shelf
attribute [local go_sem] Oper.semAt_some

/-- What a round keeps: what lay below n₀, and the iterator's box. -/
structure KpF (n₀ Bs : Nat) (A B : World) : Prop where
  below : Below n₀ A B
  bs : B.heap[Bs]? = A.heap[Bs]?
theorem KpF.trans {n₀ Bs : Nat} {A B C : World} (h : KpF n₀ Bs A B) (k : KpF n₀ Bs B C) : KpF n₀ Bs A C := ⟨h.below.trans k.below, k.bs.trans h.bs⟩
theorem belowF_put {n₀ z l : Nat} (hn : n₀ ≤ z) (hl : z ≤ l) (W : World) (o o' : Obj) (ho : W.heap[l]? = some o) (_hc : o.isCells = false) : Below n₀ W (W.putObj l o') :=
  (Below.refl n₀ W).grown (grownBy_putObj' W l o') (by have := (Array.getElem?_eq_some_iff.1 ho).1; omega) fun j ej => by cases ej; omega
theorem kpF_put {n₀ Bs z : Nat} (hn : n₀ ≤ z) (hs : Bs < z) (W : World) (l : Nat) (o o' : Obj) (hl : z ≤ l) (ho : W.heap[l]? = some o) (hc : o.isCells = false) (_hw : o.isWalk = false) : KpF n₀ Bs W (W.putObj l o') :=
  ⟨(Below.refl n₀ W).trans (belowF_put hn hl W o o' ho hc), World.putObj_heap_other (by omega)⟩
/-- What is handed out: a block's number. -/
abbrev encsFree (k : Nat) : Array Value := #[.int .i64 (k : Int)]

set_option maxRecDepth 100000 in
set_option maxHeartbeats 2000000 in
theorem free1_in (n : Nat) (hn : 1 ≤ n) (l Bs n₀ : Nat) (A : Option Addr) (N c : Nat) (img : List ByteArray) (hf : MapP img) (J Jx : List Nat → World → Prop)
    (hY : ∀ (pre : List Nat) (i : Nat) (W : World), J pre W → pre.length < (freeA img).length → YieldAt Fence.wide (n - 1) Try.prog l (encsFree i) W fun e W' =>
      (e = .returned (.bool true) ∧ J (pre ++ [i]) W' ∧ KpF n₀ Bs W W') ∨ (e = .returned (.bool false) ∧ Jx (pre ++ [i]) W'))
    (W : World) (hz : n₀ ≤ W.heap.size) (hBs : W.cell? ⟨Bs, 0, none⟩ = some (.slice A N c)) (hR : Reads W n₀ 1 A N (encS img)) (h0 : J [] W) :
    CallsIn Fence.wide n Try.prog 74 #[.func (.yield l) #[] #[], .pointer (some ⟨Bs, 0, none⟩)] W fun e W' => (∃ v, e = .returned v) ∧
      ((∃ ys, ys = freeA img ∧ J ys W') ∨ (∃ pre, (∃ k, k ≤ N ∧ pre = freeTo img k) ∧ Jx pre W')) := by
  have hl := hR.lenS
  have h8 : 8 ≤ N := by have := hf.1; omega
  have h5 : N ≤ 512 := by have := hf.1; omega
  obtain ⟨F, hF⟩ : ∃ F, F = firstA N := ⟨_, rfl⟩
  have cf := fun W => first_any A N c (by unfold maxLen; omega) W
  have cm := fun W hW => mapped_any A N c img W hW hf
  rw [← hF] at cf
  have hFN : F ≤ N := by have := first_le h8 h5; omega
  have HF : Hid (F = firstA img.length) := Lib.hid (by rw [hl, hF])
  have HL := Lib.hid hl
  have HM := Lib.hid hf
  obtain ⟨b, o, e1, hb, _⟩ := hR.str (k := 1) (by omega)
  have HADDR := Lib.hid (And.intro e1 hb)
  have HR := Lib.hid hR
  clear hF hl hf hR e1 hb
  refine callsIn_of_wp Try.func74 rfl trivial ?_ rfl
  simp only [Try.ntmps74, List.size_toArray, List.length_cons, List.length_nil, Nat.reduceAdd, Nat.reduceSub, Array.replicate_succ, Array.replicate_zero, List.push_toArray, List.append_toArray, List.nil_append, List.cons_append]
  gi_wp2_with fail
  refine ⟨trivial, (callsIn_wide.2 (cf _)).mono ?_⟩
  rintro e w1 ⟨rfl, rfl⟩
  gi_wp2
  gi_loopw [3] (fun p wr => ∃ k : Nat, p = .int .i64 k ∧ F ≤ k ∧ k ≤ N ∧ J (freeTo img k) wr ∧ Hid (KpF n₀ Bs W wr)) (fun p _ => N - (intOf p).toNat)
  case atStart => exact ⟨F, rfl, Nat.le_refl _, hFN, by rw [freeTo_zero (by rw [← HF.out]; exact Nat.le_refl _)]; exact h0, Lib.hid ⟨Below.refl _ _, rfl⟩⟩
  case round =>
    obtain ⟨k, rfl, hFk, hk, hJ, K⟩ := hrel
    have hcb := (World.cell?_of_block (a := ⟨Bs, 0, none⟩) K.out.bs).trans hBs
    have hRr : Reads wr wr.heap.size 1 A N (encS img) := (HR.out.below K.out.below).more (Nat.le_trans hz K.out.below.size)
    have cmr := cm wr hRr
    have HJ := Lib.hid hJ
    by_cases h : k < N
    · have hlt : (k : Int) < (N : Int) := by omega
      obtain ⟨b1, o1, e1, _, g1⟩ := hRr.str (k := 1) (by omega)
      subst e1
      have hms := HM.out.2
      have ct := isTaken_any (blk img 1) k (by omega) (by omega) wr
      obtain ⟨t, ht⟩ : ∃ t, t = bitA (blk img 1) k := ⟨_, rfl⟩
      rw [← ht] at ct
      have HT := Lib.hid ht
      generalize blk img 1 = m at g1 ct hms
      have h1N : 1 < N := by omega
      clear ht hRr hJ
      cases t with
      | true =>
        have HN := Lib.hid (freeTo_no (img := img) (i := k) HT.out.symm)
        gi_wp2_with (first | (refine ⟨trivial, (callsIn_wide.2 cmr).mono ?_⟩; rintro e w2 ⟨rfl, rfl⟩) | (refine ⟨trivial, (callsIn_wide.2 ct).mono ?_⟩; rintro e w2 ⟨rfl, rfl⟩))
        refine ⟨(fun f h => (by cases h)), ?_⟩
        gi_wp2
        go_roundw
        case rel => exact ⟨k + 1, by go_num, by omega, by omega, by rw [HN.out]; exact HJ.out, K⟩
        case measure => simp [intOf]; omega
      | false =>
        have HN := Lib.hid (freeTo_yes (img := img) (i := k) HT.out.symm (by rw [← HF.out]; exact hFk))
        have hlen : (freeTo img k).length < (freeA img).length := by
          have := (freeTo_pre (img := img) (i := k + 1) (j := img.length) (by rw [HL.out]; exact h)).length_le
          rw [HN.out, List.length_append] at this
          exact this
        obtain ⟨fn, tmps, assign, body, hy, hR⟩ := hY (freeTo img k) k wr HJ.out hlen
        dsimp only [encsFree] at hy
        gi_wp2_with (first | (refine ⟨trivial, (callsIn_wide.2 cmr).mono ?_⟩; rintro e w2 ⟨rfl, rfl⟩) | (refine ⟨trivial, (callsIn_wide.2 ct).mono ?_⟩; rintro e w2 ⟨rfl, rfl⟩))
        refine hR.mono ?_
        rintro e W3 (⟨rfl, hJ3, hk3⟩ | ⟨rfl, hJx3⟩)
        · have HJ3 := Lib.hid hJ3
          have K3 := Lib.hid (K.out.trans hk3)
          clear hJ3 hk3 g1
          gi_wp2
          go_roundw
          case rel => exact ⟨k + 1, by go_num, by omega, by omega, by rw [HN.out]; exact HJ3.out, K3⟩
          case measure => simp [intOf]; omega
        · gi_wp2
          refine bodyPost_ret (results_none rfl _ _ _) rfl ?_
          exact ⟨⟨_, rfl⟩, .inr ⟨_, ⟨k + 1, by omega, HN.out.symm⟩, hJx3⟩⟩
    · have : k = N := by omega
      subst this
      have HE : Hid (freeA img = freeTo img k) := Lib.hid (by unfold freeA; rw [HL.out])
      clear hRr hJ
      gi_wp2_with (refine ⟨trivial, (callsIn_wide.2 cmr).mono ?_⟩; rintro e w2 ⟨rfl, rfl⟩)
      go_end0
      exact ⟨⟨_, rfl⟩, .inl ⟨_, HE.out.symm, HJ.out⟩⟩

set_option maxHeartbeats 1000000 in
theorem freeFn_in (n : Nat) (A : Option Addr) (N c : Nat) (w : World) :
    CallsIn Fence.wide n Try.prog 53 #[.slice A N c] w fun e w' => e = .returned (.func (.func 74) #[] #[.pointer (some ⟨w.heap.size, 0, none⟩)]) ∧ w' = w.alloc (.cells #[.slice A N c] 22) := by
  refine callsIn_of_wp Try.func53 rfl trivial ?_ rfl
  simp only [Try.ntmps53, List.size_toArray, List.length_cons, List.length_nil, Nat.reduceAdd, Nat.reduceSub, Array.replicate_succ, Array.replicate_zero, List.push_toArray, List.append_toArray, List.nil_append, List.cons_append]
  gi_wp2
  go_ret
  exact ⟨rfl, rfl⟩

theorem free_stops (n : Nat) (hn : 1 ≤ n) (Bs n₀ : Nat) (A : Option Addr) (N c : Nat) (img : List ByteArray) (hf : MapP img) (w : World) (hz : n₀ ≤ w.heap.size) (hBs : Bs < w.heap.size)
    (hcs : w.cell? ⟨Bs, 0, none⟩ = some (.slice A N c)) (hR : Reads w n₀ 1 A N (encS img)) :
    SeqStopsK Fence.wide n Try.prog 74 #[.pointer (some ⟨Bs, 0, none⟩)] encsFree (KpF n₀ Bs) (fun ys => ys = freeA img) (fun pre => ∃ k, k ≤ N ∧ pre = freeTo img k) (freeA img).length w := fun l J Jx W hW _ _ hY h0 =>
  free1_in n hn l Bs n₀ A N c img hf J Jx hY W (Nat.le_trans hz hW.size) ((hW.cell (p := ⟨Bs, 0, none⟩) hBs).trans hcs) (hR.below (hW.mono hz)) h0

end Go.Proofs.Ytihmgamdnmipaaa
