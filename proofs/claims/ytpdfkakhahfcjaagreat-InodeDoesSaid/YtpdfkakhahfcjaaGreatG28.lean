/-
  Bytes written into an inode: the program's function.
-/
import Derived.Test.YtpdfkakhahfcjaaGreatG27
namespace Go.Proofs.YtpdfkakhahfcjaaGreat
open Go.RowKit Go.Shelf
attribute [local go_sem] Oper.semAt_some

def wriV19 (k en : Nat) (st s2 fr tt : Int) : Nat → Value → World → Prop
  | 0 => eqV (.int .i64 (k : Int))
  | 1 => eqV (.int .i64 st)
  | 2 => eqV (.int .i64 fr)
  | 3 => eqV (.int .i64 (en : Int))
  | 4 => eqV (.int .i64 st)
  | 5 => eqV (.int .i64 s2)
  | 6 => eqV (.int .i64 tt)
  | 7 => eqV (.int .i64 fr)
  | 8 => eqV (.int .i64 tt)
  | _ => fun _ _ => True
theorem wriV19_stable (k en : Nat) (st s2 fr tt : Int) (j : Nat) (v : Value) (w w' : World) (h : wriV19 k en st s2 fr tt j v w) : wriV19 k en st s2 fr tt j v w' := by
  match j, h with
  | 0, h => exact h
  | 1, h => exact h
  | 2, h => exact h
  | 3, h => exact h
  | 4, h => exact h
  | 5, h => exact h
  | 6, h => exact h
  | 7, h => exact h
  | 8, h => exact h
  | _ + 9, _ => trivial
def wriV21 (g n c k q o a1 a2 : Nat) (st fr tt : Int) (data : ByteArray) : Nat → Value → World → Prop
  | 0 => eqV (.slice (some ⟨g, 0, none⟩) n c)
  | 1 => eqV (.int .i64 (q : Int))
  | 2 => eqV (.int .i64 fr)
  | 3 => eqV (.int .i64 st)
  | 4 => eqV (.int .i64 (o : Int))
  | 5 => eqV (.string data)
  | 6 => eqV (.int .i64 fr)
  | 7 => eqV (.int .i64 (k : Int))
  | 8 => eqV (.int .i64 (a1 : Int))
  | 9 => eqV (.int .i64 tt)
  | 10 => eqV (.int .i64 (k : Int))
  | 11 => eqV (.int .i64 (a2 : Int))
  | 12 => eqV (.string (data.extract a1 a2))
  | 13 => eqV (.tuple #[])
  | _ => fun _ _ => True
theorem wriV21_stable (g n c k q o a1 a2 : Nat) (st fr tt : Int) (data : ByteArray) (j : Nat) (v : Value) (w w' : World) (h : wriV21 g n c k q o a1 a2 st fr tt data j v w) : wriV21 g n c k q o a1 a2 st fr tt data j v w' := by
  match j, h with
  | 0, h => exact h
  | 1, h => exact h
  | 2, h => exact h
  | 3, h => exact h
  | 4, h => exact h
  | 5, h => exact h
  | 6, h => exact h
  | 7, h => exact h
  | 8, h => exact h
  | 9, h => exact h
  | 10, h => exact h
  | 11, h => exact h
  | 12, h => exact h
  | 13, h => exact h
  | _ + 14, _ => trivial

set_option maxRecDepth 100000 in
set_option maxHeartbeats 16000000 in
theorem writeI_any (A : Option Addr) (n c : Nat) (img : List ByteArray) (i at_ : Int) (data : ByteArray) (w : World) (h : Reads w w.heap.size 1 A n (encS img)) (hf : MapP img) (hat0 : -9223372036854775808 ≤ at_) (hat1 : at_ ≤ 9223372036854775807) (hds : data.size ≤ 140737488355328) :
    Calls Tryz.prog 12 #[.slice A n c, .int .i64 i, .int .i64 at_, .string data] w fun e w' => ImgsO w w' (writeI img i at_ data).1 (writeI img i at_ data).2 e := by
  have hmx : Tryz.prog.follows .mixedOrders = true := by kernel_rfl
  have hz := fun W => zero_run W
  have hl := h.lenS
  have h8 : 8 ≤ n := by have := hf.1; omega
  have hn : n ≤ 512 := by have := hf.1; omega
  have H := Lib.hid h
  have HF := Lib.hid hf
  have hbA : Below w.heap.size w ((w.alloc (.cells #[.int .i64 at_] 3)).alloc (.cells #[.string data] 9)) := ((Below.refl _ w).alloc (Nat.le_refl _) _).alloc (by simp) _
  have hco := cloneS_any A n c img ((w.alloc (.cells #[.int .i64 at_] 3)).alloc (.cells #[.string data] 9)) ((h.alloc _).alloc _) (by omega)
  have cg : ∀ W, Reads W W.heap.size 1 A n (encS img) → Calls Tryz.prog 38 #[.slice A n c, .int .i64 i] W fun e w' => e = .returned (.tuple #[.agg (cellsR (heldI img i).1).toArray, .int .i64 (heldI img i).2]) ∧ Below W.heap.size W w' := fun W hW => held_any A n c img i W hW hn
  have hok := heldI_ok img i (by omega)
  have HB : Hid (writeI img i at_ data = if (heldI img i).2 ≠ 0 then (img, (heldI img i).2) else if at_ < 0 then (img, 13) else if 8704 < at_ ∨ 8704 - at_ < (data.size : Int) then (img, 12) else
    if ((heldI img i).1.size : Int) < at_ + data.size then
      if (truncI img i (at_ + data.size)).2 ≠ 0 then truncI img i (at_ + data.size) else (laidW at_.toNat data (truncI img i (at_ + data.size)).1 (recI (truncI img i (at_ + data.size)).1 i.toNat), 0)
    else (laidW at_.toNat data img (heldI img i).1, 0)) := Lib.hid rfl
  have hki : (heldI img i).2 = 0 → 0 ≤ i ∧ i ≤ 1024 := fun h0 => by
    have := (getI_ok img i (by omega)).2
    unfold heldI at h0
    rcases this with h1 | h1
    · rw [h1, if_pos (by decide)] at h0; cases h0
    · exact ⟨h1.2.1, h1.2.2.1⟩
  generalize heldI img i = x at cg hok HB hki
  obtain ⟨r, ec⟩ := x
  dsimp only at cg hok HB hki
  have HR := Lib.hid hok
  clear h hf hok hl
  refine (callsIn_wide (n := 3)).1 ?_
  refine callsIn_of_wp_marks Tryz.func12 rfl trivial ?_ rfl
  refine wpIn_wide.2 ?_
  simp only [Tryz.ntmps12, List.size_toArray, List.length_cons, List.length_nil, Nat.reduceAdd, Nat.reduceSub, Array.replicate_succ, Array.replicate_zero, List.push_toArray, List.append_toArray, List.nil_append, List.cons_append]
  go_wp2_with fail
  refine hco.mono ?_
  rintro e w1 ⟨A1, c1, rfl, ho1, hb1⟩
  obtain ⟨g, rfl, hO1⟩ := OwI.of ho1 (by omega)
  have hcA : w1.heap[w.heap.size]? = some (.cells #[.int .i64 at_] 3 (0, 0)) := by
    rw [hb1.block _ (by simp; omega), Below.heap_alloc _ _ _ (by simp)]; exact heap_alloc_new w _
  have hcD : w1.heap[w.heap.size + 1]? = some (.cells #[.string data] 9 (0, 0)) := by
    rw [hb1.block _ (by simp)]; simpa using heap_alloc_new (w.alloc (.cells #[.int .i64 at_] 3)) (.cells #[.string data] 9)
  have P1 := Lib.hid (And.intro hcA (And.intro hcD (And.intro hO1 (hbA.trans (hb1.mono (by simp; omega))))))
  clear hcA hcD ho1 hb1 hO1 hco hbA
  go_wp2_with fail
  have hgO := P1.out.2.2.1.lt
  have hge1 := P1.out.2.2.1.ge
  have hsz1 : w.heap.size + 1 < w1.heap.size := (Array.getElem?_eq_some_iff.1 P1.out.2.1).1
  have bb2 : Below w1.heap.size w1 (w1.alloc (.cells #[.slice (some ⟨g, 0, none⟩) n c1] 22)) := (Below.refl _ w1).alloc (Nat.le_refl _) _
  have P2 := Lib.hid (And.intro (heap_alloc_new w1 (.cells #[.slice (some ⟨g, 0, none⟩) n c1] 22)) (And.intro bb2 (P1.out.2.2.2.trans (bb2.mono P1.out.2.2.2.size))))
  clear bb2
  have hs2 : (w1.alloc (.cells #[.slice (some ⟨g, 0, none⟩) n c1] 22)).heap.size = w1.heap.size + 1 := by simp
  generalize w1.alloc (.cells #[.slice (some ⟨g, 0, none⟩) n c1] 22) = w2 at P2 hs2 ⊢
  refine (cg _ (H.out.step P2.out.2.2)).mono ?_
  rintro e w3 ⟨rfl, hb3⟩
  go_upto_region 3 with (refine wpList_store_row rfl _ _ _ rfl w3.heap.size (cellsR r).toArray rfl rfl _ (cellsR (zeroR 0)).toArray (heap_alloc_new w3 _) (sizeRr HR.out) (holdR okz HR.out) (all_oneCell_toArray (cellsR_one _)) ?_)
  have B4 := (BR.new w3 (zeroR 0)).setRow r
  have bs4 : Below w3.heap.size w3 ((w3.alloc (.cells (cellsR (zeroR 0)).toArray 62)).setRow w3.heap.size (cellsR r).toArray) := ((Below.refl _ w3).alloc (Nat.le_refl _) _).trans (below_setRow _ (Nat.le_refl _) _)
  have hb23 := bstep hb3 bs4
  have hb14 := bstep P2.out.2.1 hb23
  have hs3 := hb3.size
  have P4 : Hid (PreW w ((w3.alloc (.cells (cellsR (zeroR 0)).toArray 62)).setRow w3.heap.size (cellsR r).toArray) w1.heap.size w3.heap.size g n c1 at_ data img r) := Lib.hid
    ⟨(hb14.block _ (by omega)).trans P1.out.1, (hb14.block _ (by omega)).trans P1.out.2.1, (hb23.block _ (by omega)).trans P2.out.1, B4, ⟨own_base (P1.out.2.2.1.step hb14).own (by simp; omega), P1.out.2.2.1.pos⟩, bstep P2.out.2.2 hb23, ⟨by omega, by omega, by simp at hge1; omega, by simp at hge1; omega, by omega⟩, ⟨hsz1, by omega⟩⟩
  clear B4 bs4 hb23 hb14 hb3 cg P1 P2
  generalize (w3.alloc (.cells (cellsR (zeroR 0)).toArray 62)).setRow w3.heap.size (cellsR r).toArray = W at P4 ⊢
  generalize w3.heap.size = gR at P4 ⊢
  generalize w1.heap.size = gO at P4 ⊢
  by_cases h0 : ec = 0
  rotate_left
  · have HE : Hid (writeI img i at_ data = (img, ec)) := Lib.hid (by rw [HB.out, if_pos h0])
    have hne : (ec != 0) = true := by rw [bne_iff_ne]; exact h0
    have hco := P4.out.out
    clear h0
    go_wp2
    refine ⟨_, results_tmp2 rfl _ _ _, ?_⟩
    rw [HE.out]
    exact ⟨g, n, c1, rfl, P4.out.own, hn, P4.out.below⟩
  subst h0
  have hki := hki rfl
  obtain ⟨iN, rfl⟩ : ∃ iN : Nat, i = iN := ⟨i.toNat, by omega⟩
  have hi1 : iN ≤ 1024 := by omega
  have hco := P4.out.out
  have hca := P4.out.at
  by_cases hx : at_ < 0
  · have HE : Hid (writeI img iN at_ data = (img, 13)) := Lib.hid (by rw [HB.out, if_neg (by decide), if_pos hx])
    have hxd : decide (at_ < 0) = true := decide_eq_true hx
    go_wp2
    refine ⟨_, results_tmp2 rfl _ _ _, ?_⟩
    rw [HE.out]
    exact ⟨g, n, c1, rfl, P4.out.own, hn, P4.out.below⟩
  obtain ⟨k, rfl⟩ : ∃ k : Nat, at_ = k := ⟨at_.toNat, by omega⟩
  have hcd := P4.out.data_
  by_cases hx1 : (8704 : Int) < (k : Int)
  · have HE : Hid (writeI img iN k data = (img, 12)) := Lib.hid (by rw [HB.out, if_neg (by decide), if_neg hx, if_pos (.inl hx1)])
    have hxd : decide ((8704 : Int) < (k : Int)) = true := decide_eq_true hx1
    have hxn : decide (8704 < k) = true := decide_eq_true (by omega)
    go_wp2
    refine ⟨_, results_tmp2 rfl _ _ _, ?_⟩
    rw [HE.out]
    exact ⟨g, n, c1, rfl, P4.out.own, hn, P4.out.below⟩
  have hxd : decide ((8704 : Int) < (k : Int)) = false := decide_eq_false hx1
  have hxn : decide (8704 < k) = false := decide_eq_false (by omega)
  have hk8 : k ≤ 8704 := by omega
  obtain ⟨d8, hd8⟩ : ∃ d8 : Nat, 8704 - k = d8 := ⟨_, rfl⟩
  have hd8i : (8704 : Int) - (k : Int) = (d8 : Int) := by omega
  by_cases hx2 : (d8 : Int) < (data.size : Int)
  · have HE : Hid (writeI img iN k data = (img, 12)) := Lib.hid (by rw [HB.out, if_neg (by decide), if_neg hx, if_pos (.inr (by omega))])
    have hyd : decide ((d8 : Int) < (data.size : Int)) = true := decide_eq_true hx2
    have hyn : decide (d8 < data.size) = true := decide_eq_true (by omega)
    go_wp2
    refine ⟨_, results_tmp2 rfl _ _ _, ?_⟩
    rw [HE.out]
    exact ⟨g, n, c1, rfl, P4.out.own, hn, P4.out.below⟩
  have hyd : decide ((d8 : Int) < (data.size : Int)) = false := decide_eq_false hx2
  have hyn : decide (d8 < data.size) = false := decide_eq_false (by omega)
  have HE0 : Hid (writeI img iN k data = if (r.size : Int) < k + data.size then (if (truncI img iN ((k : Int) + data.size)).2 ≠ 0 then truncI img iN ((k : Int) + data.size) else (laidW k data (truncI img iN ((k : Int) + data.size)).1 (recI (truncI img iN ((k : Int) + data.size)).1 iN), 0)) else (laidW k data img r, 0)) := Lib.hid (by
    rw [HB.out, if_neg (by decide), if_neg hx, if_neg (by omega), Int.toNat_natCast, Int.toNat_natCast])
  clear HB
  obtain ⟨en, hen⟩ : ∃ en : Nat, k + data.size = en := ⟨_, rfl⟩
  have heni : (k : Int) + (data.size : Int) = (en : Int) := by omega
  have hwe : IntKind.i64.wrap ((k : Int) + (data.size : Int)) = (en : Int) := by rw [IntKind.wrap_i64]; omega
  have hkl : k ≤ en := by omega
  have hen8 : en ≤ 8704 := by omega
  rw [heni] at HE0
  have HEN := Lib.hid hen
  clear hen
  obtain ⟨bt, hbt⟩ : ∃ b : Bool, decide ((r.size : Int) < (en : Int)) = b := ⟨_, rfl⟩
  have hbn : decide (r.size < en) = bt := by rw [← hbt, decide_eq_decide]; omega
  have HBT : Hid (bt = true ↔ r.size < en) := Lib.hid (by rw [← hbn, decide_eq_true_eq])
  go_upto_region 10 with fail
  have hgE := heap_alloc_new W (.cells #[.int .i64 (en : Int)] 3)
  have P5 := Lib.hid (And.intro (P4.out.step ((Below.refl _ W).alloc (Nat.le_refl _) (.cells #[.int .i64 (en : Int)] 3))) (And.intro hgE (And.intro (show gO < W.heap.size from (Array.getElem?_eq_some_iff.1 P4.out.outB).1) (And.intro P4.out.recB.lt P4.out.own.lt))))
  have hce : (W.alloc (.cells #[.int .i64 (en : Int)] 3)).cell? ⟨W.heap.size, 0, none⟩ = some (.int .i64 (en : Int)) := by go_simp
  have hcs := P5.out.1.recB.size
  have hcd2 := P5.out.1.data_
  have hca2 := P5.out.1.at
  have hco2 := P5.out.1.out
  have hfo2 : (W.alloc (.cells #[.int .i64 (en : Int)] 3)).frozen? ⟨gO, 0, none⟩ = false := by simp [World.frozen?, P5.out.1.outB]
  have hls : W.heap.size < (W.alloc (.cells #[.int .i64 (en : Int)] 3)).heap.size := by simp
  clear hgE hcd hca hco P4
  generalize W.alloc (.cells #[.int .i64 (en : Int)] 3) = W5 at P5 hce hcs hcd2 hca2 hco2 hfo2 hls ⊢
  generalize W.heap.size = gE at P5 hce hls ⊢
  go_upto_if 55 with fail
  clear hbt hbn
  go_cut [12] from 56 to 69 (fun s12 wc => ∃ (g4 n4 c4 : Nat) (img4 : List ByteArray) (r4 : RecI), Hid (VarsW w wc w.heap.size (w.heap.size + 1) gE gO g4 n4 c4 k en data ∧ OwI wc w.heap.size g4 n4 c4 img4 ∧ BR wc gR r4 ∧ OkR r4 ∧ n4 ≤ 512 ∧ gR ≠ g4 ∧ writeI img iN k data = (laidW k data img4 r4, 0)))
  case first =>
    cases bt
    · have hlong : ¬ r.size < en := fun h => by have := HBT.out.2 h; cases this
      have hli : ¬ (r.size : Int) < (en : Int) := by omega
      have HE : Hid (writeI img iN k data = (laidW k data img r, 0)) := Lib.hid (by rw [HE0.out, if_neg hli])
      go_wp2_with fail
      go_meet
      case rel =>
        exact ⟨g, n, c1, img, r, Lib.hid ⟨⟨P5.out.1.atB, P5.out.1.dataB, P5.out.2.1, P5.out.1.outB, ⟨P5.out.1.ne.2.2.1, P5.out.1.ne.2.2.2.1, by have := P5.out.2.2.2.2; omega, P5.out.1.ne.1⟩, P5.out.1.below⟩, P5.out.1.own, P5.out.1.recB, HR.out, hn, P5.out.1.ne.2.1, HE.out⟩⟩
    · have hlong : r.size < en := HBT.out.1 rfl
      have hli : (r.size : Int) < (en : Int) := by omega
      have HE1 : Hid (writeI img iN k data = if (truncI img iN (en : Int)).2 ≠ 0 then truncI img iN (en : Int) else (laidW k data (truncI img iN (en : Int)).1 (recI (truncI img iN (en : Int)).1 iN), 0)) := Lib.hid (by rw [HE0.out, if_pos hli])
      have cT := truncI_any A n c img iN en W5 (H.out.step P5.out.1.below) HF.out (by omega) (by omega)
      clear HE0
      generalize truncI img iN (en : Int) = y at cT HE1
      obtain ⟨yi, ye⟩ := y
      dsimp only at cT HE1
      go_wp2_with fail
      refine cT.mono ?_
      rintro e w6 ⟨g4, n4, c4, rfl, hO6, hn6, hb6⟩
      have P6 := P5.out.1.step hb6
      have hco6 := P6.out
      have hfo6 : w6.frozen? ⟨gO, 0, none⟩ = false := by simp [World.frozen?, P6.outB]
      have hge4 := hO6.ge
      have hgO5 : gO < W5.heap.size := (Array.getElem?_eq_some_iff.1 P5.out.1.outB).1
      have hgR5 : gR < W5.heap.size := P5.out.1.recB.lt
      have hgE5 : gE < W5.heap.size := (Array.getElem?_eq_some_iff.1 P5.out.2.1).1
      have b7 : But gO w6 (w6.setCell ⟨gO, 0, none⟩ (.slice (some ⟨g4, 0, none⟩) n4 c4)) := But.set _ _ _ _
      have O7 := own_but hO6 b7 (by omega)
      have hB7 := box_set P6.outB (.slice (some ⟨g4, 0, none⟩) n4 c4)
      have bel7 : Below w.heap.size w (w6.setCell ⟨gO, 0, none⟩ (.slice (some ⟨g4, 0, none⟩) n4 c4)) := P6.below.trans (b7.to_below (by have := P6.ge; omega) P6.below.size)
      have hc7 : (w6.setCell ⟨gO, 0, none⟩ (.slice (some ⟨g4, 0, none⟩) n4 c4)).cell? ⟨gO, 0, none⟩ = some (.slice (some ⟨g4, 0, none⟩) n4 c4) := by simp [World.cell?, hB7]
      have hW5 := P5.out.1.below.size
      have K7 : Hid (OwI (w6.setCell ⟨gO, 0, none⟩ (.slice (some ⟨g4, 0, none⟩) n4 c4)) w.heap.size g4 n4 c4 yi ∧ (w6.setCell ⟨gO, 0, none⟩ (.slice (some ⟨g4, 0, none⟩) n4 c4)).heap[gO]? = some (.cells #[.slice (some ⟨g4, 0, none⟩) n4 c4] 22 (0, 0)) ∧ Below w.heap.size w (w6.setCell ⟨gO, 0, none⟩ (.slice (some ⟨g4, 0, none⟩) n4 c4)) ∧ (∀ q, q < W5.heap.size → q ≠ gO → (w6.setCell ⟨gO, 0, none⟩ (.slice (some ⟨g4, 0, none⟩) n4 c4)).heap[q]? = W5.heap[q]?) ∧ W5.heap.size ≤ (w6.setCell ⟨gO, 0, none⟩ (.slice (some ⟨g4, 0, none⟩) n4 c4)).heap.size) :=
        Lib.hid ⟨⟨own_base O7.own hW5, O7.pos⟩, hB7, bel7, fun q hq hne => (b7.block q (Nat.lt_of_lt_of_le hq hb6.size) hne).trans (hb6.block q hq), Nat.le_trans hb6.size b7.size⟩
      clear hO6 hb6 P6 b7 O7 hB7 bel7 cT
      by_cases hye : ye = 0
      · subst hye
        have HE : Hid (writeI img iN k data = (laidW k data yi (recI yi iN), 0)) := Lib.hid (by rw [HE1.out, if_neg (by decide)])
        have cl := load_any (some ⟨g4, 0, none⟩) n4 c4 yi iN hi1 _ K7.out.1.reads
        unfold valR at cl
        have HRY := Lib.hid (recI_ok yi iN hi1)
        generalize recI yi iN = r4 at cl HE HRY
        go_wp2_with fail
        generalize w6.setCell ⟨gO, 0, none⟩ (.slice (some ⟨g4, 0, none⟩) n4 c4) = w7 at K7 cl ⊢
        refine cl.mono ?_
        rintro e w8 ⟨rfl, hb8⟩
        have hs7 := K7.out.2.2.2.2
        have hs8 := hb8.size
        have hne5 := P5.out.1.ne
        have hge5 := P5.out.1.ge
        have B8 : BR w8 gR r := (hb8.block gR (by omega)).trans ((K7.out.2.2.2.1 gR hgR5 (by omega)).trans P5.out.1.recB)
        go_wp2_with (refine wpList_store_row rfl _ _ _ rfl gR (cellsR r4).toArray rfl rfl _ (cellsR r).toArray B8 (sizeRr HRY.out) (holdR HR.out HRY.out) (all_oneCell_toArray (cellsR_one _)) ?_)
        have b9 := But.setRow w8 gR (cellsR r4).toArray
        have hq9 : ∀ q, q < W5.heap.size → q ≠ gO → q ≠ gR → (w8.setRow gR (cellsR r4).toArray).heap[q]? = W5.heap[q]? := fun q h1 h2 h3 => (b9.block q (by omega) h3).trans ((hb8.block q (by omega)).trans (K7.out.2.2.2.1 q h1 h2))
        have V9 : Hid (VarsW w (w8.setRow gR (cellsR r4).toArray) w.heap.size (w.heap.size + 1) gE gO g4 n4 c4 k en data ∧ OwI (w8.setRow gR (cellsR r4).toArray) w.heap.size g4 n4 c4 yi ∧ BR (w8.setRow gR (cellsR r4).toArray) gR r4 ∧ OkR r4 ∧ n4 ≤ 512 ∧ gR ≠ g4 ∧ writeI img iN k data = (laidW k data yi r4, 0)) := Lib.hid
          ⟨⟨(hq9 _ (by omega) (by omega) (by omega)).trans P5.out.1.atB, (hq9 _ (by omega) (by omega) (by omega)).trans P5.out.1.dataB, (hq9 _ (by omega) (by have := P5.out.2.2; omega) (by have := P5.out.2.2; omega)).trans P5.out.2.1, (b9.block gO (by omega) (by omega)).trans ((hb8.block gO (by omega)).trans K7.out.2.1), ⟨by omega, by omega, by omega, by omega⟩, K7.out.2.2.1.trans ((hb8.mono (by omega)).trans (b9.to_below (by omega) (by omega)))⟩, own_but (K7.out.1.step hb8) b9 (by omega), B8.setRow r4, HRY.out, hn6, by omega, HE.out⟩
        go_meet
        case rel =>
          exact ⟨g4, n4, c4, yi, r4, V9⟩
      · have HE : Hid (writeI img iN k data = (yi, ye)) := Lib.hid (by rw [HE1.out, if_pos hye])
        have hne : (ye != 0) = true := by rw [bne_iff_ne]; exact hye
        go_wp2
        refine ⟨_, results_tmp2 rfl _ _ _, ?_⟩
        rw [HE.out]
        exact ⟨g4, n4, c4, rfl, K7.out.1, hn6, K7.out.2.2.1⟩
  case rest =>
    obtain ⟨g4, n4, c4, img4, r4, V⟩ := hcut
    have hB4 := V.out.2.2.1
    have hR4 := V.out.2.2.2.1
    go_wp2_with (first | (refine wpList_load_mid rfl _ _ rfl gR 0 rfl (cellsR r4) _ hB4.range Tryz.underlying62 rfl (by rw [cellsR_length hR4]; exact sizeR) ?_) | (go_at_call 44; refine ((callsIn_wide (n := 2)).1 (blkFn_in 2 r4 _)).mono ?_; rintro e w' ⟨rfl, rfl⟩))
    refine (wpIn_wide (n := 3)).1 ?_
    have hS4 := BR.new wc r4
    have bb4 : Below wc.heap.size wc (wc.alloc (.cells (cellsR r4).toArray 62)) := (Below.refl _ _).alloc (Nat.le_refl _) _
    have VV : Hid (VarsW w (wc.alloc (.cells (cellsR r4).toArray 62)) w.heap.size (w.heap.size + 1) gE gO g4 n4 c4 k en data ∧ OwI (wc.alloc (.cells (cellsR r4).toArray 62)) w.heap.size g4 n4 c4 img4 ∧ OkR r4 ∧ n4 ≤ 512 ∧ writeI img iN k data = (laidW k data img4 r4, 0)) := Lib.hid ⟨V.out.1.but V.out.2.1.ge (But.of_below bb4 _), V.out.2.1.step bb4, hR4, V.out.2.2.2.2.1, V.out.2.2.2.2.2.2⟩
    have hwz : w.heap.size ≤ wc.heap.size := V.out.1.below.size
    have hw4 : wc.heap.size < (wc.alloc (.cells (cellsR r4).toArray 62)).heap.size := by simp
    have hg4z : g4 < wc.heap.size := V.out.2.1.lt
    clear hB4 bb4 V P5 HE0 HBT hce hcs hcd2 hca2 hco2 hfo2
    generalize wc.alloc (.cells (cellsR r4).toArray 62) = w4 at hS4 VV hw4 ⊢
    generalize wc.heap.size = z at hS4 hwz hw4 hg4z ⊢
    have hz4 : w.heap.size ≤ w4.heap.size := by omega
    have HG : Hid (w.heap.size ≤ g4) := Lib.hid VV.out.2.1.ge
    refine wpIn_rangeFunc_ownG rfl (by omega) (gf := 76) (lb := #[.pointer (some ⟨z, 0, none⟩)]) rfl trivial (enters_of Tryz.func76 (by kernel_rfl) rfl)
      (blk_stops 2 (by omega) z r4 hR4 (KpG (MineW g4) w.heap.size) KpG.trans (fun A => ⟨Below.refl _ _, fun _ _ h _ _ => h, fun _ h => .inl h⟩) w4 hS4 (fun W1 W2 h1 hk q cs fr hge hh => hk.keep q _ hh rfl (fun hm => by have hm : q = g4 := hm; omega))) KpG.trans (kpW_put hz4) (Below.refl _ _) (fun _ => rfl)
      (InvW w w4 w.heap.size (w.heap.size + 1) gE gO g4 n4 c4 k en data img4) NoW (invW_own hz4) ?ownx ⟨VV.out.2.1, VV.out.1, ⟨Below.refl _ _, fun _ _ h _ _ => h, fun _ h => .inl h⟩⟩
      (fun i => { tmps := #[.slice A n c, .int .i64 (iN : Int), .int .i64 (k : Int), .string data, undef, undef, .pointer (some ⟨w.heap.size, 0, none⟩), .pointer (some ⟨w.heap.size + 1, 0, none⟩), u8, u9, .pointer (some ⟨gO, 0, none⟩), .pointer (some ⟨gR, 0, none⟩), u12, .pointer (some ⟨gE, 0, none⟩), .int .i64 (i.1 : Int), .int .i64 (i.2 : Int), undef, undef, undef, .slice A n c, .slice (some ⟨g, 0, none⟩) n c1, .tuple #[.agg (cellsR r).toArray, .int .i64 0], .slice A n c, .int .i64 (iN : Int), .tuple #[.agg (cellsR r).toArray, .int .i64 0], .agg (cellsR r).toArray, .int .i64 0, .bool false, .int .i64 0, .bool false, undef, undef, .bool false, .int .i64 (k : Int), .bool false, undef, .bool false, .int .i64 (k : Int), .bool false, .bool false, .string data, .int .i64 (data.size : Int), .int .i64 (k : Int), .int .i64 (d8 : Int), .bool false, .bool false, undef, .int .i64 (k : Int), .string data, .int .i64 (data.size : Int), .int .i64 (en : Int), .int .i64 (en : Int), .pointer (some ⟨gR, 1, none⟩), .pointer (some ⟨gR, 2, none⟩), .int .i64 (r.size : Int), .bool bt, u56, u57, u58, u59, u60, u61, u62, u63, u64, u65, u66, u67, u68, u69, .agg (cellsR r4).toArray, .func (.func 76) #[] #[.pointer (some ⟨z, 0, none⟩)], .int .i64 (i.1 : Int), .int .i64 (i.2 : Int), undef, undef, undef, undef, undef, undef, undef, undef, undef, undef, undef, undef, undef, undef, undef, undef, undef, undef, undef, undef, undef, undef, undef, undef, undef, undef, undef], defers := [] }) ?assign ?body ?done ?stop
    case ownx =>
      rintro c pre X Y row h0 hg hr
      exact h0.elim
    case assign =>
      intro l i W K hK
      gi_wp2
      exact hK
    case body =>
      rintro l pre i W ⟨hO, hV, hK⟩ hlt
      obtain ⟨st, hst⟩ : ∃ st, IntKind.i64.wrap (128 * (i.1 : Int)) = st := ⟨_, rfl⟩
      have hsb : -9223372036854775808 ≤ st ∧ st ≤ 9223372036854775807 := by rw [← hst, IntKind.wrap_i64]; omega
      obtain ⟨s2, hs2⟩ : ∃ s2, IntKind.i64.wrap (st + 128) = s2 := ⟨_, rfl⟩
      have hsb2 : s2 = st + 128 ∨ s2 = st + 128 - 18446744073709551616 := by rw [← hs2, IntKind.wrap_i64]; omega
      have HS2 := Lib.hid hs2
      obtain ⟨fr, hfr⟩ : ∃ fr, fr = max (k : Int) st := ⟨_, rfl⟩
      obtain ⟨tt, hto⟩ : ∃ tt, tt = min (en : Int) s2 := ⟨_, rfl⟩
      have HFo : Hid ((pre ++ [i]).foldl (putW k en data) img4 = if fr < tt then putI (pre.foldl (putW k en data) img4) i.2 (fr - st).toNat (data.extract (fr - k).toNat (tt - k).toNat) else pre.foldl (putW k en data) img4) := Lib.hid (by
        rw [List.foldl_append, hfr, hto]
        show putW k en data _ i = _
        unfold putW
        rw [hst, hs2])
      have HFT := Lib.hid (And.intro hfr hto)
      generalize pre.foldl (putW k en data) img4 = im at hO HFo
      have HV := Lib.hid (And.intro hO (And.intro hV hK))
      clear hO hV hK hlt hS4 hfr hto
      gi_wp2
      refine wpIn_region_rel2 (fun _ w' => w' = W.drew) (fun _ a b => b = a) (wriV19 k en st s2 fr tt) hmx (by kernel_rfl) (by kernel_rfl) rfl (fun i L a b _ h1 h2 => by rw [h2]; exact h1) (fun i j v a b _ _ h => wriV19_stable k en st s2 fr tt j v a b h) ?_ ?_
      · refine ⟨?_, ?_, ?_, ?_, ?_, ?_, ?_, ?_, ?_, trivial⟩
        · intro V L Wz hL hC hd K hK
          clear hd
          simp only [laidL, Act.put, List.setIfInBounds_toArray, List.set_cons_zero, List.set_cons_succ] at hK ⊢
          subst hC
          have hc : W.drew.cell? ⟨w.heap.size, 0, none⟩ = some (.int .i64 (k : Int)) := HV.out.2.1.at
          go_simp
          exact hK _ _ ⟨rfl, rfl⟩
        · intro V L Wz hL hC hd K hK
          clear hd
          simp only [laidL, Act.put, List.setIfInBounds_toArray, List.set_cons_zero, List.set_cons_succ] at hK ⊢
          subst hC
          go_simp
          exact hK _ _ ⟨rfl, rfl⟩
        · intro V L Wz hL hC hd K hK
          have q0 : wriV19 k en st s2 fr tt 0 (V 0) Wz := hd.1
          have e0 : V 0 = .int .i64 (k : Int) := q0
          clear q0
          have q1 : wriV19 k en st s2 fr tt 1 (V 1) Wz := hd.2.1
          have e1 : V 1 = .int .i64 st := q1
          clear q1
          clear hd
          simp only [laidL, Act.put, List.setIfInBounds_toArray, List.set_cons_zero, List.set_cons_succ] at hK ⊢
          generalize V 0 = v0 at e0 hK ⊢
          subst e0
          generalize V 1 = v1 at e1 hK ⊢
          subst e1
          subst hC
          go_simp
          exact hK _ _ ⟨rfl, congrArg (Value.int .i64) (by first | rfl | omega | (have := HFT.out; omega) | (rw [IntKind.wrap_i64]; have := HFT.out; omega))⟩
        · intro V L Wz hL hC hd K hK
          clear hd
          simp only [laidL, Act.put, List.setIfInBounds_toArray, List.set_cons_zero, List.set_cons_succ] at hK ⊢
          subst hC
          have hc : W.drew.cell? ⟨gE, 0, none⟩ = some (.int .i64 (en : Int)) := HV.out.2.1.end_
          go_simp
          exact hK _ _ ⟨rfl, rfl⟩
        · intro V L Wz hL hC hd K hK
          clear hd
          simp only [laidL, Act.put, List.setIfInBounds_toArray, List.set_cons_zero, List.set_cons_succ] at hK ⊢
          subst hC
          go_simp
          exact hK _ _ ⟨rfl, rfl⟩
        · intro V L Wz hL hC hd K hK
          have q4 : wriV19 k en st s2 fr tt 4 (V 4) Wz := hd.1
          have e4 : V 4 = .int .i64 st := q4
          clear q4
          clear hd
          simp only [laidL, Act.put, List.setIfInBounds_toArray, List.set_cons_zero, List.set_cons_succ] at hK ⊢
          generalize V 4 = v4 at e4 hK ⊢
          subst e4
          subst hC
          go_simp
          exact hK _ _ ⟨rfl, congrArg (Value.int .i64) (by first | rfl | exact hs2 | exact HS2.out)⟩
        · intro V L Wz hL hC hd K hK
          have q3 : wriV19 k en st s2 fr tt 3 (V 3) Wz := hd.1
          have e3 : V 3 = .int .i64 (en : Int) := q3
          clear q3
          have q5 : wriV19 k en st s2 fr tt 5 (V 5) Wz := hd.2.1
          have e5 : V 5 = .int .i64 s2 := q5
          clear q5
          clear hd
          simp only [laidL, Act.put, List.setIfInBounds_toArray, List.set_cons_zero, List.set_cons_succ] at hK ⊢
          generalize V 3 = v3 at e3 hK ⊢
          subst e3
          generalize V 5 = v5 at e5 hK ⊢
          subst e5
          subst hC
          go_simp
          exact hK _ _ ⟨rfl, congrArg (Value.int .i64) (by first | rfl | omega | (have := HFT.out; omega) | (rw [IntKind.wrap_i64]; have := HFT.out; omega))⟩
        · intro V L Wz hL hC hd K hK
          have q2 : wriV19 k en st s2 fr tt 2 (V 2) Wz := hd.1
          have e2 : V 2 = .int .i64 fr := q2
          clear q2
          clear hd
          simp only [laidL, Act.put, List.setIfInBounds_toArray, List.set_cons_zero, List.set_cons_succ] at hK ⊢
          generalize V 2 = v2 at e2 hK ⊢
          subst e2
          subst hC
          go_simp
          exact hK _ _ ⟨rfl, rfl⟩
        · intro V L Wz hL hC hd K hK
          have q6 : wriV19 k en st s2 fr tt 6 (V 6) Wz := hd.1
          have e6 : V 6 = .int .i64 tt := q6
          clear q6
          clear hd
          simp only [laidL, Act.put, List.setIfInBounds_toArray, List.set_cons_zero, List.set_cons_succ] at hK ⊢
          generalize V 6 = v6 at e6 hK ⊢
          subst e6
          subst hC
          go_simp
          exact hK _ _ ⟨rfl, rfl⟩
      · intro V L W1 hL hC hVV
        have e7 : V 7 = .int .i64 fr := hVV 7 (show 7 < 9 by decide)
        have e8 : V 8 = .int .i64 tt := hVV 8 (show 8 < 9 by decide)
        clear hVV hL
        subst hC
        simp only [laidL, Act.put, List.setIfInBounds_toArray, List.set_cons_zero, List.set_cons_succ]
        generalize V 7 = v7 at e7 ⊢
        subst e7
        generalize V 8 = v8 at e8 ⊢
        subst e8
        have bd : Below W.heap.size W W.drew := (Below.refl _ _).drew
        have HV2 := Lib.hid (And.intro (HV.out.1.step bd) (And.intro (HV.out.2.1.but HG.out (But.of_below bd _)) (And.intro (HV.out.2.2.trans (kpW_but (But.of_below bd g4) HG.out (HV.out.2.1.below.size))) (KeepsOthers.mk bd.size fun q o hq _ => (bd.block q (Array.getElem?_eq_some_iff.1 hq).1).trans hq))))
        have HK2 : Hid (KpG (MineW g4) w.heap.size W W.drew) := Lib.hid (kpW_but (But.of_below bd g4) HG.out HV.out.2.1.below.size)
        clear bd
        generalize W.drew = W2 at HV2 HK2 ⊢
        by_cases hft : fr < tt
        · have hftd : decide (fr < tt) = true := decide_eq_true hft
          obtain ⟨o, ho⟩ : ∃ o, o = (fr - st).toNat := ⟨_, rfl⟩
          obtain ⟨a1, ha1⟩ : ∃ a1, a1 = (fr - k).toNat := ⟨_, rfl⟩
          obtain ⟨a2, ha2⟩ : ∃ a2, a2 = (tt - k).toNat := ⟨_, rfl⟩
          have HOA : Hid (fr - st = (o : Int) ∧ fr - k = (a1 : Int) ∧ tt - k = (a2 : Int) ∧ a1 < a2 ∧ a2 ≤ data.size ∧ (o : Int) + (a2 - a1) ≤ 128 ∧ -9223372036854775808 ≤ st ∧ k ≤ 8704 ∧ en ≤ 8704 ∧ fr ≤ 8704) := Lib.hid (by have := HFT.out; have := HEN.out; omega)
          have HSZ : Hid (o + (data.extract a1 a2).size ≤ 128 ∧ o < 128) := Lib.hid (by rw [ByteArray.size_extract]; have := HOA.out; omega)
          have HFo2 : Hid ((pre ++ [i]).foldl (putW k en data) img4 = putI im i.2 o (data.extract a1 a2)) := Lib.hid (by rw [HFo.out, if_pos hft, ← ho, ← ha1, ← ha2])
          clear HFo ho ha1 ha2
          gi_wp2
          refine wpIn_region_rel2 (fun L w' => But g4 W2 w' ∧ OwI w' w.heap.size g4 n4 c4 (if L 13 = true then putI im i.2 o (data.extract a1 a2) else im)) (fun i_ a b => (i_ ≠ 13 → Below a.heap.size a b) ∧ (i_ = 13 → But g4 a b ∧ OwI b w.heap.size g4 n4 c4 (putI im i.2 o (data.extract a1 a2)))) (wriV21 g4 n4 c4 k i.2 o a1 a2 st fr tt data) hmx (by kernel_rfl) (by kernel_rfl) ⟨But.of_below (Below.refl _ _).drew _, by rw [if_neg (by decide)]; exact HV2.out.1.step (Below.refl _ _).drew⟩ (fun i_ L a b hi hC hs => by
              by_cases h9 : i_ = 13
              · obtain ⟨h1, h2⟩ := hs.2 h9
                subst h9
                exact ⟨hC.1.trans h1, by rw [if_pos (by simp)]; exact h2⟩
              · have h1 := hs.1 h9
                refine ⟨hC.1.trans (But.of_below h1 _), ?_⟩
                have e : (if (13 : Nat) = i_ then true else L 13) = L 13 := if_neg (Ne.symm h9)
                show OwI b w.heap.size g4 n4 c4 (if (if (13 : Nat) = i_ then true else L 13) = true then _ else _)
                rw [e]
                exact hC.2.step h1) (fun i_ j v a b _ _ h => wriV21_stable g4 n4 c4 k i.2 o a1 a2 st fr tt data j v a b h) ?_ ?_
          · refine ⟨?_, ?_, ?_, ?_, ?_, ?_, ?_, ?_, ?_, ?_, ?_, ?_, ?_, ?_, trivial⟩
            · intro V L W hL hC hd K hK
              clear hd
              simp only [laidL, Act.put, List.setIfInBounds_toArray, List.set_cons_zero, List.set_cons_succ] at hK ⊢
              have hc := (HV2.out.2.1.but HG.out hC.1).out
              go_simp
              exact hK _ _ ⟨⟨fun _ => Below.refl _ _, fun h => absurd h (by decide)⟩, rfl⟩
            · intro V L W hL hC hd K hK
              clear hd
              simp only [laidL, Act.put, List.setIfInBounds_toArray, List.set_cons_zero, List.set_cons_succ] at hK ⊢
              go_simp
              exact hK _ _ ⟨⟨fun _ => Below.refl _ _, fun h => absurd h (by decide)⟩, rfl⟩
            · intro V L W hL hC hd K hK
              clear hd
              simp only [laidL, Act.put, List.setIfInBounds_toArray, List.set_cons_zero, List.set_cons_succ] at hK ⊢
              go_simp
              exact hK _ _ ⟨⟨fun _ => Below.refl _ _, fun h => absurd h (by decide)⟩, rfl⟩
            · intro V L W hL hC hd K hK
              clear hd
              simp only [laidL, Act.put, List.setIfInBounds_toArray, List.set_cons_zero, List.set_cons_succ] at hK ⊢
              go_simp
              exact hK _ _ ⟨⟨fun _ => Below.refl _ _, fun h => absurd h (by decide)⟩, rfl⟩
            · intro V L W hL hC hd K hK
              have q2 : wriV21 g4 n4 c4 k i.2 o a1 a2 st fr tt data 2 (V 2) W := hd.1
              have e2 : V 2 = .int .i64 fr := q2
              clear q2
              have q3 : wriV21 g4 n4 c4 k i.2 o a1 a2 st fr tt data 3 (V 3) W := hd.2.1
              have e3 : V 3 = .int .i64 st := q3
              clear q3
              clear hd
              simp only [laidL, Act.put, List.setIfInBounds_toArray, List.set_cons_zero, List.set_cons_succ] at hK ⊢
              generalize V 2 = v2 at e2 hK ⊢
              subst e2
              generalize V 3 = v3 at e3 hK ⊢
              subst e3
              go_simp
              exact hK _ _ ⟨⟨fun _ => Below.refl _ _, fun h => absurd h (by decide)⟩, congrArg (Value.int .i64) (by first | rfl | (have := HOA.out; omega) | (rw [IntKind.wrap_i64]; have := HOA.out; omega))⟩
            · intro V L W hL hC hd K hK
              clear hd
              simp only [laidL, Act.put, List.setIfInBounds_toArray, List.set_cons_zero, List.set_cons_succ] at hK ⊢
              have hc := (HV2.out.2.1.but HG.out hC.1).data_
              go_simp
              exact hK _ _ ⟨⟨fun _ => Below.refl _ _, fun h => absurd h (by decide)⟩, rfl⟩
            · intro V L W hL hC hd K hK
              clear hd
              simp only [laidL, Act.put, List.setIfInBounds_toArray, List.set_cons_zero, List.set_cons_succ] at hK ⊢
              go_simp
              exact hK _ _ ⟨⟨fun _ => Below.refl _ _, fun h => absurd h (by decide)⟩, rfl⟩
            · intro V L W hL hC hd K hK
              clear hd
              simp only [laidL, Act.put, List.setIfInBounds_toArray, List.set_cons_zero, List.set_cons_succ] at hK ⊢
              have hc := (HV2.out.2.1.but HG.out hC.1).at
              go_simp
              exact hK _ _ ⟨⟨fun _ => Below.refl _ _, fun h => absurd h (by decide)⟩, rfl⟩
            · intro V L W hL hC hd K hK
              have q6 : wriV21 g4 n4 c4 k i.2 o a1 a2 st fr tt data 6 (V 6) W := hd.1
              have e6 : V 6 = .int .i64 fr := q6
              clear q6
              have q7 : wriV21 g4 n4 c4 k i.2 o a1 a2 st fr tt data 7 (V 7) W := hd.2.1
              have e7 : V 7 = .int .i64 (k : Int) := q7
              clear q7
              clear hd
              simp only [laidL, Act.put, List.setIfInBounds_toArray, List.set_cons_zero, List.set_cons_succ] at hK ⊢
              generalize V 6 = v6 at e6 hK ⊢
              subst e6
              generalize V 7 = v7 at e7 hK ⊢
              subst e7
              go_simp
              exact hK _ _ ⟨⟨fun _ => Below.refl _ _, fun h => absurd h (by decide)⟩, congrArg (Value.int .i64) (by first | rfl | (have := HOA.out; omega) | (rw [IntKind.wrap_i64]; have := HOA.out; omega))⟩
            · intro V L W hL hC hd K hK
              clear hd
              simp only [laidL, Act.put, List.setIfInBounds_toArray, List.set_cons_zero, List.set_cons_succ] at hK ⊢
              go_simp
              exact hK _ _ ⟨⟨fun _ => Below.refl _ _, fun h => absurd h (by decide)⟩, rfl⟩
            · intro V L W hL hC hd K hK
              clear hd
              simp only [laidL, Act.put, List.setIfInBounds_toArray, List.set_cons_zero, List.set_cons_succ] at hK ⊢
              have hc := (HV2.out.2.1.but HG.out hC.1).at
              go_simp
              exact hK _ _ ⟨⟨fun _ => Below.refl _ _, fun h => absurd h (by decide)⟩, rfl⟩
            · intro V L W hL hC hd K hK
              have q9 : wriV21 g4 n4 c4 k i.2 o a1 a2 st fr tt data 9 (V 9) W := hd.1
              have e9 : V 9 = .int .i64 tt := q9
              clear q9
              have q10 : wriV21 g4 n4 c4 k i.2 o a1 a2 st fr tt data 10 (V 10) W := hd.2.1
              have e10 : V 10 = .int .i64 (k : Int) := q10
              clear q10
              clear hd
              simp only [laidL, Act.put, List.setIfInBounds_toArray, List.set_cons_zero, List.set_cons_succ] at hK ⊢
              generalize V 9 = v9 at e9 hK ⊢
              subst e9
              generalize V 10 = v10 at e10 hK ⊢
              subst e10
              go_simp
              exact hK _ _ ⟨⟨fun _ => Below.refl _ _, fun h => absurd h (by decide)⟩, congrArg (Value.int .i64) (by first | rfl | (have := HOA.out; omega) | (rw [IntKind.wrap_i64]; have := HOA.out; omega))⟩
            · intro V L W hL hC hd K hK
              have q5 : wriV21 g4 n4 c4 k i.2 o a1 a2 st fr tt data 5 (V 5) W := hd.1
              have e5 : V 5 = .string data := q5
              clear q5
              have q8 : wriV21 g4 n4 c4 k i.2 o a1 a2 st fr tt data 8 (V 8) W := hd.2.1
              have e8 : V 8 = .int .i64 (a1 : Int) := q8
              clear q8
              have q11 : wriV21 g4 n4 c4 k i.2 o a1 a2 st fr tt data 11 (V 11) W := hd.2.2.1
              have e11 : V 11 = .int .i64 (a2 : Int) := q11
              clear q11
              clear hd
              simp only [laidL, Act.put, List.setIfInBounds_toArray, List.set_cons_zero, List.set_cons_succ] at hK ⊢
              generalize V 5 = v5 at e5 hK ⊢
              subst e5
              generalize V 8 = v8 at e8 hK ⊢
              subst e8
              generalize V 11 = v11 at e11 hK ⊢
              subst e11
              have h12 := HOA.out
              have hd1 : (a1 : Int) ≤ (a2 : Int) := by omega
              have hd2 : (a2 : Int) ≤ (data.size : Int) := by omega
              go_simp
              exact hK _ _ ⟨⟨fun _ => Below.refl _ _, fun h => absurd h (by decide)⟩, rfl⟩
            · intro V L W hL hC hd K hK
              have q0 : wriV21 g4 n4 c4 k i.2 o a1 a2 st fr tt data 0 (V 0) W := hd.1
              have e0 : V 0 = .slice (some ⟨g4, 0, none⟩) n4 c4 := q0
              clear q0
              have q1 : wriV21 g4 n4 c4 k i.2 o a1 a2 st fr tt data 1 (V 1) W := hd.2.1
              have e1 : V 1 = .int .i64 (i.2 : Int) := q1
              clear q1
              have q4 : wriV21 g4 n4 c4 k i.2 o a1 a2 st fr tt data 4 (V 4) W := hd.2.2.1
              have e4 : V 4 = .int .i64 (o : Int) := q4
              clear q4
              have q12 : wriV21 g4 n4 c4 k i.2 o a1 a2 st fr tt data 12 (V 12) W := hd.2.2.2.1
              have e12 : V 12 = .string (data.extract a1 a2) := q12
              clear q12
              clear hd
              simp only [laidL, Act.put, List.setIfInBounds_toArray, List.set_cons_zero, List.set_cons_succ] at hK ⊢
              generalize V 0 = v0 at e0 hK ⊢
              subst e0
              generalize V 1 = v1 at e1 hK ⊢
              subst e1
              generalize V 4 = v4 at e4 hK ⊢
              subst e4
              generalize V 12 = v12 at e12 hK ⊢
              subst e12
              go_simp
              have hO : OwI W w.heap.size g4 n4 c4 im := by have h := hC.2; rwa [if_neg (by rw [hL]; decide)] at h
              go_at_call 45
              refine (putI_any w.heap.size g4 n4 c4 im i.2 o (data.extract a1 a2) W hO HSZ.out.1 HSZ.out.2).mono ?_
              rintro e w3 ⟨rfl, hO3, hb3⟩
              exact hK _ _ ⟨⟨fun h => absurd rfl h, fun _ => ⟨hb3, hO3⟩⟩, rfl⟩
          · intro V L W3 hL hC hVV
            have hC2 : OwI W3 w.heap.size g4 n4 c4 (putI im i.2 o (data.extract a1 a2)) := by have h := hC.2; rwa [if_pos (hL 13 (show 13 < 14 by decide))] at h
            have HX : Hid (KeepsFrom w4.heap.size W W3 ∧ KpG (MineW g4) w.heap.size W W3 ∧ InvW w w4 w.heap.size (w.heap.size + 1) gE gO g4 n4 c4 k en data img4 (pre ++ [i]) W3) := Lib.hid
              ⟨(HV2.out.2.2.2.trans (keeps_but hC.1 HV2.out.1)).from _, HK2.out.trans (kpW_but hC.1 HG.out (HV2.out.2.1.below.size)), by rw [HFo2.out]; exact hC2, HV2.out.2.1.but HG.out hC.1, HV2.out.2.2.1.trans (kpW_but hC.1 HG.out HV2.out.2.1.below.size)⟩
            clear hC hC2 hVV hL
            simp only [laidL, Act.put, List.setIfInBounds_toArray, List.set_cons_zero, List.set_cons_succ]
            gi_wp2
            exact HX.out
        · have hftd : decide (fr < tt) = false := decide_eq_false hft
          have HX : Hid (KeepsFrom w4.heap.size W W2 ∧ KpG (MineW g4) w.heap.size W W2 ∧ InvW w w4 w.heap.size (w.heap.size + 1) gE gO g4 n4 c4 k en data img4 (pre ++ [i]) W2) := Lib.hid
            ⟨HV2.out.2.2.2.from _, HK2.out, by rw [HFo.out, if_neg hft]; exact HV2.out.1, HV2.out.2.1, HV2.out.2.2.1⟩
          gi_wp2
          exact HX.out
    case stop =>
      rintro D c pre W hD _ h0 hK
      exact h0.elim
    case done =>
      rintro D ys W hD hys ⟨hO, hV, hK⟩ hKD
      have hco := hV.out
      have HE : Hid (writeI img iN k data = (ys.foldl (putW k en data) img4, 0)) := Lib.hid (by rw [VV.out.2.2.2.2, hys]; unfold laidW; rw [HEN.out])
      generalize ys.foldl (putW k en data) img4 = yo at hO HE
      clear hys hK
      go_wp2
      refine ⟨by simp, .inl ⟨_, _, rfl, run_takeDeferred (show W.heap[D]? = some (.deferred (some [])) from hKD), ?_⟩⟩
      refine ⟨_, results_tmp2 rfl _ _ _, ?_⟩
      rw [HE.out]
      exact ⟨g4, n4, c4, rfl, ⟨own_putObj hO.own hKD _, hO.pos⟩, VV.out.2.2.2.1, hV.below.trans (belowF_put (z := w.heap.size) (Nat.le_refl _) (by omega) W _ _ hKD rfl)⟩

end Go.Proofs.YtpdfkakhahfcjaaGreat
