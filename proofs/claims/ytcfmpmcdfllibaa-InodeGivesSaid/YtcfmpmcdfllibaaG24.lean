/-
  The document's own answer: whether an inode's shape is right.
-/
import Derived.Test.YtcfmpmcdfllibaaG23
import Derived.Deep.DeepCutAuto
namespace Go.Proofs.Ytcfmpmcdfllibaa
open Go.RowKit

theorem recS_ok (s : ByteArray) : OkW (recS s) := by
  refine ⟨rfl, ?_, ?_, fun k hk => ?_, ?_⟩
  · have := byA_lt s 0; show byA s 0 ≤ 255; omega
  · have h1 := w2_lt s 1
    have h2 := w2_lt s 3
    show 65536 * w2 s 1 + w2 s 3 < _
    omega
  · have hk : k ∈ [w2 s 5, w2 s 7, w2 s 9, w2 s 11] := hk
    simp only [List.mem_cons, List.not_mem_nil, or_false] at hk
    rcases hk with rfl | rfl | rfl | rfl
    all_goals exact Nat.le_trans (Nat.le_of_lt (w2_lt _ _)) (by omega)
  · have := w2_lt s 13; show w2 s 13 ≤ _; omega
/-- What is asked of an inode's cells. -/
def badR (n : Nat) (s : ByteArray) (r : RecI) : Prop := (r.kind ≠ 1 ∧ r.kind ≠ 2) ∨ 8704 < r.size ∨ textR r ≠ s ∨ decide (4 < needN r.size) ≠ decide (0 < r.ind) ∨ n ≤ r.ind
instance (n : Nat) (s : ByteArray) (r : RecI) : Decidable (badR n s r) := by unfold badR; infer_instance
theorem shapedR_eq (img : List ByteArray) (s : ByteArray) (r : RecI) : shapedR img s r = if s = zeroN 32 then true else if badR img.length s r then false else
    if (∀ k : Nat, k < 4 → (decide (k < needN r.size) = decide (0 < r.bl.getD k 0))) then (if 4 < needN r.size then decide (tailW img r = List.replicate (tailW img r).length 0) else true) else false := rfl
theorem bne_bytes (a b : ByteArray) : (a.toList != b.toList) = !decide (a = b) := by
  show (!(a.toList == b.toList)) = _
  rw [beq_bytes]

set_option maxRecDepth 100000 in
set_option maxHeartbeats 8000000 in
theorem refShaped_any (A : Option Addr) (n c : Nat) (img : List ByteArray) (s : ByteArray) (w : World) (h : Reads w w.heap.size 1 A n (encS img)) (hf : FitA img) (hs : s.size = 32) :
    Calls Try.prog 32 #[.slice A n c, .string s] w fun e w' => e = .returned (.bool (shapedR img s (recS s))) ∧ Below w.heap.size w w' := by
  have hmx : Try.prog.follows .mixedOrders = true := by kernel_rfl
  obtain ⟨i0, hi0, hz0, hz1, hz2⟩ := info_parts infoUA
  have hz7 := (zero_of_info info7).1
  have H := Lib.hid h
  have HF := Lib.hid hf
  have hl := h.lenS
  have h5 : n ≤ 512 := by have := hf.1; omega
  have hOK := recS_ok s
  have HOK := Lib.hid hOK
  have cR := refRead_any s hs w
  have cN := fun W => refNeeds_any (recS s).size (by have := hOK.size; omega) W
  have cW := fun W => refWrite_any (recS s) hOK W
  have HE0 : Hid (shapedR img s (recS s) = if s = zeroN 32 then true else if badR n s (recS s) then false else
    if (∀ k : Nat, k < 4 → (decide (k < needN (recS s).size) = decide (0 < (recS s).bl.getD k 0))) then (if 4 < needN (recS s).size then decide (tailW img (recS s) = List.replicate (tailW img (recS s)).length 0) else true) else false) := Lib.hid (by rw [shapedR_eq, hl])
  have hlen7 := recS_len s
  clear h hf
  generalize recS s = r at *
  unfold valI at cR cW
  have h4 := hOK.bl
  go_enter Try.func32, Try.ntmps32
  go_wp2_with fail
  refine cR.mono ?_
  rintro e w1 ⟨rfl, hb1⟩
  have B2 := (BI.new w1 (zeroR 0)).setRow r
  have bs2 : Below w1.heap.size w1 ((w1.alloc (.cells (cellsI (zeroR 0)).toArray 27)).setRow w1.heap.size (cellsI r).toArray) := ((Below.refl _ w1).alloc (Nat.le_refl _) _).trans (below_setRow _ (Nat.le_refl _) _)
  have J2 := Lib.hid (And.intro B2 (bstep hb1 bs2))
  clear B2 bs2 cR hb1
  go_upto_region 2 with (refine wpList_store_row rfl _ _ _ rfl w1.heap.size (cellsI r).toArray rfl rfl _ (cellsI (zeroR 0)).toArray (heap_alloc_new w1 _) (sizeIz hlen7) (holdIz (r := zeroR 0) rfl hlen7) (all_oneCell_toArray (cellsI_one _)) ?_)
  generalize (w1.alloc (.cells (cellsI (zeroR 0)).toArray 27)).setRow w1.heap.size (cellsI r).toArray = w2 at J2 ⊢
  generalize w1.heap.size = g at J2 ⊢
  go_wp2_with (at_make; refine wpList_make_full _ rfl _ _ 63 rfl w2.heap.size 5 i0 _ 1 Try.underlying63 hi0 hz0 hz1 .i64 .i64 32 32 32 rfl rfl rfl rfl ?_ ?_ ?_ ?_)
  · rw [hz2]; omega
  · simp only [maxLen]; omega
  · exact Nat.le_refl _
  intro w3 ho3 hg3
  have hb3 : Below w2.heap.size w2 w3 := (Below.refl _ _).grown hg3 (Nat.le_refl _) (by intro k hk; cases hk)
  have hcv := made_conv ho3
  have J3 := Lib.hid (And.intro (J2.out.1.step hb3) (bstep J2.out.2 hb3))
  clear ho3 hg3 hb3 J2
  obtain ⟨z32, hz32⟩ : ∃ z, z = zeroN 32 := ⟨_, rfl⟩
  rw [← hz32] at hcv HE0
  clear hz32
  by_cases hsz : s = z32
  · have HE : Hid (shapedR img s r = true) := Lib.hid (by rw [HE0.out, if_pos hsz])
    have htt : (s.toList == z32.toList) = true := by rw [hsz]; simp
    go_wp2
    go_ret
    rw [HE.out]
    exact ⟨rfl, J3.out.2⟩
  have htt : (s.toList == z32.toList) = false := by rw [beq_bytes, decide_eq_false hsz]
  have HE1 : Hid (shapedR img s r = if badR n s r then false else
    if (∀ k : Nat, k < 4 → (decide (k < needN r.size) = decide (0 < r.bl.getD k 0))) then (if 4 < needN r.size then decide (tailW img r = List.replicate (tailW img r).length 0) else true) else false) := Lib.hid (by rw [HE0.out, if_neg hsz])
  have HBD : Hid (badR n s r ↔ (r.kind ≠ 1 ∧ r.kind ≠ 2) ∨ 8704 < r.size ∨ textR r ≠ s ∨ decide (4 < needN r.size) ≠ decide (0 < r.ind) ∨ n ≤ r.ind) := Lib.hid Iff.rfl
  have hcs := J3.out.1.size
  clear HE0 hsz
  have hnd : needN r.size ≤ 33554432 := by have := HOK.out.size; unfold needN; omega
  have hnc := Lib.hid (show r.size ≤ 8704 → needN r.size ≤ 68 from fun h => by unfold needN; omega)
  have HTW : Hid (tailW img r = (blk img r.ind).data.toList.drop (2 * (needN r.size - 4))) := Lib.hid rfl
  generalize hnn : needN r.size = nd at *
  clear hnn
  go_upto_region 5 with (go_at_call 38; refine (cN _).mono ?_; rintro e w4 ⟨rfl, rfl⟩)
  have hck : w3.cell? ⟨g, 0, none⟩ = some (.int .i64 (r.kind : Int)) := J3.out.1.cell rfl
  have hci := J3.out.1.ind h4
  go_cut [51] from 18 to 51 (fun s51 wc => s51 = .bool (decide (badR n s r)) ∧ Hid (BI wc g r ∧ Below w.heap.size w wc))
  case first =>
    obtain ⟨t, htR⟩ : ∃ t, t = textR r := ⟨_, rfl⟩
    rw [← htR] at cW HBD
    clear htR
    obtain ⟨x0, x1, x2, x3, hbl⟩ : ∃ x0 x1 x2 x3, r.bl = [x0, x1, x2, x3] := by
      match hb : r.bl, h4 with
      | [x0, x1, x2, x3], _ => exact ⟨x0, x1, x2, x3, rfl⟩
    have hcells : (cellsI r).toArray = #[.int .i64 (r.kind : Int), .int .i64 (r.size : Int), .int .i64 (x0 : Int), .int .i64 (x1 : Int), .int .i64 (x2 : Int), .int .i64 (x3 : Int), .int .i64 (r.ind : Int)] := by unfold cellsI; rw [hbl]; rfl
    rw [hcells] at cW
    have hc2 := J3.out.1.bl (j := 0) (by omega)
    have hc3 := J3.out.1.bl (j := 1) (by omega)
    have hc4 := J3.out.1.bl (j := 2) (by omega)
    have hc5 := J3.out.1.bl (j := 3) (by omega)
    rw [hbl] at hc2 hc3 hc4 hc5
    simp only [List.getD_cons_zero, List.getD_cons_succ, Nat.reduceAdd] at hc2 hc3 hc4 hc5
    clear hcells hbl
    obtain ⟨b1, hb1⟩ : ∃ b : Bool, decide ((4 : Int) < (nd : Int)) = b := ⟨_, rfl⟩
    obtain ⟨b2, hb2⟩ : ∃ b : Bool, decide ((0 : Int) < (r.ind : Int)) = b := ⟨_, rfl⟩
    have HB1 : Hid (True ∧ decide (4 < nd) = b1) := Lib.hid ⟨trivial, by rw [← hb1, decide_eq_decide]; omega⟩
    have HB2 : Hid (True ∧ decide (0 < r.ind) = b2) := Lib.hid ⟨trivial, by rw [← hb2, decide_eq_decide]; omega⟩
    have hb1n := HB1.out.2
    have hb2n := HB2.out.2
    by_cases hk : r.kind ≠ 1 ∧ r.kind ≠ 2
    · have f1 : ((r.kind : Int) != 1) = true := by rw [bne_iff_ne]; omega
      have f2 : ((r.kind : Int) != 2) = true := by rw [bne_iff_ne]; omega
      have hb := HBD.out.2 (.inl hk)
      go_wp2_with fail
      go_meet
      case rel => exact ⟨congrArg Value.bool (decide_eq_true hb).symm, J3⟩
    have HK12 := Lib.hid hk
    have hor : ((r.kind : Int) != 1) = false ∨ (((r.kind : Int) != 1) = true ∧ ((r.kind : Int) != 2) = false) := by
      by_cases e : r.kind = 1
      · left; rw [e]; rfl
      · right; exact ⟨by rw [bne_iff_ne]; omega, by rw [show r.kind = 2 by omega]; rfl⟩
    clear hk
    rcases hor with f1 | ⟨f1, f2⟩
    · skip
      by_cases h3 : 8704 < r.size
      · have h3i : (8704 : Int) < (r.size : Int) := by omega
        have h3d : decide ((8704 : Int) < (r.size : Int)) = true := decide_eq_true h3i
        have h3n : decide (8704 < r.size) = true := decide_eq_true h3
        have hb := HBD.out.2 (.inr (.inl h3))
        go_wp2_with fail
        go_meet
        case rel => exact ⟨congrArg Value.bool (decide_eq_true hb).symm, J3⟩
      have h3i : ¬ (8704 : Int) < (r.size : Int) := by omega
      have h3d : decide ((8704 : Int) < (r.size : Int)) = false := decide_eq_false h3i
      have h3n : decide (8704 < r.size) = false := decide_eq_false h3
      go_wp2_with fail
      refine (cW w3).mono ?_
      rintro e w4 ⟨rfl, hb4⟩
      have J4 := Lib.hid (And.intro (J3.out.1.step hb4) (bstep J3.out.2 hb4))
      have hci4 := J4.out.1.ind h4
      clear hb4 hcs hck hci J3 hc2 hc3 hc4 hc5
      by_cases ht : t = s
      rotate_left
      · have htb : (t.toList != s.toList) = true := by rw [bne_bytes, decide_eq_false ht]; rfl
        have hte : (t.toList == s.toList) = false := by rw [beq_bytes, decide_eq_false ht]
        have hb := HBD.out.2 (.inr (.inr (.inl ht)))
        go_wp2_with fail
        go_meet
        case rel => exact ⟨congrArg Value.bool (decide_eq_true hb).symm, J4⟩
      have htb : (t.toList != s.toList) = false := by rw [bne_bytes, decide_eq_true ht]; rfl
      have hte : (t.toList == s.toList) = true := by rw [beq_bytes, decide_eq_true ht]
      by_cases hx : decide (4 < nd) = decide (0 < r.ind)
      rotate_left
      · have hxb : (b1 != b2) = true := by rw [bne_iff_ne, ← HB1.out.2, ← HB2.out.2]; exact hx
        have hxe := bools_ne hxb
        have hb := HBD.out.2 (.inr (.inr (.inr (.inl hx))))
        go_wp2_with fail
        go_meet
        case rel => exact ⟨congrArg Value.bool (decide_eq_true hb).symm, J4⟩
      have hxb : (b1 != b2) = false := by rw [← HB1.out.2, ← HB2.out.2, hx]; simp
      have hxe := bools_eq (b1 := b1) (b2 := b2) (by rw [hxb]; decide)
      by_cases hi : n ≤ r.ind
      · have hii : (n : Int) ≤ (r.ind : Int) := by omega
        have hid : decide ((n : Int) ≤ (r.ind : Int)) = true := decide_eq_true hii
        have hin : decide (n ≤ r.ind) = true := decide_eq_true hi
        have hb := HBD.out.2 (.inr (.inr (.inr (.inr hi))))
        go_wp2_with fail
        go_meet
        case rel => exact ⟨congrArg Value.bool (decide_eq_true hb).symm, J4⟩
      · have hii : ¬ (n : Int) ≤ (r.ind : Int) := by omega
        have hid : decide ((n : Int) ≤ (r.ind : Int)) = false := decide_eq_false hii
        have hin : decide (n ≤ r.ind) = false := decide_eq_false hi
        have hb : ¬ badR n s r := fun hb => by
          rcases HBD.out.1 hb with ⟨h1, h2⟩ | h1 | h1 | h1 | h1
          · exact HK12.out ⟨h1, h2⟩
          · exact h3 h1
          · exact h1 ht
          · exact h1 hx
          · exact hi h1
        go_wp2_with fail
        go_meet
        case rel => exact ⟨congrArg Value.bool (decide_eq_false hb).symm, J4⟩
    · skip
      by_cases h3 : 8704 < r.size
      · have h3i : (8704 : Int) < (r.size : Int) := by omega
        have h3d : decide ((8704 : Int) < (r.size : Int)) = true := decide_eq_true h3i
        have h3n : decide (8704 < r.size) = true := decide_eq_true h3
        have hb := HBD.out.2 (.inr (.inl h3))
        go_wp2_with fail
        go_meet
        case rel => exact ⟨congrArg Value.bool (decide_eq_true hb).symm, J3⟩
      have h3i : ¬ (8704 : Int) < (r.size : Int) := by omega
      have h3d : decide ((8704 : Int) < (r.size : Int)) = false := decide_eq_false h3i
      have h3n : decide (8704 < r.size) = false := decide_eq_false h3
      go_wp2_with fail
      refine (cW w3).mono ?_
      rintro e w4 ⟨rfl, hb4⟩
      have J4 := Lib.hid (And.intro (J3.out.1.step hb4) (bstep J3.out.2 hb4))
      have hci4 := J4.out.1.ind h4
      clear hb4 hcs hck hci J3 hc2 hc3 hc4 hc5
      by_cases ht : t = s
      rotate_left
      · have htb : (t.toList != s.toList) = true := by rw [bne_bytes, decide_eq_false ht]; rfl
        have hte : (t.toList == s.toList) = false := by rw [beq_bytes, decide_eq_false ht]
        have hb := HBD.out.2 (.inr (.inr (.inl ht)))
        go_wp2_with fail
        go_meet
        case rel => exact ⟨congrArg Value.bool (decide_eq_true hb).symm, J4⟩
      have htb : (t.toList != s.toList) = false := by rw [bne_bytes, decide_eq_true ht]; rfl
      have hte : (t.toList == s.toList) = true := by rw [beq_bytes, decide_eq_true ht]
      by_cases hx : decide (4 < nd) = decide (0 < r.ind)
      rotate_left
      · have hxb : (b1 != b2) = true := by rw [bne_iff_ne, ← HB1.out.2, ← HB2.out.2]; exact hx
        have hxe := bools_ne hxb
        have hb := HBD.out.2 (.inr (.inr (.inr (.inl hx))))
        go_wp2_with fail
        go_meet
        case rel => exact ⟨congrArg Value.bool (decide_eq_true hb).symm, J4⟩
      have hxb : (b1 != b2) = false := by rw [← HB1.out.2, ← HB2.out.2, hx]; simp
      have hxe := bools_eq (b1 := b1) (b2 := b2) (by rw [hxb]; decide)
      by_cases hi : n ≤ r.ind
      · have hii : (n : Int) ≤ (r.ind : Int) := by omega
        have hid : decide ((n : Int) ≤ (r.ind : Int)) = true := decide_eq_true hii
        have hin : decide (n ≤ r.ind) = true := decide_eq_true hi
        have hb := HBD.out.2 (.inr (.inr (.inr (.inr hi))))
        go_wp2_with fail
        go_meet
        case rel => exact ⟨congrArg Value.bool (decide_eq_true hb).symm, J4⟩
      · have hii : ¬ (n : Int) ≤ (r.ind : Int) := by omega
        have hid : decide ((n : Int) ≤ (r.ind : Int)) = false := decide_eq_false hii
        have hin : decide (n ≤ r.ind) = false := decide_eq_false hi
        have hb : ¬ badR n s r := fun hb => by
          rcases HBD.out.1 hb with ⟨h1, h2⟩ | h1 | h1 | h1 | h1
          · exact HK12.out ⟨h1, h2⟩
          · exact h3 h1
          · exact h1 ht
          · exact h1 hx
          · exact hi h1
        go_wp2_with fail
        go_meet
        case rel => exact ⟨congrArg Value.bool (decide_eq_false hb).symm, J4⟩
  case rest =>
    obtain ⟨rfl, K⟩ := hcut
    by_cases hbad : badR n s r
    · rw [decide_eq_true hbad]
      have HE : Hid (shapedR img s r = false) := Lib.hid (by rw [HE1.out, if_pos hbad])
      go_wp2
      go_ret
      rw [HE.out]
      exact ⟨rfl, K.out.2⟩
    rw [decide_eq_false hbad]
    have hin : r.ind < n := Nat.lt_of_not_le fun h => hbad (HBD.out.2 (.inr (.inr (.inr (.inr h)))))
    have hs87 : r.size ≤ 8704 := Nat.le_of_not_lt fun h => hbad (HBD.out.2 (.inr (.inl h)))
    have hnd68 := hnc.out hs87
    have hx0 : decide (4 < nd) = decide (0 < r.ind) := Classical.byContradiction fun h => hbad (HBD.out.2 (.inr (.inr (.inr (.inl h)))))
    have HE2 : Hid (shapedR img s r = if (∀ k : Nat, k < 4 → (decide (k < nd) = decide (0 < r.bl.getD k 0))) then (if 4 < nd then decide (tailW img r = List.replicate (tailW img r).length 0) else true) else false) := Lib.hid (by rw [HE1.out, if_neg hbad])
    clear HE1 HBD hbad hx0 hcs hck hci J3
    go_wp2_with fail
    go_loopg [7] 4 (fun gk s7 wr => ∃ k : Nat, k ≤ 4 ∧ 4 - k ≤ gk ∧ s7 = .int .i64 k ∧ wr = wc ∧ Hid (∀ j, j < k → decide (j < nd) = decide (0 < r.bl.getD j 0)))
    case atStart => exact ⟨0, Nat.zero_le _, by omega, rfl, rfl, Lib.hid fun j hj => by omega⟩
    case round =>
      obtain ⟨k, hk4, hgk, rfl, rfl, Q⟩ := hrel
      by_cases hlt : k < 4
      · have hki : (k : Int) < 4 := by omega
        have hcell := K.out.1.bl (j := k) (by omega)
        have HQN : Hid (decide (k < nd) = decide (0 < r.bl.getD k 0) → ∀ j, j < k + 1 → decide (j < nd) = decide (0 < r.bl.getD j 0)) := Lib.hid fun h j hj => by
          by_cases e : j = k
          · subst e; exact h
          · exact Q.out j (by omega)
        have HQF : Hid (¬ decide (k < nd) = decide (0 < r.bl.getD k 0) → shapedR img s r = false) := Lib.hid fun h => by rw [HE2.out, if_neg (fun h2 => h (h2 k hlt))]
        generalize r.bl.getD k 0 = x at hcell HQN HQF
        obtain ⟨b1, hb1⟩ : ∃ b : Bool, decide ((k : Int) < (nd : Int)) = b := ⟨_, rfl⟩
        obtain ⟨b2, hb2⟩ : ∃ b : Bool, decide ((0 : Int) < (x : Int)) = b := ⟨_, rfl⟩
        have hb1n : decide (k < nd) = b1 := by rw [← hb1, decide_eq_decide]; omega
        have hb2n : decide (0 < x) = b2 := by rw [← hb2, decide_eq_decide]; omega
        by_cases hbb : b1 = b2
        · have hbx : (b1 != b2) = false := by rw [hbb]; simp
          have hbe := bools_eq (b1 := b1) (b2 := b2) (by rw [hbx]; decide)
          have QN := Lib.hid (HQN.out (by rw [hb1n, hb2n]; exact hbb))
          clear hbb
          go_wp2_with fail
          go_roundg (4 - (k + 1))
          case measure => omega
          case rel => exact ⟨k + 1, by omega, by omega, by go_num, rfl, QN⟩
        · have hbx : (b1 != b2) = true := by rw [bne_iff_ne]; exact hbb
          have hbe := bools_ne hbx
          have HE := Lib.hid (HQF.out (by rw [hb1n, hb2n]; exact hbb))
          clear hbb
          go_wp2
          go_ret
          rw [HE.out]
          exact ⟨rfl, K.out.2⟩
      · have : k = 4 := by omega
        subst this
        have HE3 : Hid (shapedR img s r = if 4 < nd then decide (tailW img r = List.replicate (tailW img r).length 0) else true) := Lib.hid (by rw [HE2.out, if_pos Q.out])
        clear HE2 Q
        by_cases h4n : 4 < nd
        rotate_left
        · have h4i : ¬ (4 : Int) < (nd : Int) := by omega
          have h4d : decide ((4 : Int) < (nd : Int)) = false := decide_eq_false h4i
          have h4dn : decide (4 < nd) = false := decide_eq_false h4n
          have HE : Hid (shapedR img s r = true) := Lib.hid (by rw [HE3.out, if_neg h4n])
          go_wp2
          go_ret
          rw [HE.out]
          exact ⟨rfl, K.out.2⟩
        have h4i : (4 : Int) < (nd : Int) := by omega
        have h4d : decide ((4 : Int) < (nd : Int)) = true := decide_eq_true h4i
        have h4dn : decide (4 < nd) = true := decide_eq_true h4n
        have hci := K.out.1.ind h4
        obtain ⟨b, o, rfl, hb, hcS⟩ := (H.out.step K.out.2).str hin
        have hsz := blk_fit_size HF.out (i := r.ind) (by omega)
        have hini : (r.ind : Int) < (n : Int) := by omega
        generalize blk img r.ind = sb at hcS hsz HTW
        generalize r.ind = q at *
        obtain ⟨m, hm⟩ : ∃ m, m = nd - 4 := ⟨_, rfl⟩
        rw [← hm] at HTW
        have hmi : (nd : Int) - 4 = (m : Int) := by omega
        have hm64 : m ≤ 64 := by omega
        have hw1 : IntKind.i64.wrap (2 * (m : Int)) = 2 * (m : Int) := by rw [IntKind.wrap_i64]; omega
        have hn1 : (2 * (m : Int)).toNat = 2 * m := by omega
        have ho1 : (0 : Int) ≤ 2 * (m : Int) := by omega
        have ho3 : 2 * (m : Int) ≤ (sb.size : Int) := by omega
        have hE : sb.extract (2 * m) sb.size = mkB (tailW img r) := by
          rw [HTW.out]
          apply ByteArray.ext
          apply Array.ext'
          rw [ext_toList]
          simp only [mkB, List.toList_toArray]
          rw [List.take_of_length_le (by simp)]
        have hts : (sb.extract (2 * m) sb.size).size = (tailW img r).length := by rw [hE, mkB_size]
        have hcmp : ∀ x : ByteArray, x = zeroN (tailW img r).length → ((sb.extract (2 * m) sb.size).toList != x.toList) = !decide (tailW img r = List.replicate (tailW img r).length 0) := fun x hx => by
          rw [bne_bytes, hx, hE, zeroN_mkB]
          congr 1
          rw [decide_eq_decide, mkB_inj]
        have hk2 : (tailW img r).length ≤ 128 := by rw [HTW.out, List.length_drop]; simp; omega
        have HE4 : Hid (shapedR img s r = decide (tailW img r = List.replicate (tailW img r).length 0)) := Lib.hid (by rw [HE3.out, if_pos h4n])
        clear hE HE3 hm HTW
        obtain ⟨bb, hbb⟩ : ∃ b : Bool, decide (tailW img r = List.replicate (tailW img r).length 0) = b := ⟨_, rfl⟩
        rw [hbb] at hcmp HE4
        clear hbb
        generalize (tailW img r).length = tl at hts hcmp hk2
        obtain ⟨tx, htx⟩ : ∃ x, x = sb.extract (2 * m) sb.size := ⟨_, rfl⟩
        rw [← htx] at hts hcmp
        have hex : sb.extract (2 * m) 128 = tx := by rw [htx, hsz]
        have hex2 : sb.extract (2 * m) sb.size = tx := htx.symm
        clear htx
        subst hts
        have hne := hcmp (zeroN tx.size) rfl
        have heq : (tx.toList == (zeroN tx.size).toList) = bb := by
          have h : (!(tx.toList == (zeroN tx.size).toList)) = !bb := hne
          revert h
          cases (tx.toList == (zeroN tx.size).toList) <;> cases bb <;> simp
        clear hcmp
        go_wp2_with (at_make; refine wpList_make_full _ rfl _ _ 63 rfl wr.heap.size 5 i0 _ 1 Try.underlying63 hi0 hz0 hz1 .i64 .i64 tx.size tx.size tx.size rfl rfl rfl rfl ?_ ?_ ?_ ?_)
        · rw [hz2]; omega
        · simp only [maxLen]; omega
        · exact Nat.le_refl _
        intro w5 ho5 hg5
        have hb5 : Below wr.heap.size wr w5 := (Below.refl _ _).grown hg5 (Nat.le_refl _) (by intro k hk; cases hk)
        have hcv5 := made_conv ho5
        have JF := Lib.hid (bstep K.out.2 hb5)
        clear ho5 hg5 hb5
        generalize zeroN tx.size = zz at *
        cases bb with
        | true =>
          have hne2 : (tx.toList != zz.toList) = false := hne
          clear hne
          go_wp2
          go_ret
          rw [HE4.out]
          exact ⟨rfl, JF.out⟩
        | false =>
          have hne2 : (tx.toList != zz.toList) = true := hne
          clear hne
          go_wp2
          go_ret
          rw [HE4.out]
          exact ⟨rfl, JF.out⟩

end Go.Proofs.Ytcfmpmcdfllibaa
