/-
  The document's own answer: an inode's bytes.
-/
import Derived.Test.YtcfmpmcdfllibaaG16
import Derived.Test.YtcfmpmcdfllibaaG22
import Derived.Test.YtcfmpmcdfllibaaG06
namespace Go.Proofs.Ytcfmpmcdfllibaa
open Go.RowKit

theorem mkB_append (a b : List UInt8) : mkB a ++ mkB b = mkB (a ++ b) := by
  apply ByteArray.ext
  rw [ByteArray.data_append]
  apply Array.ext'
  simp [mkB]
theorem made_conv {w w1 : World} {g k : Nat} (ho : w1.ownsRow w.heap.size 5 1 (.slice (some ⟨g, 0, none⟩) k k) k (madeCells #[.int .u8 0] k).toList) :
    (convert 63 9 (.slice (some ⟨g, 0, none⟩) k k)).run Try.prog w1 = .ok (.string (zeroN k)) w1 := by
  rcases Nat.eq_zero_or_pos k with h0 | h0
  · subst h0
    have := run_convert_bytes_arg (P := Try.prog) w1 63 5 Try.underlying63 Try.underlying5 g 0 0 0 [] rfl (fun i hi => by simp at hi) 9 Try.underlying9
    exact this
  · have hb : Byt w1 g (List.replicate k 0) := by
      rw [toList_madeCells_one] at ho
      exact Byt.of_own (l := List.replicate k 0) (by simpa using ho) h0
    rw [zeroN_mkB]
    exact hb.conv (P := Try.prog) Try.underlying63 Try.underlying5 Try.underlying9 k k (by simp)
theorem be_four (n : Nat) : beL n 4 = beL (n / 65536) 2 ++ beL n 2 := by
  have e : n / 65536 / 256 = n / 16777216 := by omega
  simp [beL, List.range, List.range.loop, e]
/-- Its bytes ahead of the zeros, as far as its j-th block. -/
def headJ (r : RecI) (j : Nat) : List UInt8 := UInt8.ofNat r.kind :: beL r.size 4 ++ ((r.bl.take j).flatMap fun p => beL p 2)
theorem headJ_succ {r : RecI} {j : Nat} (h : j < r.bl.length) : headJ r (j + 1) = headJ r j ++ beL (r.bl.getD j 0) 2 := by
  unfold headJ
  rw [List.take_add_one, List.getElem?_eq_getElem h, List.getD_eq_getElem?_getD, List.getElem?_eq_getElem h]
  simp only [Option.toList_some, List.flatMap_append, List.flatMap_cons, List.flatMap_nil, List.append_nil, List.append_assoc, Option.getD_some, List.cons_append]
theorem headJ_end {r : RecI} (h : r.bl.length = 4) : headJ r 4 ++ beL r.ind 2 = headR r := by
  unfold headJ headR
  rw [List.take_of_length_le (by omega), be_four]
  simp
theorem be_len (n k : Nat) : (beL n k).length = k := by simp [beL]
theorem headJ_len {r : RecI} {j : Nat} (h : j ≤ r.bl.length) : (headJ r j).length = 5 + 2 * j := by
  unfold headJ
  rw [List.length_append, List.length_cons, be_len, flat2_length, List.length_take]; omega
/-- As much as its own cells ask. -/
structure OkW (r : RecI) : Prop where
  bl : r.bl.length = 4
  kind : r.kind ≤ 255
  size : r.size < 4294967296
  big : ∀ k ∈ r.bl, k ≤ 9223372036854775807
  ind : r.ind ≤ 9223372036854775807
def wriV (g : Nat) (r : RecI) : Nat → Value → World → Prop
  | 0 => eqV (.pointer (some ⟨g, 0, none⟩))
  | 1 => eqV (.int .i64 (r.kind : Int))
  | 2 => eqV (.int .u8 (r.kind : Int))
  | 4 => eqV (.string (mkB [UInt8.ofNat r.kind]))
  | 5 => eqV (.pointer (some ⟨g, 1, none⟩))
  | 6 => eqV (.int .i64 (r.size : Int))
  | 7 => eqV (.int .u64 (r.size : Int))
  | 8 => eqV (.string (mkB (beL r.size 4)))
  | 9 => eqV (.string (mkB (UInt8.ofNat r.kind :: beL r.size 4)))
  | 10 => eqV (.string (mkB (UInt8.ofNat r.kind :: beL r.size 4)))
  | 3 => bytV 1 [UInt8.ofNat r.kind]
  | _ => fun _ _ => True
theorem wriV_stable (g : Nat) (r : RecI) (j : Nat) (v : Value) (w w' : World) (hs : Below w.heap.size w w') (h : wriV g r j v w) : wriV g r j v w' := by
  match j, h with
  | 0, h => exact h
  | 1, h => exact h
  | 2, h => exact h
  | 4, h => exact h
  | 5, h => exact h
  | 6, h => exact h
  | 7, h => exact h
  | 8, h => exact h
  | 9, h => exact h
  | 10, h => exact h
  | 3, h => obtain ⟨b, e, h⟩ := h; exact ⟨b, e, h.step hs⟩
  | _ + 11, _ => trivial

set_option maxRecDepth 100000 in
set_option maxHeartbeats 4000000 in
theorem refWrite_any (r : RecI) (hr : OkW r) (w : World) : Calls Try.prog 66 #[valI r] w fun e w' => e = .returned (.string (textR r)) ∧ Below w.heap.size w w' := by
  have hmx : Try.prog.follows .mixedOrders = true := by kernel_rfl
  obtain ⟨i0, hi0, hz0, hz1, hz2⟩ := info_parts infoUA
  have HR := Lib.hid hr
  have hk : (r.kind : Int) ≤ 255 := by have := hr.kind; omega
  have hs : (r.size : Int) < 4294967296 := by have := hr.size; omega
  have cb4 := fun W => refBe_any r.size 4 W (by have := hr.size; omega) (by omega) (by omega)
  have cb2 := fun (x : Nat) (hx : x ≤ 9223372036854775807) W => refBe_any x 2 W (by omega) (by omega) (by omega)
  have hB := BI.new w r
  have hb0 := (Below.refl w.heap.size w).alloc (Nat.le_refl _) (.cells (cellsI r).toArray 27)
  have HB := Lib.hid (And.intro hB hb0)
  clear hr hB hb0
  unfold valI
  go_enter Try.func66, Try.ntmps66
  go_upto_region 1 with fail
  obtain ⟨g, hg⟩ : ∃ g, g = w.heap.size := ⟨_, rfl⟩
  rw [← hg] at HB ⊢
  obtain ⟨w1, hw1⟩ : ∃ w1, w1 = w.alloc (.cells (cellsI r).toArray 27) := ⟨_, rfl⟩
  rw [← hw1] at HB ⊢
  have HG := Lib.hid hg
  clear hg hw1
  refine wp_region_rel (fun w' => Below w1.heap.size w1 w') (fun _ w w' => Below w.heap.size w w') (wriV g r) hmx (by kernel_rfl) ((Below.refl _ _).drew) (fun i w w' hC hs => bstep hC hs) (fun i j v w w' _ hs h => wriV_stable g r j v w w' hs h) ?_ ?_
  · refine ⟨?_, ?_, ?_, ?_, ?_, ?_, ?_, ?_, ?_, ?_, ?_, trivial⟩
    · intro V W hC hd K hK
      clear hd
      simp only [laidL, Act.put, List.setIfInBounds_toArray, List.set_cons_zero, List.set_cons_succ] at hK ⊢
      go_simp
      exact hK _ _ ⟨Below.refl _ _, rfl⟩
    · intro V W hC hd K hK
      have q0 : wriV g r 0 (V 0) W := hd.1
      have e0 : V 0 = .pointer (some ⟨g, 0, none⟩) := q0
      clear q0
      clear hd
      simp only [laidL, Act.put, List.setIfInBounds_toArray, List.set_cons_zero, List.set_cons_succ] at hK ⊢
      generalize V 0 = v0 at e0 hK ⊢
      subst e0
      have hc : W.cell? ⟨g, 0, none⟩ = some (.int .i64 (r.kind : Int)) := (HB.out.1.step hC).cell rfl
      go_simp
      exact hK _ _ ⟨Below.refl _ _, rfl⟩
    · intro V W hC hd K hK
      have q1 : wriV g r 1 (V 1) W := hd.1
      have e1 : V 1 = .int .i64 (r.kind : Int) := q1
      clear q1
      clear hd
      simp only [laidL, Act.put, List.setIfInBounds_toArray, List.set_cons_zero, List.set_cons_succ] at hK ⊢
      generalize V 1 = v1 at e1 hK ⊢
      subst e1
      go_simp
      exact hK _ _ ⟨Below.refl _ _, congrArg (Value.int .u8) (by first | rfl | (rw [IntKind.wrap_u8]; omega))⟩
    · intro V W hC hd K hK
      have q2 : wriV g r 2 (V 2) W := hd.1
      have e2 : V 2 = .int .u8 (r.kind : Int) := q2
      clear q2
      clear hd
      simp only [laidL, Act.put, List.setIfInBounds_toArray, List.set_cons_zero, List.set_cons_succ] at hK ⊢
      generalize V 2 = v2 at e2 hK ⊢
      subst e2
      go_simp
      exact hK _ _ ⟨(Below.refl _ _).alloc (Nat.le_refl _) _, _, rfl, Byt.of_lit [UInt8.ofNat r.kind] _ (by simp; omega)⟩
    · intro V W hC hd K hK
      have q3 : wriV g r 3 (V 3) W := hd.1
      have q3 : bytV 1 [UInt8.ofNat r.kind] (V 3) W := q3
      have p3 := bytV_out q3
      clear q3
      cases p3
      rename_i b3 hh
      have e3 := hh.1
      have h3 := hh.2
      clear hh
      clear hd
      simp only [laidL, Act.put, List.setIfInBounds_toArray, List.set_cons_zero, List.set_cons_succ] at hK ⊢
      generalize V 3 = v3 at e3 hK ⊢
      subst e3
      have hcv := h3.conv (P := Try.prog) Try.underlying63 Try.underlying5 Try.underlying9 1 1 rfl
      go_simp
      exact hK _ _ ⟨Below.refl _ _, rfl⟩
    · intro V W hC hd K hK
      clear hd
      simp only [laidL, Act.put, List.setIfInBounds_toArray, List.set_cons_zero, List.set_cons_succ] at hK ⊢
      go_simp
      exact hK _ _ ⟨Below.refl _ _, rfl⟩
    · intro V W hC hd K hK
      have q5 : wriV g r 5 (V 5) W := hd.1
      have e5 : V 5 = .pointer (some ⟨g, 1, none⟩) := q5
      clear q5
      clear hd
      simp only [laidL, Act.put, List.setIfInBounds_toArray, List.set_cons_zero, List.set_cons_succ] at hK ⊢
      generalize V 5 = v5 at e5 hK ⊢
      subst e5
      have hc := (HB.out.1.step hC).size
      go_simp
      exact hK _ _ ⟨Below.refl _ _, rfl⟩
    · intro V W hC hd K hK
      have q6 : wriV g r 6 (V 6) W := hd.1
      have e6 : V 6 = .int .i64 (r.size : Int) := q6
      clear q6
      clear hd
      simp only [laidL, Act.put, List.setIfInBounds_toArray, List.set_cons_zero, List.set_cons_succ] at hK ⊢
      generalize V 6 = v6 at e6 hK ⊢
      subst e6
      go_simp
      exact hK _ _ ⟨Below.refl _ _, congrArg (Value.int .u64) (by first | rfl | (rw [IntKind.wrap_u64]; omega))⟩
    · intro V W hC hd K hK
      have q7 : wriV g r 7 (V 7) W := hd.1
      have e7 : V 7 = .int .u64 (r.size : Int) := q7
      clear q7
      clear hd
      simp only [laidL, Act.put, List.setIfInBounds_toArray, List.set_cons_zero, List.set_cons_succ] at hK ⊢
      generalize V 7 = v7 at e7 hK ⊢
      subst e7
      go_simp
      go_at_call 84
      refine (cb4 _).mono ?_
      rintro e w3 ⟨rfl, hb3⟩
      exact hK _ _ ⟨hb3, rfl⟩
    · intro V W hC hd K hK
      have q4 : wriV g r 4 (V 4) W := hd.1
      have e4 : V 4 = .string (mkB [UInt8.ofNat r.kind]) := q4
      clear q4
      have q8 : wriV g r 8 (V 8) W := hd.2.1
      have e8 : V 8 = .string (mkB (beL r.size 4)) := q8
      clear q8
      clear hd
      simp only [laidL, Act.put, List.setIfInBounds_toArray, List.set_cons_zero, List.set_cons_succ] at hK ⊢
      generalize V 4 = v4 at e4 hK ⊢
      subst e4
      generalize V 8 = v8 at e8 hK ⊢
      subst e8
      have hno : ¬ 9223372036854775807 < (mkB [UInt8.ofNat r.kind]).size + (mkB (beL r.size 4)).size := by rw [mkB_size, mkB_size, be_len]; simp
      go_simp
      exact hK (.string (mkB [UInt8.ofNat r.kind] ++ mkB (beL r.size 4))) _ ⟨Below.refl _ _, congrArg Value.string (mkB_append _ _)⟩
    · intro V W hC hd K hK
      have q9 : wriV g r 9 (V 9) W := hd.1
      have e9 : V 9 = .string (mkB (UInt8.ofNat r.kind :: beL r.size 4)) := q9
      clear q9
      clear hd
      simp only [laidL, Act.put, List.setIfInBounds_toArray, List.set_cons_zero, List.set_cons_succ] at hK ⊢
      generalize V 9 = v9 at e9 hK ⊢
      subst e9
      go_simp
      exact hK _ _ ⟨Below.refl _ _, rfl⟩
  · intro V W hC hV
    have e10 : V 10 = .string (mkB (UInt8.ofNat r.kind :: beL r.size 4)) := hV 10 (show 10 < 11 by decide)
    clear hV
    simp only [laidL, Act.put, List.setIfInBounds_toArray, List.set_cons_zero, List.set_cons_succ]
    generalize V 10 = v10 at e10 ⊢
    subst e10
    have JJ : Hid (BI W g r ∧ Below w.heap.size w W) := Lib.hid ⟨HB.out.1.step hC, by rw [← HG.out]; exact HB.out.2.trans (hC.mono (Nat.le_of_lt HB.out.1.lt))⟩
    clear hC
    have h4 := HR.out.bl
    go_wp2
    go_loopg [3, 4] 4 (fun gk s3 s4 wr => ∃ j : Nat, j ≤ 4 ∧ 4 - j ≤ gk ∧ s4 = .int .i64 j ∧ s3 = .string (mkB (headJ r j)) ∧ Hid (BI wr g r ∧ Below w.heap.size w wr))
    case atStart => exact ⟨0, Nat.zero_le _, by omega, rfl, congrArg (fun l => Value.string (mkB l)) (by simp [headJ]), JJ⟩
    case round =>
      clear JJ
      obtain ⟨j, hj, hgk, rfl, rfl, J⟩ := hrel
      by_cases hlt : j < 4
      · have hji : (j : Int) < 4 := by omega
        have hcell := J.out.1.bl (j := j) (by omega)
        have hbg : r.bl.getD j 0 ≤ 9223372036854775807 := HR.out.big _ (by rw [List.getD_eq_getElem?_getD, List.getElem?_eq_getElem (by omega)]; exact List.getElem_mem _)
        have cbj := cb2 _ hbg
        have hJ : mkB (headJ r j) ++ mkB (beL (r.bl.getD j 0) 2) = mkB (headJ r (j + 1)) := by rw [mkB_append, headJ_succ (by omega)]
        have HJ := Lib.hid hJ
        have hno : ¬ 9223372036854775807 < (mkB (headJ r j)).size + (mkB (beL (r.bl.getD j 0) 2)).size := by rw [mkB_size, mkB_size, be_len, headJ_len (by omega)]; omega
        have hbgi : (r.bl.getD j 0 : Int) ≤ 9223372036854775807 := by omega
        have hwb : IntKind.u64.wrap (r.bl.getD j 0 : Int) = (r.bl.getD j 0 : Int) := by rw [IntKind.wrap_u64]; omega
        clear hJ
        generalize r.bl.getD j 0 = x at *
        go_wp2_with fail
        refine (cbj _).mono ?_
        rintro e w3 ⟨rfl, hb3⟩
        have JN := Lib.hid (And.intro (J.out.1.step hb3) (bstep J.out.2 hb3))
        clear hb3 J
        go_wp2
        go_roundg (4 - (j + 1))
        case measure => omega
        case rel => exact ⟨j + 1, by omega, by omega, by go_num, by rw [HJ.out], JN⟩
      · have : j = 4 := by omega
        subst this
        have hci := J.out.1.ind h4
        have cbi := cb2 _ HR.out.ind
        have hbi := HR.out.ind
        have hwb : IntKind.u64.wrap (r.ind : Int) = (r.ind : Int) := by rw [IntKind.wrap_u64]; omega
        have hJ : mkB (headJ r 4) ++ mkB (beL r.ind 2) = mkB (headR r) := by rw [mkB_append, headJ_end h4]
        have hno : ¬ 9223372036854775807 < (mkB (headJ r 4)).size + (mkB (beL r.ind 2)).size := by rw [mkB_size, mkB_size, be_len, headJ_len (by omega)]; omega
        have hsz : (mkB (headR r)).size = 15 := by rw [← headJ_end h4, mkB_size, List.length_append, be_len, headJ_len (by omega)]
        have hE : mkB (headR r) ++ zeroN 17 = textR r := by rw [zeroN_mkB, mkB_append]; rfl
        have HE := Lib.hid hE
        clear hE
        generalize mkB (headR r) = t at hJ hsz HE
        generalize r.ind = x at *
        generalize mkB (headJ r 4) = t0 at *
        generalize mkB (beL x 2) = t1 at *
        go_wp2_with fail
        refine (cbi _).mono ?_
        rintro e w3 ⟨rfl, hb3⟩
        have JN := Lib.hid (bstep J.out.2 hb3)
        clear hb3 J
        have hno2 : ¬ 9223372036854775807 < t.size + (zeroN 17).size := by rw [hsz]; decide
        have h17 : (32 : Int) - (t.size : Int) = 17 := by omega
        clear HB
        go_wp2_with (at_make; refine wpList_make_full _ rfl _ _ 63 rfl w3.heap.size 5 i0 _ 1 Try.underlying63 hi0 hz0 hz1 .i64 .i64 17 17 17 rfl rfl rfl rfl ?_ ?_ ?_ ?_)
        · rw [hz2]; omega
        · simp only [maxLen]; omega
        · exact Nat.le_refl _
        intro w4 ho4 hg4
        have hb4 : Below w3.heap.size w3 w4 := (Below.refl _ _).grown hg4 (Nat.le_refl _) (by intro k hk; cases hk)
        have hcv := made_conv ho4
        have JF := Lib.hid (bstep JN.out hb4)
        clear ho4 hg4 hb4 JN
        generalize zeroN 17 = z at *
        go_wp2
        go_ret
        rw [← HE.out]
        exact ⟨rfl, JF.out⟩

end Go.Proofs.Ytcfmpmcdfllibaa

/-
  The document's own answer: the data blocks that an inode names.
-/
namespace Go.Proofs.Ytcfmpmcdfllibaa
open Go.RowKit

/-- The k-th data block. -/
def blkS (img : List ByteArray) (r : RecI) (k : Nat) : Nat := if k < 4 then r.bl.getD k 0 else wordN (blk img r.ind) (k - 4)
def dataS (img : List ByteArray) (r : RecI) (n : Nat) : List Nat := (List.range n).map (blkS img r)
theorem dataS_length (img : List ByteArray) (r : RecI) (n : Nat) : (dataS img r n).length = n := by simp [dataS]
theorem dataS_succ (img : List ByteArray) (r : RecI) (n : Nat) : dataS img r (n + 1) = dataS img r n ++ [blkS img r n] := by simp [dataS, List.range_succ]
/-- Of an inode in an image they are those that the program looks at. -/
theorem dataS_rec {img : List ByteArray} (hf : FitA img) {i : Nat} (hi : i ≤ 1024) (hn : needN (recI img i).size ≤ 68) (h4 : 4 < needN (recI img i).size → 0 < (recI img i).ind ∧ (recI img i).ind < img.length) : dataS img (recI img i) (needN (recI img i).size) = dataR (recI img i) := by
  have hr := recI_ok img i hi
  have hl := dataR_length hr
  refine List.ext_getElem (by rw [dataS_length, hl]; omega) fun k h1 h2 => ?_
  rw [dataS_length] at h1
  have h3 : k < (recI img i).bl.length + (recI img i).ls.length := by rw [hr.bl, hr.ls]; omega
  simp only [dataS, List.getElem_map, List.getElem_range, dataR, List.getElem_take]
  unfold blkS
  split
  · next hk => rw [List.getElem_append_left (by rw [hr.bl]; exact hk), List.getD_eq_getElem?_getD, List.getElem?_eq_getElem (by rw [hr.bl]; exact hk)]; rfl
  · next hk =>
    have h5 := h4 (by omega)
    rw [List.getElem_append_right (by rw [hr.bl]; omega)]
    have e : (recI img i).ls = (List.range 64).map (wordN (blkI img (recI img i).ind)) := rec_ls2 (by omega)
    simp only [e, List.getElem_map, List.getElem_range, hr.bl, blkI_of hf h5.2]

set_option maxRecDepth 100000 in
set_option maxHeartbeats 4000000 in
theorem refNamed_any (A : Option Addr) (n c : Nat) (img : List ByteArray) (r : RecI) (w : World) (h : Reads w w.heap.size 1 A n (encS img)) (hf : FitA img) (h4 : r.bl.length = 4) (hN : needN r.size ≤ 68) (hi : 4 < needN r.size → r.ind < n) :
    Calls Try.prog 35 #[.slice A n c, valI r] w (RowP w (dataS img r (needN r.size))) := by
  obtain ⟨i0, hi0, hz0, hz1, hz2⟩ := info_parts infoI
  have H := Lib.hid h
  have hl := h.lenS
  have h5 : n ≤ 512 := by have := hf.1; omega
  have HF := Lib.hid hf
  have cN := fun W => refNeeds_any r.size (by unfold needN at hN; omega) W
  have cne := fun (t : ByteArray) (ht : t.size ≤ 8) W => refNe_any t W ht
  have HB0 := Lib.hid (And.intro (BI.new w r) ((Below.refl w.heap.size w).alloc (Nat.le_refl _) (.cells (cellsI r).toArray 27)))
  have hsB : w.heap.size < (w.alloc (.cells (cellsI r).toArray 27)).heap.size := by simp
  unfold RowP
  rw [dataS_length]
  obtain ⟨N, hNN⟩ : ∃ N, N = needN r.size := ⟨_, rfl⟩
  rw [← hNN] at cN hN hi ⊢
  clear h hf hNN
  unfold valI
  go_enter Try.func35, Try.ntmps35
  go_upto_region 1 with fail
  generalize w.alloc (.cells (cellsI r).toArray 27) = w1 at HB0 hsB ⊢
  have HO0 := Lib.hid (own_nil (w := w1) (base := w1.heap.size) (e := 3) (size := 1))
  obtain ⟨z, hz⟩ : ∃ z, z = w1.heap.size := ⟨_, rfl⟩
  have HZ := Lib.hid hz
  rw [← hz] at HO0 hsB
  clear hz
  have HBW : Hid (∀ wr, Below z w1 wr → BI wr w.heap.size r ∧ Below w.heap.size w wr) := Lib.hid (fun wr hb => ⟨(hb.block w.heap.size hsB).trans HB0.out.1, HB0.out.2.trans (hb.mono (by omega))⟩)
  go_wp2_with fail
  go_loopg [5, 6, 7] N (fun gk s5 s6 s7 wr => ∃ (k : Nat) (A2 : Option Addr) (c2 : Nat), k ≤ N ∧ N - k ≤ gk ∧ s6 = .int .i64 k ∧ s5 = .slice A2 k c2 ∧ Hid (wr.ownsRow z 3 1 (.slice A2 k c2) k (encN (dataS img r k)) ∧ Below z w1 wr))
  case atStart => exact ⟨0, none, 0, Nat.zero_le _, by omega, rfl, rfl, Lib.hid ⟨HO0.out, by rw [HZ.out]; exact Below.refl _ _⟩⟩
  case round =>
    obtain ⟨k, A2, c2, hk, hgk, rfl, rfl, J⟩ := hrel
    have HBR := Lib.hid (HBW.out wr J.out.2)
    have hcs := HBR.out.1.size
    by_cases hlt : k < N
    · have hki : (k : Int) < (N : Int) := by omega
      have HS := Lib.hid (dataS_succ img r k)
      have hwz : z ≤ wr.heap.size := by have := J.out.2.size; rw [HZ.out]; exact this
      by_cases hk4 : k < 4
      · have hk4i : (k : Int) < 4 := by omega
        have hcell := HBR.out.1.bl (j := k) (by omega)
        have HV : Hid (blkS img r k = r.bl.getD k 0) := Lib.hid (if_pos hk4)
        generalize r.bl.getD k 0 = x at hcell HV
        go_wp2_with (first | (go_at_call 38; refine (cN _).mono ?_; rintro e w3 ⟨rfl, rfl⟩) | (at_builtin; refine wpList_append_reads _ rfl (.tmp 17) (.tmp 22) 38 rfl z 3 i0 _ 1 8 Try.underlying38 hi0 hz0 hz1 hz2 rfl (by omega) (.slice A2 k c2) k (encN (dataS img r k)) rfl (own_alloc J.out.1 _) _ (some ⟨wr.heap.size, 0, none⟩) 1 1 (encN [x]) rfl (reads_new wr _ 3 1 1 rfl) (encN_one _) (by unfold maxLen; omega) (by omega) (by simp; omega) ?_; intro A6 c6 w6 ho6 hg6 _))
        have JN : Hid (w6.ownsRow z 3 1 (.slice A6 (k + 1) c6) (k + 1) (encN (dataS img r (k + 1))) ∧ Below z w1 w6) := Lib.hid ⟨by rw [HS.out, HV.out, encN_app]; exact ho6, (J.out.2.alloc hwz _).grown hg6 (by simp; omega) (fun q hq => own_row_ge J.out.1 _ hq)⟩
        clear ho6 hg6 J
        go_roundg (N - (k + 1))
        case measure => omega
        case rel => exact ⟨k + 1, A6, c6, by omega, by omega, by go_num, rfl, JN⟩
      · have hk4i : ¬ (k : Int) < 4 := by omega
        have hk4d : decide ((k : Int) < 4) = false := decide_eq_false hk4i
        have hin := hi (by omega)
        have hci := HBR.out.1.ind h4
        obtain ⟨b, o, rfl, hb, hcS⟩ := (H.out.step HBR.out.2).str hin
        have hsz := blk_fit_size HF.out (i := r.ind) (by omega)
        have hini : (r.ind : Int) < (n : Int) := by omega
        have HV0 : Hid (blkS img r k = wordN (blk img r.ind) (k - 4)) := Lib.hid (if_neg hk4)
        generalize blk img r.ind = s at hcS hsz HV0
        generalize r.ind = q at *
        obtain ⟨m, hm⟩ : ∃ m, m = k - 4 := ⟨_, rfl⟩
        rw [← hm] at HV0
        have hmi : (k : Int) - 4 = (m : Int) := by omega
        have hm64 : m < 64 := by omega
        have hw1 : IntKind.i64.wrap (2 * (m : Int)) = 2 * (m : Int) := by rw [IntKind.wrap_i64]; omega
        have hw2 : IntKind.i64.wrap (2 * (m : Int) + 2) = 2 * (m : Int) + 2 := by rw [IntKind.wrap_i64]; omega
        have hn1 : (2 * (m : Int)).toNat = 2 * m := by omega
        have hn2 : (2 * (m : Int) + 2).toNat = 2 * m + 2 := by omega
        have ho1 : (0 : Int) ≤ 2 * (m : Int) := by omega
        have ho2 : 2 * (m : Int) ≤ 2 * (m : Int) + 2 := by omega
        have ho3 : 2 * (m : Int) + 2 ≤ (s.size : Int) := by omega
        have x3 : (s.extract (2 * m) (2 * m + 2)).size ≤ 8 := by rw [ByteArray.size_extract]; omega
        have n3 := neL_two (s := s) (o := 2 * m) (by omega)
        have c3 := cne _ x3
        rw [n3, show w2 s (2 * m) = wordN s m from rfl] at c3
        have l4 := wordN_lt s m
        have HV : Hid (blkS img r k = wordN s m) := HV0
        clear n3 x3 HV0 hm
        generalize wordN s m = x at c3 l4 HV
        have hxi : (x : Int) < 65536 := by omega
        go_wp2_with (first | (go_at_call 38; refine (cN _).mono ?_; rintro e w3 ⟨rfl, rfl⟩) | (go_at_call 67; refine (c3 _).mono ?_; rintro e w3 ⟨rfl, rfl⟩) | (at_builtin; refine wpList_append_reads _ rfl (.tmp 27) (.tmp 39) 38 rfl z 3 i0 _ 1 8 Try.underlying38 hi0 hz0 hz1 hz2 rfl (by omega) (.slice A2 k c2) k (encN (dataS img r k)) rfl (own_alloc J.out.1 _) _ (some ⟨wr.heap.size, 0, none⟩) 1 1 (encN [x]) rfl (reads_new wr _ 3 1 1 rfl) (encN_one _) (by unfold maxLen; omega) (by omega) (by simp; omega) ?_; intro A6 c6 w6 ho6 hg6 _))
        have JN : Hid (w6.ownsRow z 3 1 (.slice A6 (k + 1) c6) (k + 1) (encN (dataS img r (k + 1))) ∧ Below z w1 w6) := Lib.hid ⟨by rw [HS.out, HV.out, encN_app]; exact ho6, (J.out.2.alloc hwz _).grown hg6 (by simp; omega) (fun q hq => own_row_ge J.out.1 _ hq)⟩
        clear ho6 hg6 J
        go_roundg (N - (k + 1))
        case measure => omega
        case rel => exact ⟨k + 1, A6, c6, by omega, by omega, by go_num, rfl, JN⟩
    · have : k = N := by omega
      subst this
      go_wp2_with (go_at_call 38; refine (cN _).mono ?_; rintro e w3 ⟨rfl, rfl⟩)
      go_ret
      exact ⟨A2, c2, rfl, own_base J.out.1 (by omega), HBR.out.2⟩

end Go.Proofs.Ytcfmpmcdfllibaa
