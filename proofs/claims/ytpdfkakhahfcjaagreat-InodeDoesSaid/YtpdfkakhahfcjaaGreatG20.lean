/-
  The document's own answer: an inode's bytes.
-/
import Derived.Test.YtpdfkakhahfcjaaGreatG14
import Derived.Test.YtpdfkakhahfcjaaGreatG19
import Derived.Test.YtpdfkakhahfcjaaGreatG05
import Derived.Deep.DeepCutAuto
namespace Go.Proofs.YtpdfkakhahfcjaaGreat
open Go.RowKit

theorem mkB_append (a b : List UInt8) : mkB a ++ mkB b = mkB (a ++ b) := by
  apply ByteArray.ext
  rw [ByteArray.data_append]
  apply Array.ext'
  simp [mkB]
theorem made_conv {w w1 : World} {g k : Nat} (ho : w1.ownsRow w.heap.size 5 1 (.slice (some ⟨g, 0, none⟩) k k) k (madeCells #[.int .u8 0] k).toList) :
    (convert 53 9 (.slice (some ⟨g, 0, none⟩) k k)).run Tryz.prog w1 = .ok (.string (zeroN k)) w1 := by
  rcases Nat.eq_zero_or_pos k with h0 | h0
  · subst h0
    have := run_convert_bytes_arg (P := Tryz.prog) w1 53 5 Tryz.underlying53 Tryz.underlying5 g 0 0 0 [] rfl (fun i hi => by simp at hi) 9 Tryz.underlying9
    exact this
  · have hb : Byt w1 g (List.replicate k 0) := by
      rw [toList_madeCells_one] at ho
      exact Byt.of_own (l := List.replicate k 0) (by simpa using ho) h0
    rw [zeroN_mkB]
    exact hb.conv (P := Tryz.prog) Tryz.underlying53 Tryz.underlying5 Tryz.underlying9 k k (by simp)
theorem be_four (n : Nat) : beL n 4 = beL (n / 65536) 2 ++ beL n 2 := by
  have e : n / 65536 / 256 = n / 16777216 := by omega
  simp [beL, List.range, List.range.loop, e]
/-- Its bytes ahead of the zeros, as far as its j-th block. -/
def headJ (r : RecI) (j : Nat) : List UInt8 := UInt8.ofNat r.kind :: beL r.size 4 ++ ((r.bl.take j).flatMap fun p => beL p 2)
theorem headJ_succ {r : RecI} {j : Nat} (h : j < r.bl.length) : headJ r (j + 1) = headJ r j ++ beL (r.bl.getD j 0) 2 := by
  unfold headJ
  rw [List.take_add_one, List.getElem?_eq_getElem h, List.getD_eq_getElem?_getD, List.getElem?_eq_getElem h]
  simp only [Option.toList_some, List.flatMap_append, List.flatMap_cons, List.flatMap_nil, List.append_nil, List.append_assoc, Option.getD_some, List.cons_append]
theorem headJ_end {r : RecI} (h : r.bl.length = 4) : headJ r 4 ++ beL r.ind 2 = headR r := by
  unfold headJ headR
  rw [List.take_of_length_le (by omega), be_four]
  simp
theorem be_len (n k : Nat) : (beL n k).length = k := by simp [beL]
theorem headJ_len {r : RecI} {j : Nat} (h : j ≤ r.bl.length) : (headJ r j).length = 5 + 2 * j := by
  unfold headJ
  rw [List.length_append, List.length_cons, be_len, flat2_length, List.length_take]; omega
/-- As much as its own cells ask. -/
structure OkW (r : RecI) : Prop where
  bl : r.bl.length = 4
  kind : r.kind ≤ 255
  size : r.size < 4294967296
  big : ∀ k ∈ r.bl, k ≤ 9223372036854775807
  ind : r.ind ≤ 9223372036854775807
def wriV (g : Nat) (r : RecI) : Nat → Value → World → Prop
  | 0 => eqV (.pointer (some ⟨g, 0, none⟩))
  | 1 => eqV (.int .i64 (r.kind : Int))
  | 2 => eqV (.int .u8 (r.kind : Int))
  | 4 => eqV (.string (mkB [UInt8.ofNat r.kind]))
  | 5 => eqV (.pointer (some ⟨g, 1, none⟩))
  | 6 => eqV (.int .i64 (r.size : Int))
  | 7 => eqV (.int .u64 (r.size : Int))
  | 8 => eqV (.string (mkB (beL r.size 4)))
  | 9 => eqV (.string (mkB (UInt8.ofNat r.kind :: beL r.size 4)))
  | 10 => eqV (.string (mkB (UInt8.ofNat r.kind :: beL r.size 4)))
  | 3 => bytV 1 [UInt8.ofNat r.kind]
  | _ => fun _ _ => True
theorem wriV_stable (g : Nat) (r : RecI) (j : Nat) (v : Value) (w w' : World) (hs : Below w.heap.size w w') (h : wriV g r j v w) : wriV g r j v w' := by
  match j, h with
  | 0, h => exact h
  | 1, h => exact h
  | 2, h => exact h
  | 4, h => exact h
  | 5, h => exact h
  | 6, h => exact h
  | 7, h => exact h
  | 8, h => exact h
  | 9, h => exact h
  | 10, h => exact h
  | 3, h => obtain ⟨b, e, h⟩ := h; exact ⟨b, e, h.step hs⟩
  | _ + 11, _ => trivial

set_option maxRecDepth 100000 in
set_option maxHeartbeats 4000000 in
theorem refWrite_any (r : RecI) (hr : OkW r) (w : World) : Calls Tryz.prog 52 #[valI r] w fun e w' => e = .returned (.string (textR r)) ∧ Below w.heap.size w w' := by
  have hmx : Tryz.prog.follows .mixedOrders = true := by kernel_rfl
  obtain ⟨i0, hi0, hz0, hz1, hz2⟩ := info_parts infoUA
  have HR := Lib.hid hr
  have hk : (r.kind : Int) ≤ 255 := by have := hr.kind; omega
  have hs : (r.size : Int) < 4294967296 := by have := hr.size; omega
  have cb4 := fun W => refBe_any r.size 4 W (by have := hr.size; omega) (by omega) (by omega)
  have cb2 := fun (x : Nat) (hx : x ≤ 9223372036854775807) W => refBe_any x 2 W (by omega) (by omega) (by omega)
  have hB := BI.new w r
  have hb0 := (Below.refl w.heap.size w).alloc (Nat.le_refl _) (.cells (cellsI r).toArray 47)
  have HB := Lib.hid (And.intro hB hb0)
  clear hr hB hb0
  unfold valI
  go_enter Tryz.func52, Tryz.ntmps52
  go_upto_region 1 with fail
  obtain ⟨g, hg⟩ : ∃ g, g = w.heap.size := ⟨_, rfl⟩
  rw [← hg] at HB ⊢
  obtain ⟨w1, hw1⟩ : ∃ w1, w1 = w.alloc (.cells (cellsI r).toArray 47) := ⟨_, rfl⟩
  rw [← hw1] at HB ⊢
  have HG := Lib.hid hg
  clear hg hw1
  refine wp_region_rel (fun w' => Below w1.heap.size w1 w') (fun _ w w' => Below w.heap.size w w') (wriV g r) hmx (by kernel_rfl) ((Below.refl _ _).drew) (fun i w w' hC hs => bstep hC hs) (fun i j v w w' _ hs h => wriV_stable g r j v w w' hs h) ?_ ?_
  · refine ⟨?_, ?_, ?_, ?_, ?_, ?_, ?_, ?_, ?_, ?_, ?_, trivial⟩
    · intro V W hC hd K hK
      clear hd
      simp only [laidL, Act.put, List.setIfInBounds_toArray, List.set_cons_zero, List.set_cons_succ] at hK ⊢
      go_simp
      exact hK _ _ ⟨Below.refl _ _, rfl⟩
    · intro V W hC hd K hK
      have q0 : wriV g r 0 (V 0) W := hd.1
      have e0 : V 0 = .pointer (some ⟨g, 0, none⟩) := q0
      clear q0
      clear hd
      simp only [laidL, Act.put, List.setIfInBounds_toArray, List.set_cons_zero, List.set_cons_succ] at hK ⊢
      generalize V 0 = v0 at e0 hK ⊢
      subst e0
      have hc : W.cell? ⟨g, 0, none⟩ = some (.int .i64 (r.kind : Int)) := (HB.out.1.step hC).cell rfl
      go_simp
      exact hK _ _ ⟨Below.refl _ _, rfl⟩
    · intro V W hC hd K hK
      have q1 : wriV g r 1 (V 1) W := hd.1
      have e1 : V 1 = .int .i64 (r.kind : Int) := q1
      clear q1
      clear hd
      simp only [laidL, Act.put, List.setIfInBounds_toArray, List.set_cons_zero, List.set_cons_succ] at hK ⊢
      generalize V 1 = v1 at e1 hK ⊢
      subst e1
      go_simp
      exact hK _ _ ⟨Below.refl _ _, congrArg (Value.int .u8) (by first | rfl | (rw [IntKind.wrap_u8]; omega))⟩
    · intro V W hC hd K hK
      have q2 : wriV g r 2 (V 2) W := hd.1
      have e2 : V 2 = .int .u8 (r.kind : Int) := q2
      clear q2
      clear hd
      simp only [laidL, Act.put, List.setIfInBounds_toArray, List.set_cons_zero, List.set_cons_succ] at hK ⊢
      generalize V 2 = v2 at e2 hK ⊢
      subst e2
      go_simp
      exact hK _ _ ⟨(Below.refl _ _).alloc (Nat.le_refl _) _, _, rfl, Byt.of_lit [UInt8.ofNat r.kind] _ (by simp; omega)⟩
    · intro V W hC hd K hK
      have q3 : wriV g r 3 (V 3) W := hd.1
      have q3 : bytV 1 [UInt8.ofNat r.kind] (V 3) W := q3
      have p3 := bytV_out q3
      clear q3
      cases p3
      rename_i b3 hh
      have e3 := hh.1
      have h3 := hh.2
      clear hh
      clear hd
      simp only [laidL, Act.put, List.setIfInBounds_toArray, List.set_cons_zero, List.set_cons_succ] at hK ⊢
      generalize V 3 = v3 at e3 hK ⊢
      subst e3
      have hcv := h3.conv (P := Tryz.prog) Tryz.underlying53 Tryz.underlying5 Tryz.underlying9 1 1 rfl
      go_simp
      exact hK _ _ ⟨Below.refl _ _, rfl⟩
    · intro V W hC hd K hK
      clear hd
      simp only [laidL, Act.put, List.setIfInBounds_toArray, List.set_cons_zero, List.set_cons_succ] at hK ⊢
      go_simp
      exact hK _ _ ⟨Below.refl _ _, rfl⟩
    · intro V W hC hd K hK
      have q5 : wriV g r 5 (V 5) W := hd.1
      have e5 : V 5 = .pointer (some ⟨g, 1, none⟩) := q5
      clear q5
      clear hd
      simp only [laidL, Act.put, List.setIfInBounds_toArray, List.set_cons_zero, List.set_cons_succ] at hK ⊢
      generalize V 5 = v5 at e5 hK ⊢
      subst e5
      have hc := (HB.out.1.step hC).size
      go_simp
      exact hK _ _ ⟨Below.refl _ _, rfl⟩
    · intro V W hC hd K hK
      have q6 : wriV g r 6 (V 6) W := hd.1
      have e6 : V 6 = .int .i64 (r.size : Int) := q6
      clear q6
      clear hd
      simp only [laidL, Act.put, List.setIfInBounds_toArray, List.set_cons_zero, List.set_cons_succ] at hK ⊢
      generalize V 6 = v6 at e6 hK ⊢
      subst e6
      go_simp
      exact hK _ _ ⟨Below.refl _ _, congrArg (Value.int .u64) (by first | rfl | (rw [IntKind.wrap_u64]; omega))⟩
    · intro V W hC hd K hK
      have q7 : wriV g r 7 (V 7) W := hd.1
      have e7 : V 7 = .int .u64 (r.size : Int) := q7
      clear q7
      clear hd
      simp only [laidL, Act.put, List.setIfInBounds_toArray, List.set_cons_zero, List.set_cons_succ] at hK ⊢
      generalize V 7 = v7 at e7 hK ⊢
      subst e7
      go_simp
      go_at_call 86
      refine (cb4 _).mono ?_
      rintro e w3 ⟨rfl, hb3⟩
      exact hK _ _ ⟨hb3, rfl⟩
    · intro V W hC hd K hK
      have q4 : wriV g r 4 (V 4) W := hd.1
      have e4 : V 4 = .string (mkB [UInt8.ofNat r.kind]) := q4
      clear q4
      have q8 : wriV g r 8 (V 8) W := hd.2.1
      have e8 : V 8 = .string (mkB (beL r.size 4)) := q8
      clear q8
      clear hd
      simp only [laidL, Act.put, List.setIfInBounds_toArray, List.set_cons_zero, List.set_cons_succ] at hK ⊢
      generalize V 4 = v4 at e4 hK ⊢
      subst e4
      generalize V 8 = v8 at e8 hK ⊢
      subst e8
      have hno : ¬ 9223372036854775807 < (mkB [UInt8.ofNat r.kind]).size + (mkB (beL r.size 4)).size := by rw [mkB_size, mkB_size, be_len]; simp
      go_simp
      exact hK (.string (mkB [UInt8.ofNat r.kind] ++ mkB (beL r.size 4))) _ ⟨Below.refl _ _, congrArg Value.string (mkB_append _ _)⟩
    · intro V W hC hd K hK
      have q9 : wriV g r 9 (V 9) W := hd.1
      have e9 : V 9 = .string (mkB (UInt8.ofNat r.kind :: beL r.size 4)) := q9
      clear q9
      clear hd
      simp only [laidL, Act.put, List.setIfInBounds_toArray, List.set_cons_zero, List.set_cons_succ] at hK ⊢
      generalize V 9 = v9 at e9 hK ⊢
      subst e9
      go_simp
      exact hK _ _ ⟨Below.refl _ _, rfl⟩
  · intro V W hC hV
    have e10 : V 10 = .string (mkB (UInt8.ofNat r.kind :: beL r.size 4)) := hV 10 (show 10 < 11 by decide)
    clear hV
    simp only [laidL, Act.put, List.setIfInBounds_toArray, List.set_cons_zero, List.set_cons_succ]
    generalize V 10 = v10 at e10 ⊢
    subst e10
    have JJ : Hid (BI W g r ∧ Below w.heap.size w W) := Lib.hid ⟨HB.out.1.step hC, by rw [← HG.out]; exact HB.out.2.trans (hC.mono (Nat.le_of_lt HB.out.1.lt))⟩
    clear hC
    have h4 := HR.out.bl
    go_wp2
    go_loopg [3, 4] 4 (fun gk s3 s4 wr => ∃ j : Nat, j ≤ 4 ∧ 4 - j ≤ gk ∧ s4 = .int .i64 j ∧ s3 = .string (mkB (headJ r j)) ∧ Hid (BI wr g r ∧ Below w.heap.size w wr))
    case atStart => exact ⟨0, Nat.zero_le _, by omega, rfl, congrArg (fun l => Value.string (mkB l)) (by simp [headJ]), JJ⟩
    case round =>
      clear JJ
      obtain ⟨j, hj, hgk, rfl, rfl, J⟩ := hrel
      by_cases hlt : j < 4
      · have hji : (j : Int) < 4 := by omega
        have hcell := J.out.1.bl (j := j) (by omega)
        have hbg : r.bl.getD j 0 ≤ 9223372036854775807 := HR.out.big _ (by rw [List.getD_eq_getElem?_getD, List.getElem?_eq_getElem (by omega)]; exact List.getElem_mem _)
        have cbj := cb2 _ hbg
        have hJ : mkB (headJ r j) ++ mkB (beL (r.bl.getD j 0) 2) = mkB (headJ r (j + 1)) := by rw [mkB_append, headJ_succ (by omega)]
        have HJ := Lib.hid hJ
        have hno : ¬ 9223372036854775807 < (mkB (headJ r j)).size + (mkB (beL (r.bl.getD j 0) 2)).size := by rw [mkB_size, mkB_size, be_len, headJ_len (by omega)]; omega
        have hbgi : (r.bl.getD j 0 : Int) ≤ 9223372036854775807 := by omega
        have hwb : IntKind.u64.wrap (r.bl.getD j 0 : Int) = (r.bl.getD j 0 : Int) := by rw [IntKind.wrap_u64]; omega
        clear hJ
        generalize r.bl.getD j 0 = x at *
        go_wp2_with fail
        refine (cbj _).mono ?_
        rintro e w3 ⟨rfl, hb3⟩
        have JN := Lib.hid (And.intro (J.out.1.step hb3) (bstep J.out.2 hb3))
        clear hb3 J
        go_wp2
        go_roundg (4 - (j + 1))
        case measure => omega
        case rel => exact ⟨j + 1, by omega, by omega, by go_num, by rw [HJ.out], JN⟩
      · have : j = 4 := by omega
        subst this
        have hci := J.out.1.ind h4
        have cbi := cb2 _ HR.out.ind
        have hbi := HR.out.ind
        have hwb : IntKind.u64.wrap (r.ind : Int) = (r.ind : Int) := by rw [IntKind.wrap_u64]; omega
        have hJ : mkB (headJ r 4) ++ mkB (beL r.ind 2) = mkB (headR r) := by rw [mkB_append, headJ_end h4]
        have hno : ¬ 9223372036854775807 < (mkB (headJ r 4)).size + (mkB (beL r.ind 2)).size := by rw [mkB_size, mkB_size, be_len, headJ_len (by omega)]; omega
        have hsz : (mkB (headR r)).size = 15 := by rw [← headJ_end h4, mkB_size, List.length_append, be_len, headJ_len (by omega)]
        have hE : mkB (headR r) ++ zeroN 17 = textR r := by rw [zeroN_mkB, mkB_append]; rfl
        have HE := Lib.hid hE
        clear hE
        generalize mkB (headR r) = t at hJ hsz HE
        generalize r.ind = x at *
        generalize mkB (headJ r 4) = t0 at *
        generalize mkB (beL x 2) = t1 at *
        go_wp2_with fail
        refine (cbi _).mono ?_
        rintro e w3 ⟨rfl, hb3⟩
        have JN := Lib.hid (bstep J.out.2 hb3)
        clear hb3 J
        have hno2 : ¬ 9223372036854775807 < t.size + (zeroN 17).size := by rw [hsz]; decide
        have h17 : (32 : Int) - (t.size : Int) = 17 := by omega
        clear HB
        go_wp2_with (at_make; refine wpList_make_full _ rfl _ _ 53 rfl w3.heap.size 5 i0 _ 1 Tryz.underlying53 hi0 hz0 hz1 .i64 .i64 17 17 17 rfl rfl rfl rfl ?_ ?_ ?_ ?_)
        · rw [hz2]; omega
        · simp only [maxLen]; omega
        · exact Nat.le_refl _
        intro w4 ho4 hg4
        have hb4 : Below w3.heap.size w3 w4 := (Below.refl _ _).grown hg4 (Nat.le_refl _) (by intro k hk; cases hk)
        have hcv := made_conv ho4
        have JF := Lib.hid (bstep JN.out hb4)
        clear ho4 hg4 hb4 JN
        generalize zeroN 17 = z at *
        go_wp2
        go_ret
        rw [← HE.out]
        exact ⟨rfl, JF.out⟩

end Go.Proofs.YtpdfkakhahfcjaaGreat

/-
  The document's own answer: the data blocks that an inode names.
-/
namespace Go.Proofs.YtpdfkakhahfcjaaGreat
open Go.RowKit

/-- The k-th data block. -/
def blkS (img : List ByteArray) (r : RecI) (k : Nat) : Nat := if k < 4 then r.bl.getD k 0 else wordN (blk img r.ind) (k - 4)
def dataS (img : List ByteArray) (r : RecI) (n : Nat) : List Nat := (List.range n).map (blkS img r)
theorem dataS_length (img : List ByteArray) (r : RecI) (n : Nat) : (dataS img r n).length = n := by simp [dataS]
theorem dataS_succ (img : List ByteArray) (r : RecI) (n : Nat) : dataS img r (n + 1) = dataS img r n ++ [blkS img r n] := by simp [dataS, List.range_succ]
/-- Of an inode in an image they are those that the program looks at. -/
theorem dataS_rec {img : List ByteArray} (hf : FitA img) {i : Nat} (hi : i ≤ 1024) (hn : needN (recI img i).size ≤ 68) (h4 : 4 < needN (recI img i).size → 0 < (recI img i).ind ∧ (recI img i).ind < img.length) : dataS img (recI img i) (needN (recI img i).size) = dataR (recI img i) := by
  have hr := recI_ok img i hi
  have hl := dataR_length hr
  refine List.ext_getElem (by rw [dataS_length, hl]; omega) fun k h1 h2 => ?_
  rw [dataS_length] at h1
  have h3 : k < (recI img i).bl.length + (recI img i).ls.length := by rw [hr.bl, hr.ls]; omega
  simp only [dataS, List.getElem_map, List.getElem_range, dataR, List.getElem_take]
  unfold blkS
  split
  · next hk => rw [List.getElem_append_left (by rw [hr.bl]; exact hk), List.getD_eq_getElem?_getD, List.getElem?_eq_getElem (by rw [hr.bl]; exact hk)]; rfl
  · next hk =>
    have h5 := h4 (by omega)
    rw [List.getElem_append_right (by rw [hr.bl]; omega)]
    have e : (recI img i).ls = (List.range 64).map (wordN (blkI img (recI img i).ind)) := rec_ls2 (by omega)
    simp only [e, List.getElem_map, List.getElem_range, hr.bl, blkI_of hf h5.2]

set_option maxRecDepth 100000 in
set_option maxHeartbeats 4000000 in
theorem refNamed_any (A : Option Addr) (n c : Nat) (img : List ByteArray) (r : RecI) (w : World) (h : Reads w w.heap.size 1 A n (encS img)) (hf : FitA img) (h4 : r.bl.length = 4) (hN : needN r.size ≤ 68) (hi : 4 < needN r.size → r.ind < n) :
    Calls Tryz.prog 21 #[.slice A n c, valI r] w (RowP w (dataS img r (needN r.size))) := by
  obtain ⟨i0, hi0, hz0, hz1, hz2⟩ := info_parts infoI
  have H := Lib.hid h
  have hl := h.lenS
  have h5 : n ≤ 512 := by have := hf.1; omega
  have HF := Lib.hid hf
  have cN := fun W => refNeeds_any r.size (by unfold needN at hN; omega) W
  have cne := fun (t : ByteArray) (ht : t.size ≤ 8) W => refNe_any t W ht
  have HB0 := Lib.hid (And.intro (BI.new w r) ((Below.refl w.heap.size w).alloc (Nat.le_refl _) (.cells (cellsI r).toArray 47)))
  have hsB : w.heap.size < (w.alloc (.cells (cellsI r).toArray 47)).heap.size := by simp
  unfold RowP
  rw [dataS_length]
  obtain ⟨N, hNN⟩ : ∃ N, N = needN r.size := ⟨_, rfl⟩
  rw [← hNN] at cN hN hi ⊢
  clear h hf hNN
  unfold valI
  go_enter Tryz.func21, Tryz.ntmps21
  go_upto_region 1 with fail
  generalize w.alloc (.cells (cellsI r).toArray 47) = w1 at HB0 hsB ⊢
  have HO0 := Lib.hid (own_nil (w := w1) (base := w1.heap.size) (e := 3) (size := 1))
  obtain ⟨z, hz⟩ : ∃ z, z = w1.heap.size := ⟨_, rfl⟩
  have HZ := Lib.hid hz
  rw [← hz] at HO0 hsB
  clear hz
  have HBW : Hid (∀ wr, Below z w1 wr → BI wr w.heap.size r ∧ Below w.heap.size w wr) := Lib.hid (fun wr hb => ⟨(hb.block w.heap.size hsB).trans HB0.out.1, HB0.out.2.trans (hb.mono (by omega))⟩)
  go_wp2_with fail
  go_loopg [5, 6, 7] N (fun gk s5 s6 s7 wr => ∃ (k : Nat) (A2 : Option Addr) (c2 : Nat), k ≤ N ∧ N - k ≤ gk ∧ s6 = .int .i64 k ∧ s5 = .slice A2 k c2 ∧ Hid (wr.ownsRow z 3 1 (.slice A2 k c2) k (encN (dataS img r k)) ∧ Below z w1 wr))
  case atStart => exact ⟨0, none, 0, Nat.zero_le _, by omega, rfl, rfl, Lib.hid ⟨HO0.out, by rw [HZ.out]; exact Below.refl _ _⟩⟩
  case round =>
    obtain ⟨k, A2, c2, hk, hgk, rfl, rfl, J⟩ := hrel
    have HBR := Lib.hid (HBW.out wr J.out.2)
    have hcs := HBR.out.1.size
    by_cases hlt : k < N
    · have hki : (k : Int) < (N : Int) := by omega
      have HS := Lib.hid (dataS_succ img r k)
      have hwz : z ≤ wr.heap.size := by have := J.out.2.size; rw [HZ.out]; exact this
      by_cases hk4 : k < 4
      · have hk4i : (k : Int) < 4 := by omega
        have hcell := HBR.out.1.bl (j := k) (by omega)
        have HV : Hid (blkS img r k = r.bl.getD k 0) := Lib.hid (if_pos hk4)
        generalize r.bl.getD k 0 = x at hcell HV
        go_wp2_with (first | (go_at_call 24; refine (cN _).mono ?_; rintro e w3 ⟨rfl, rfl⟩) | (at_builtin; refine wpList_append_reads _ rfl (.tmp 17) (.tmp 22) 49 rfl z 3 i0 _ 1 8 Tryz.underlying49 hi0 hz0 hz1 hz2 rfl (by omega) (.slice A2 k c2) k (encN (dataS img r k)) rfl (own_alloc J.out.1 _) _ (some ⟨wr.heap.size, 0, none⟩) 1 1 (encN [x]) rfl (reads_new wr _ 3 1 1 rfl) (encN_one _) (by unfold maxLen; omega) (by omega) (by simp; omega) ?_; intro A6 c6 w6 ho6 hg6 _))
        have JN : Hid (w6.ownsRow z 3 1 (.slice A6 (k + 1) c6) (k + 1) (encN (dataS img r (k + 1))) ∧ Below z w1 w6) := Lib.hid ⟨by rw [HS.out, HV.out, encN_app]; exact ho6, (J.out.2.alloc hwz _).grown hg6 (by simp; omega) (fun q hq => own_row_ge J.out.1 _ hq)⟩
        clear ho6 hg6 J
        go_roundg (N - (k + 1))
        case measure => omega
        case rel => exact ⟨k + 1, A6, c6, by omega, by omega, by go_num, rfl, JN⟩
      · have hk4i : ¬ (k : Int) < 4 := by omega
        have hk4d : decide ((k : Int) < 4) = false := decide_eq_false hk4i
        have hin := hi (by omega)
        have hci := HBR.out.1.ind h4
        obtain ⟨b, o, rfl, hb, hcS⟩ := (H.out.step HBR.out.2).str hin
        have hsz := blk_fit_size HF.out (i := r.ind) (by omega)
        have hini : (r.ind : Int) < (n : Int) := by omega
        have HV0 : Hid (blkS img r k = wordN (blk img r.ind) (k - 4)) := Lib.hid (if_neg hk4)
        generalize blk img r.ind = s at hcS hsz HV0
        generalize r.ind = q at *
        obtain ⟨m, hm⟩ : ∃ m, m = k - 4 := ⟨_, rfl⟩
        rw [← hm] at HV0
        have hmi : (k : Int) - 4 = (m : Int) := by omega
        have hm64 : m < 64 := by omega
        have hw1 : IntKind.i64.wrap (2 * (m : Int)) = 2 * (m : Int) := by rw [IntKind.wrap_i64]; omega
        have hw2 : IntKind.i64.wrap (2 * (m : Int) + 2) = 2 * (m : Int) + 2 := by rw [IntKind.wrap_i64]; omega
        have hn1 : (2 * (m : Int)).toNat = 2 * m := by omega
        have hn2 : (2 * (m : Int) + 2).toNat = 2 * m + 2 := by omega
        have ho1 : (0 : Int) ≤ 2 * (m : Int) := by omega
        have ho2 : 2 * (m : Int) ≤ 2 * (m : Int) + 2 := by omega
        have ho3 : 2 * (m : Int) + 2 ≤ (s.size : Int) := by omega
        have x3 : (s.extract (2 * m) (2 * m + 2)).size ≤ 8 := by rw [ByteArray.size_extract]; omega
        have n3 := neL_two (s := s) (o := 2 * m) (by omega)
        have c3 := cne _ x3
        rw [n3, show w2 s (2 * m) = wordN s m from rfl] at c3
        have l4 := wordN_lt s m
        have HV : Hid (blkS img r k = wordN s m) := HV0
        clear n3 x3 HV0 hm
        generalize wordN s m = x at c3 l4 HV
        have hxi : (x : Int) < 65536 := by omega
        go_wp2_with (first | (go_at_call 24; refine (cN _).mono ?_; rintro e w3 ⟨rfl, rfl⟩) | (go_at_call 53; refine (c3 _).mono ?_; rintro e w3 ⟨rfl, rfl⟩) | (at_builtin; refine wpList_append_reads _ rfl (.tmp 27) (.tmp 39) 49 rfl z 3 i0 _ 1 8 Tryz.underlying49 hi0 hz0 hz1 hz2 rfl (by omega) (.slice A2 k c2) k (encN (dataS img r k)) rfl (own_alloc J.out.1 _) _ (some ⟨wr.heap.size, 0, none⟩) 1 1 (encN [x]) rfl (reads_new wr _ 3 1 1 rfl) (encN_one _) (by unfold maxLen; omega) (by omega) (by simp; omega) ?_; intro A6 c6 w6 ho6 hg6 _))
        have JN : Hid (w6.ownsRow z 3 1 (.slice A6 (k + 1) c6) (k + 1) (encN (dataS img r (k + 1))) ∧ Below z w1 w6) := Lib.hid ⟨by rw [HS.out, HV.out, encN_app]; exact ho6, (J.out.2.alloc hwz _).grown hg6 (by simp; omega) (fun q hq => own_row_ge J.out.1 _ hq)⟩
        clear ho6 hg6 J
        go_roundg (N - (k + 1))
        case measure => omega
        case rel => exact ⟨k + 1, A6, c6, by omega, by omega, by go_num, rfl, JN⟩
    · have : k = N := by omega
      subst this
      go_wp2_with (go_at_call 24; refine (cN _).mono ?_; rintro e w3 ⟨rfl, rfl⟩)
      go_ret
      exact ⟨A2, c2, rfl, own_base J.out.1 (by omega), HBR.out.2⟩

end Go.Proofs.YtpdfkakhahfcjaaGreat

/-
  The document's own answer: whether an inode's shape is right.
-/
namespace Go.Proofs.YtpdfkakhahfcjaaGreat
open Go.RowKit

theorem recS_ok (s : ByteArray) : OkW (recS s) := by
  refine ⟨rfl, ?_, ?_, fun k hk => ?_, ?_⟩
  · have := byA_lt s 0; show byA s 0 ≤ 255; omega
  · have h1 := w2_lt s 1
    have h2 := w2_lt s 3
    show 65536 * w2 s 1 + w2 s 3 < _
    omega
  · have hk : k ∈ [w2 s 5, w2 s 7, w2 s 9, w2 s 11] := hk
    simp only [List.mem_cons, List.not_mem_nil, or_false] at hk
    rcases hk with rfl | rfl | rfl | rfl
    all_goals exact Nat.le_trans (Nat.le_of_lt (w2_lt _ _)) (by omega)
  · have := w2_lt s 13; show w2 s 13 ≤ _; omega
/-- What is asked of an inode's cells. -/
def badR (n : Nat) (s : ByteArray) (r : RecI) : Prop := (r.kind ≠ 1 ∧ r.kind ≠ 2) ∨ 8704 < r.size ∨ textR r ≠ s ∨ decide (4 < needN r.size) ≠ decide (0 < r.ind) ∨ n ≤ r.ind
instance (n : Nat) (s : ByteArray) (r : RecI) : Decidable (badR n s r) := by unfold badR; infer_instance
theorem shapedR_eq (img : List ByteArray) (s : ByteArray) (r : RecI) : shapedR img s r = if s = zeroN 32 then true else if badR img.length s r then false else
    if (∀ k : Nat, k < 4 → (decide (k < needN r.size) = decide (0 < r.bl.getD k 0))) then (if 4 < needN r.size then decide (tailW img r = List.replicate (tailW img r).length 0) else true) else false := rfl
theorem bne_bytes (a b : ByteArray) : (a.toList != b.toList) = !decide (a = b) := by
  show (!(a.toList == b.toList)) = _
  rw [beq_bytes]

set_option maxRecDepth 100000 in
set_option maxHeartbeats 8000000 in
theorem refShaped_any (A : Option Addr) (n c : Nat) (img : List ByteArray) (s : ByteArray) (w : World) (h : Reads w w.heap.size 1 A n (encS img)) (hf : FitA img) (hs : s.size = 32) :
    Calls Tryz.prog 18 #[.slice A n c, .string s] w fun e w' => e = .returned (.bool (shapedR img s (recS s))) ∧ Below w.heap.size w w' := by
  have hmx : Tryz.prog.follows .mixedOrders = true := by kernel_rfl
  obtain ⟨i0, hi0, hz0, hz1, hz2⟩ := info_parts infoUA
  have hz7 := (zero_of_info info7).1
  have H := Lib.hid h
  have HF := Lib.hid hf
  have hl := h.lenS
  have h5 : n ≤ 512 := by have := hf.1; omega
  have hOK := recS_ok s
  have HOK := Lib.hid hOK
  have cR := refRead_any s hs w
  have cN := fun W => refNeeds_any (recS s).size (by have := hOK.size; omega) W
  have cW := fun W => refWrite_any (recS s) hOK W
  have HE0 : Hid (shapedR img s (recS s) = if s = zeroN 32 then true else if badR n s (recS s) then false else
    if (∀ k : Nat, k < 4 → (decide (k < needN (recS s).size) = decide (0 < (recS s).bl.getD k 0))) then (if 4 < needN (recS s).size then decide (tailW img (recS s) = List.replicate (tailW img (recS s)).length 0) else true) else false) := Lib.hid (by rw [shapedR_eq, hl])
  have hlen7 := recS_len s
  clear h hf
  generalize recS s = r at *
  unfold valI at cR cW
  have h4 := hOK.bl
  go_enter Tryz.func18, Tryz.ntmps18
  go_wp2_with fail
  refine cR.mono ?_
  rintro e w1 ⟨rfl, hb1⟩
  have B2 := (BI.new w1 (zeroR 0)).setRow r
  have bs2 : Below w1.heap.size w1 ((w1.alloc (.cells (cellsI (zeroR 0)).toArray 47)).setRow w1.heap.size (cellsI r).toArray) := ((Below.refl _ w1).alloc (Nat.le_refl _) _).trans (below_setRow _ (Nat.le_refl _) _)
  have J2 := Lib.hid (And.intro B2 (bstep hb1 bs2))
  clear B2 bs2 cR hb1
  go_upto_region 2 with (refine wpList_store_row rfl _ _ _ rfl w1.heap.size (cellsI r).toArray rfl rfl _ (cellsI (zeroR 0)).toArray (heap_alloc_new w1 _) (sizeIz hlen7) (holdIz (r := zeroR 0) rfl hlen7) (all_oneCell_toArray (cellsI_one _)) ?_)
  generalize (w1.alloc (.cells (cellsI (zeroR 0)).toArray 47)).setRow w1.heap.size (cellsI r).toArray = w2 at J2 ⊢
  generalize w1.heap.size = g at J2 ⊢
  go_wp2_with (at_make; refine wpList_make_full _ rfl _ _ 53 rfl w2.heap.size 5 i0 _ 1 Tryz.underlying53 hi0 hz0 hz1 .i64 .i64 32 32 32 rfl rfl rfl rfl ?_ ?_ ?_ ?_)
  · rw [hz2]; omega
  · simp only [maxLen]; omega
  · exact Nat.le_refl _
  intro w3 ho3 hg3
  have hb3 : Below w2.heap.size w2 w3 := (Below.refl _ _).grown hg3 (Nat.le_refl _) (by intro k hk; cases hk)
  have hcv := made_conv ho3
  have J3 := Lib.hid (And.intro (J2.out.1.step hb3) (bstep J2.out.2 hb3))
  clear ho3 hg3 hb3 J2
  obtain ⟨z32, hz32⟩ : ∃ z, z = zeroN 32 := ⟨_, rfl⟩
  rw [← hz32] at hcv HE0
  clear hz32
  by_cases hsz : s = z32
  · have HE : Hid (shapedR img s r = true) := Lib.hid (by rw [HE0.out, if_pos hsz])
    have htt : (s.toList == z32.toList) = true := by rw [hsz]; simp
    go_wp2
    go_ret
    rw [HE.out]
    exact ⟨rfl, J3.out.2⟩
  have htt : (s.toList == z32.toList) = false := by rw [beq_bytes, decide_eq_false hsz]
  have HE1 : Hid (shapedR img s r = if badR n s r then false else
    if (∀ k : Nat, k < 4 → (decide (k < needN r.size) = decide (0 < r.bl.getD k 0))) then (if 4 < needN r.size then decide (tailW img r = List.replicate (tailW img r).length 0) else true) else false) := Lib.hid (by rw [HE0.out, if_neg hsz])
  have HBD : Hid (badR n s r ↔ (r.kind ≠ 1 ∧ r.kind ≠ 2) ∨ 8704 < r.size ∨ textR r ≠ s ∨ decide (4 < needN r.size) ≠ decide (0 < r.ind) ∨ n ≤ r.ind) := Lib.hid Iff.rfl
  have hcs := J3.out.1.size
  clear HE0 hsz
  have hnd : needN r.size ≤ 33554432 := by have := HOK.out.size; unfold needN; omega
  have hnc := Lib.hid (show r.size ≤ 8704 → needN r.size ≤ 68 from fun h => by unfold needN; omega)
  have HTW : Hid (tailW img r = (blk img r.ind).data.toList.drop (2 * (needN r.size - 4))) := Lib.hid rfl
  generalize hnn : needN r.size = nd at *
  clear hnn
  go_upto_region 5 with (go_at_call 24; refine (cN _).mono ?_; rintro e w4 ⟨rfl, rfl⟩)
  have hck : w3.cell? ⟨g, 0, none⟩ = some (.int .i64 (r.kind : Int)) := J3.out.1.cell rfl
  have hci := J3.out.1.ind h4
  go_cut [51] from 18 to 51 (fun s51 wc => s51 = .bool (decide (badR n s r)) ∧ Hid (BI wc g r ∧ Below w.heap.size w wc))
  case first =>
    obtain ⟨t, htR⟩ : ∃ t, t = textR r := ⟨_, rfl⟩
    rw [← htR] at cW HBD
    clear htR
    obtain ⟨x0, x1, x2, x3, hbl⟩ : ∃ x0 x1 x2 x3, r.bl = [x0, x1, x2, x3] := by
      match hb : r.bl, h4 with
      | [x0, x1, x2, x3], _ => exact ⟨x0, x1, x2, x3, rfl⟩
    have hcells : (cellsI r).toArray = #[.int .i64 (r.kind : Int), .int .i64 (r.size : Int), .int .i64 (x0 : Int), .int .i64 (x1 : Int), .int .i64 (x2 : Int), .int .i64 (x3 : Int), .int .i64 (r.ind : Int)] := by unfold cellsI; rw [hbl]; rfl
    rw [hcells] at cW
    have hc2 := J3.out.1.bl (j := 0) (by omega)
    have hc3 := J3.out.1.bl (j := 1) (by omega)
    have hc4 := J3.out.1.bl (j := 2) (by omega)
    have hc5 := J3.out.1.bl (j := 3) (by omega)
    rw [hbl] at hc2 hc3 hc4 hc5
    simp only [List.getD_cons_zero, List.getD_cons_succ, Nat.reduceAdd] at hc2 hc3 hc4 hc5
    clear hcells hbl
    obtain ⟨b1, hb1⟩ : ∃ b : Bool, decide ((4 : Int) < (nd : Int)) = b := ⟨_, rfl⟩
    obtain ⟨b2, hb2⟩ : ∃ b : Bool, decide ((0 : Int) < (r.ind : Int)) = b := ⟨_, rfl⟩
    have HB1 : Hid (True ∧ decide (4 < nd) = b1) := Lib.hid ⟨trivial, by rw [← hb1, decide_eq_decide]; omega⟩
    have HB2 : Hid (True ∧ decide (0 < r.ind) = b2) := Lib.hid ⟨trivial, by rw [← hb2, decide_eq_decide]; omega⟩
    have hb1n := HB1.out.2
    have hb2n := HB2.out.2
    by_cases hk : r.kind ≠ 1 ∧ r.kind ≠ 2
    · have f1 : ((r.kind : Int) != 1) = true := by rw [bne_iff_ne]; omega
      have f2 : ((r.kind : Int) != 2) = true := by rw [bne_iff_ne]; omega
      have hb := HBD.out.2 (.inl hk)
      go_wp2_with fail
      go_meet
      case rel => exact ⟨congrArg Value.bool (decide_eq_true hb).symm, J3⟩
    have HK12 := Lib.hid hk
    have hor : ((r.kind : Int) != 1) = false ∨ (((r.kind : Int) != 1) = true ∧ ((r.kind : Int) != 2) = false) := by
      by_cases e : r.kind = 1
      · left; rw [e]; rfl
      · right; exact ⟨by rw [bne_iff_ne]; omega, by rw [show r.kind = 2 by omega]; rfl⟩
    clear hk
    rcases hor with f1 | ⟨f1, f2⟩
    · skip
      by_cases h3 : 8704 < r.size
      · have h3i : (8704 : Int) < (r.size : Int) := by omega
        have h3d : decide ((8704 : Int) < (r.size : Int)) = true := decide_eq_true h3i
        have h3n : decide (8704 < r.size) = true := decide_eq_true h3
        have hb := HBD.out.2 (.inr (.inl h3))
        go_wp2_with fail
        go_meet
        case rel => exact ⟨congrArg Value.bool (decide_eq_true hb).symm, J3⟩
      have h3i : ¬ (8704 : Int) < (r.size : Int) := by omega
      have h3d : decide ((8704 : Int) < (r.size : Int)) = false := decide_eq_false h3i
      have h3n : decide (8704 < r.size) = false := decide_eq_false h3
      go_wp2_with fail
      refine (cW w3).mono ?_
      rintro e w4 ⟨rfl, hb4⟩
      have J4 := Lib.hid (And.intro (J3.out.1.step hb4) (bstep J3.out.2 hb4))
      have hci4 := J4.out.1.ind h4
      clear hb4 hcs hck hci J3 hc2 hc3 hc4 hc5
      by_cases ht : t = s
      rotate_left
      · have htb : (t.toList != s.toList) = true := by rw [bne_bytes, decide_eq_false ht]; rfl
        have hte : (t.toList == s.toList) = false := by rw [beq_bytes, decide_eq_false ht]
        have hb := HBD.out.2 (.inr (.inr (.inl ht)))
        go_wp2_with fail
        go_meet
        case rel => exact ⟨congrArg Value.bool (decide_eq_true hb).symm, J4⟩
      have htb : (t.toList != s.toList) = false := by rw [bne_bytes, decide_eq_true ht]; rfl
      have hte : (t.toList == s.toList) = true := by rw [beq_bytes, decide_eq_true ht]
      by_cases hx : decide (4 < nd) = decide (0 < r.ind)
      rotate_left
      · have hxb : (b1 != b2) = true := by rw [bne_iff_ne, ← HB1.out.2, ← HB2.out.2]; exact hx
        have hxe := bools_ne hxb
        have hb := HBD.out.2 (.inr (.inr (.inr (.inl hx))))
        go_wp2_with fail
        go_meet
        case rel => exact ⟨congrArg Value.bool (decide_eq_true hb).symm, J4⟩
      have hxb : (b1 != b2) = false := by rw [← HB1.out.2, ← HB2.out.2, hx]; simp
      have hxe := bools_eq (b1 := b1) (b2 := b2) (by rw [hxb]; decide)
      by_cases hi : n ≤ r.ind
      · have hii : (n : Int) ≤ (r.ind : Int) := by omega
        have hid : decide ((n : Int) ≤ (r.ind : Int)) = true := decide_eq_true hii
        have hin : decide (n ≤ r.ind) = true := decide_eq_true hi
        have hb := HBD.out.2 (.inr (.inr (.inr (.inr hi))))
        go_wp2_with fail
        go_meet
        case rel => exact ⟨congrArg Value.bool (decide_eq_true hb).symm, J4⟩
      · have hii : ¬ (n : Int) ≤ (r.ind : Int) := by omega
        have hid : decide ((n : Int) ≤ (r.ind : Int)) = false := decide_eq_false hii
        have hin : decide (n ≤ r.ind) = false := decide_eq_false hi
        have hb : ¬ badR n s r := fun hb => by
          rcases HBD.out.1 hb with ⟨h1, h2⟩ | h1 | h1 | h1 | h1
          · exact HK12.out ⟨h1, h2⟩
          · exact h3 h1
          · exact h1 ht
          · exact h1 hx
          · exact hi h1
        go_wp2_with fail
        go_meet
        case rel => exact ⟨congrArg Value.bool (decide_eq_false hb).symm, J4⟩
    · skip
      by_cases h3 : 8704 < r.size
      · have h3i : (8704 : Int) < (r.size : Int) := by omega
        have h3d : decide ((8704 : Int) < (r.size : Int)) = true := decide_eq_true h3i
        have h3n : decide (8704 < r.size) = true := decide_eq_true h3
        have hb := HBD.out.2 (.inr (.inl h3))
        go_wp2_with fail
        go_meet
        case rel => exact ⟨congrArg Value.bool (decide_eq_true hb).symm, J3⟩
      have h3i : ¬ (8704 : Int) < (r.size : Int) := by omega
      have h3d : decide ((8704 : Int) < (r.size : Int)) = false := decide_eq_false h3i
      have h3n : decide (8704 < r.size) = false := decide_eq_false h3
      go_wp2_with fail
      refine (cW w3).mono ?_
      rintro e w4 ⟨rfl, hb4⟩
      have J4 := Lib.hid (And.intro (J3.out.1.step hb4) (bstep J3.out.2 hb4))
      have hci4 := J4.out.1.ind h4
      clear hb4 hcs hck hci J3 hc2 hc3 hc4 hc5
      by_cases ht : t = s
      rotate_left
      · have htb : (t.toList != s.toList) = true := by rw [bne_bytes, decide_eq_false ht]; rfl
        have hte : (t.toList == s.toList) = false := by rw [beq_bytes, decide_eq_false ht]
        have hb := HBD.out.2 (.inr (.inr (.inl ht)))
        go_wp2_with fail
        go_meet
        case rel => exact ⟨congrArg Value.bool (decide_eq_true hb).symm, J4⟩
      have htb : (t.toList != s.toList) = false := by rw [bne_bytes, decide_eq_true ht]; rfl
      have hte : (t.toList == s.toList) = true := by rw [beq_bytes, decide_eq_true ht]
      by_cases hx : decide (4 < nd) = decide (0 < r.ind)
      rotate_left
      · have hxb : (b1 != b2) = true := by rw [bne_iff_ne, ← HB1.out.2, ← HB2.out.2]; exact hx
        have hxe := bools_ne hxb
        have hb := HBD.out.2 (.inr (.inr (.inr (.inl hx))))
        go_wp2_with fail
        go_meet
        case rel => exact ⟨congrArg Value.bool (decide_eq_true hb).symm, J4⟩
      have hxb : (b1 != b2) = false := by rw [← HB1.out.2, ← HB2.out.2, hx]; simp
      have hxe := bools_eq (b1 := b1) (b2 := b2) (by rw [hxb]; decide)
      by_cases hi : n ≤ r.ind
      · have hii : (n : Int) ≤ (r.ind : Int) := by omega
        have hid : decide ((n : Int) ≤ (r.ind : Int)) = true := decide_eq_true hii
        have hin : decide (n ≤ r.ind) = true := decide_eq_true hi
        have hb := HBD.out.2 (.inr (.inr (.inr (.inr hi))))
        go_wp2_with fail
        go_meet
        case rel => exact ⟨congrArg Value.bool (decide_eq_true hb).symm, J4⟩
      · have hii : ¬ (n : Int) ≤ (r.ind : Int) := by omega
        have hid : decide ((n : Int) ≤ (r.ind : Int)) = false := decide_eq_false hii
        have hin : decide (n ≤ r.ind) = false := decide_eq_false hi
        have hb : ¬ badR n s r := fun hb => by
          rcases HBD.out.1 hb with ⟨h1, h2⟩ | h1 | h1 | h1 | h1
          · exact HK12.out ⟨h1, h2⟩
          · exact h3 h1
          · exact h1 ht
          · exact h1 hx
          · exact hi h1
        go_wp2_with fail
        go_meet
        case rel => exact ⟨congrArg Value.bool (decide_eq_false hb).symm, J4⟩
  case rest =>
    obtain ⟨rfl, K⟩ := hcut
    by_cases hbad : badR n s r
    · rw [decide_eq_true hbad]
      have HE : Hid (shapedR img s r = false) := Lib.hid (by rw [HE1.out, if_pos hbad])
      go_wp2
      go_ret
      rw [HE.out]
      exact ⟨rfl, K.out.2⟩
    rw [decide_eq_false hbad]
    have hin : r.ind < n := Nat.lt_of_not_le fun h => hbad (HBD.out.2 (.inr (.inr (.inr (.inr h)))))
    have hs87 : r.size ≤ 8704 := Nat.le_of_not_lt fun h => hbad (HBD.out.2 (.inr (.inl h)))
    have hnd68 := hnc.out hs87
    have hx0 : decide (4 < nd) = decide (0 < r.ind) := Classical.byContradiction fun h => hbad (HBD.out.2 (.inr (.inr (.inr (.inl h)))))
    have HE2 : Hid (shapedR img s r = if (∀ k : Nat, k < 4 → (decide (k < nd) = decide (0 < r.bl.getD k 0))) then (if 4 < nd then decide (tailW img r = List.replicate (tailW img r).length 0) else true) else false) := Lib.hid (by rw [HE1.out, if_neg hbad])
    clear HE1 HBD hbad hx0 hcs hck hci J3
    go_wp2_with fail
    go_loopg [7] 4 (fun gk s7 wr => ∃ k : Nat, k ≤ 4 ∧ 4 - k ≤ gk ∧ s7 = .int .i64 k ∧ wr = wc ∧ Hid (∀ j, j < k → decide (j < nd) = decide (0 < r.bl.getD j 0)))
    case atStart => exact ⟨0, Nat.zero_le _, by omega, rfl, rfl, Lib.hid fun j hj => by omega⟩
    case round =>
      obtain ⟨k, hk4, hgk, rfl, rfl, Q⟩ := hrel
      by_cases hlt : k < 4
      · have hki : (k : Int) < 4 := by omega
        have hcell := K.out.1.bl (j := k) (by omega)
        have HQN : Hid (decide (k < nd) = decide (0 < r.bl.getD k 0) → ∀ j, j < k + 1 → decide (j < nd) = decide (0 < r.bl.getD j 0)) := Lib.hid fun h j hj => by
          by_cases e : j = k
          · subst e; exact h
          · exact Q.out j (by omega)
        have HQF : Hid (¬ decide (k < nd) = decide (0 < r.bl.getD k 0) → shapedR img s r = false) := Lib.hid fun h => by rw [HE2.out, if_neg (fun h2 => h (h2 k hlt))]
        generalize r.bl.getD k 0 = x at hcell HQN HQF
        obtain ⟨b1, hb1⟩ : ∃ b : Bool, decide ((k : Int) < (nd : Int)) = b := ⟨_, rfl⟩
        obtain ⟨b2, hb2⟩ : ∃ b : Bool, decide ((0 : Int) < (x : Int)) = b := ⟨_, rfl⟩
        have hb1n : decide (k < nd) = b1 := by rw [← hb1, decide_eq_decide]; omega
        have hb2n : decide (0 < x) = b2 := by rw [← hb2, decide_eq_decide]; omega
        by_cases hbb : b1 = b2
        · have hbx : (b1 != b2) = false := by rw [hbb]; simp
          have hbe := bools_eq (b1 := b1) (b2 := b2) (by rw [hbx]; decide)
          have QN := Lib.hid (HQN.out (by rw [hb1n, hb2n]; exact hbb))
          clear hbb
          go_wp2_with fail
          go_roundg (4 - (k + 1))
          case measure => omega
          case rel => exact ⟨k + 1, by omega, by omega, by go_num, rfl, QN⟩
        · have hbx : (b1 != b2) = true := by rw [bne_iff_ne]; exact hbb
          have hbe := bools_ne hbx
          have HE := Lib.hid (HQF.out (by rw [hb1n, hb2n]; exact hbb))
          clear hbb
          go_wp2
          go_ret
          rw [HE.out]
          exact ⟨rfl, K.out.2⟩
      · have : k = 4 := by omega
        subst this
        have HE3 : Hid (shapedR img s r = if 4 < nd then decide (tailW img r = List.replicate (tailW img r).length 0) else true) := Lib.hid (by rw [HE2.out, if_pos Q.out])
        clear HE2 Q
        by_cases h4n : 4 < nd
        rotate_left
        · have h4i : ¬ (4 : Int) < (nd : Int) := by omega
          have h4d : decide ((4 : Int) < (nd : Int)) = false := decide_eq_false h4i
          have h4dn : decide (4 < nd) = false := decide_eq_false h4n
          have HE : Hid (shapedR img s r = true) := Lib.hid (by rw [HE3.out, if_neg h4n])
          go_wp2
          go_ret
          rw [HE.out]
          exact ⟨rfl, K.out.2⟩
        have h4i : (4 : Int) < (nd : Int) := by omega
        have h4d : decide ((4 : Int) < (nd : Int)) = true := decide_eq_true h4i
        have h4dn : decide (4 < nd) = true := decide_eq_true h4n
        have hci := K.out.1.ind h4
        obtain ⟨b, o, rfl, hb, hcS⟩ := (H.out.step K.out.2).str hin
        have hsz := blk_fit_size HF.out (i := r.ind) (by omega)
        have hini : (r.ind : Int) < (n : Int) := by omega
        generalize blk img r.ind = sb at hcS hsz HTW
        generalize r.ind = q at *
        obtain ⟨m, hm⟩ : ∃ m, m = nd - 4 := ⟨_, rfl⟩
        rw [← hm] at HTW
        have hmi : (nd : Int) - 4 = (m : Int) := by omega
        have hm64 : m ≤ 64 := by omega
        have hw1 : IntKind.i64.wrap (2 * (m : Int)) = 2 * (m : Int) := by rw [IntKind.wrap_i64]; omega
        have hn1 : (2 * (m : Int)).toNat = 2 * m := by omega
        have ho1 : (0 : Int) ≤ 2 * (m : Int) := by omega
        have ho3 : 2 * (m : Int) ≤ (sb.size : Int) := by omega
        have hE : sb.extract (2 * m) sb.size = mkB (tailW img r) := by
          rw [HTW.out]
          apply ByteArray.ext
          apply Array.ext'
          rw [ext_toList]
          simp only [mkB, List.toList_toArray]
          rw [List.take_of_length_le (by simp)]
        have hts : (sb.extract (2 * m) sb.size).size = (tailW img r).length := by rw [hE, mkB_size]
        have hcmp : ∀ x : ByteArray, x = zeroN (tailW img r).length → ((sb.extract (2 * m) sb.size).toList != x.toList) = !decide (tailW img r = List.replicate (tailW img r).length 0) := fun x hx => by
          rw [bne_bytes, hx, hE, zeroN_mkB]
          congr 1
          rw [decide_eq_decide, mkB_inj]
        have hk2 : (tailW img r).length ≤ 128 := by rw [HTW.out, List.length_drop]; simp; omega
        have HE4 : Hid (shapedR img s r = decide (tailW img r = List.replicate (tailW img r).length 0)) := Lib.hid (by rw [HE3.out, if_pos h4n])
        clear hE HE3 hm HTW
        obtain ⟨bb, hbb⟩ : ∃ b : Bool, decide (tailW img r = List.replicate (tailW img r).length 0) = b := ⟨_, rfl⟩
        rw [hbb] at hcmp HE4
        clear hbb
        generalize (tailW img r).length = tl at hts hcmp hk2
        obtain ⟨tx, htx⟩ : ∃ x, x = sb.extract (2 * m) sb.size := ⟨_, rfl⟩
        rw [← htx] at hts hcmp
        have hex : sb.extract (2 * m) 128 = tx := by rw [htx, hsz]
        have hex2 : sb.extract (2 * m) sb.size = tx := htx.symm
        clear htx
        subst hts
        have hne := hcmp (zeroN tx.size) rfl
        have heq : (tx.toList == (zeroN tx.size).toList) = bb := by
          have h : (!(tx.toList == (zeroN tx.size).toList)) = !bb := hne
          revert h
          cases (tx.toList == (zeroN tx.size).toList) <;> cases bb <;> simp
        clear hcmp
        go_wp2_with (at_make; refine wpList_make_full _ rfl _ _ 53 rfl wr.heap.size 5 i0 _ 1 Tryz.underlying53 hi0 hz0 hz1 .i64 .i64 tx.size tx.size tx.size rfl rfl rfl rfl ?_ ?_ ?_ ?_)
        · rw [hz2]; omega
        · simp only [maxLen]; omega
        · exact Nat.le_refl _
        intro w5 ho5 hg5
        have hb5 : Below wr.heap.size wr w5 := (Below.refl _ _).grown hg5 (Nat.le_refl _) (by intro k hk; cases hk)
        have hcv5 := made_conv ho5
        have JF := Lib.hid (bstep K.out.2 hb5)
        clear ho5 hg5 hb5
        generalize zeroN tx.size = zz at *
        cases bb with
        | true =>
          have hne2 : (tx.toList != zz.toList) = false := hne
          clear hne
          go_wp2
          go_ret
          rw [HE4.out]
          exact ⟨rfl, JF.out⟩
        | false =>
          have hne2 : (tx.toList != zz.toList) = true := hne
          clear hne
          go_wp2
          go_ret
          rw [HE4.out]
          exact ⟨rfl, JF.out⟩

end Go.Proofs.YtpdfkakhahfcjaaGreat
