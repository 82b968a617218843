/-
  What an inode's data blocks hold, cut where it ends: the program's function.
-/
import Derived.Test.YtpdfkakhahfcjaaGreatG14
import Derived.Test.YtpdfkakhahfcjaaGreatG08
namespace Go.Proofs.YtpdfkakhahfcjaaGreat
open Go.RowKit Go.Shelf
attribute [local go_sem] Oper.semAt_some

def PartsP (w : World) (F : List UInt8) (size : Nat) (e : Ending) (w' : World) : Prop := e = .returned (.tuple #[.string (mkB (F.take size)), .string (mkB (F.drop size))]) ∧ Below w.heap.size w w'
theorem extract_take (l : List UInt8) (k : Nat) : (mkB l).extract 0 k = mkB (l.take k) := by
  apply ByteArray.ext
  rw [ByteArray.data_extract]
  apply Array.ext'
  simp [mkB]
theorem extract_drop (l : List UInt8) (k : Nat) : (mkB l).extract k l.length = mkB (l.drop k) := by
  apply ByteArray.ext
  rw [ByteArray.data_extract]
  apply Array.ext'
  simp [mkB, List.take_of_length_le]

def partV5 (g s n k : Nat) : Nat → Value → World → Prop
  | 0 => eqV (.pointer (some ⟨g, 1, none⟩))
  | 1 => eqV (.pointer (some ⟨g, 2, none⟩))
  | 2 => eqV (.int .i64 (s : Int))
  | 3 => eqV (.int .i64 (n : Int))
  | 4 => eqV (.int .i64 (k : Int))
  | 5 => eqV (.int .i64 (k : Int))
  | _ => fun _ _ => True
theorem partV5_stable (g s n k : Nat) (j : Nat) (v : Value) (w w' : World) (h : partV5 g s n k j v w) : partV5 g s n k j v w' := by
  match j, h with
  | 0, h => exact h
  | 1, h => exact h
  | 2, h => exact h
  | 3, h => exact h
  | 4, h => exact h
  | 5, h => exact h
  | _ + 6, _ => trivial
def partV6 (F : List UInt8) (k : Nat) : Nat → Value → World → Prop
  | 0 => eqV (.string (mkB F))
  | 1 => eqV (.int .i64 (k : Int))
  | 2 => eqV (.string (mkB (F.take k)))
  | 3 => eqV (.string (mkB F))
  | 4 => eqV (.int .i64 (k : Int))
  | 5 => eqV (.string (mkB (F.drop k)))
  | 6 => eqV (.string (mkB (F.take k)))
  | 7 => eqV (.string (mkB (F.drop k)))
  | _ => fun _ _ => True
theorem partV6_stable (F : List UInt8) (k : Nat) (j : Nat) (v : Value) (w w' : World) (h : partV6 F k j v w) : partV6 F k j v w' := by
  match j, h with
  | 0, h => exact h
  | 1, h => exact h
  | 2, h => exact h
  | 3, h => exact h
  | 4, h => exact h
  | 5, h => exact h
  | 6, h => exact h
  | 7, h => exact h
  | _ + 8, _ => trivial

set_option maxRecDepth 100000 in
set_option maxHeartbeats 8000000 in
theorem parts_any (r : RecI) (hr : OkR r) (A : Option Addr) (n c : Nat) (img : List ByteArray) (w : World) (h : Reads w w.heap.size 1 A n (encS img)) :
    Calls Tryz.prog 60 #[valR r, .slice A n c] w (PartsP w (flatR img r) r.size) := by
  have hmx : Tryz.prog.follows .mixedOrders = true := by kernel_rfl
  refine (callsIn_wide (n := 3)).1 ?_
  refine callsIn_of_wp_marks Tryz.func60 rfl trivial ?_ rfl
  refine wpIn_wide.2 ?_
  unfold valR
  simp only [Tryz.ntmps60, List.size_toArray, List.length_cons, List.length_nil, Nat.reduceAdd, Nat.reduceSub, Array.replicate_succ, Array.replicate_zero, List.push_toArray, List.append_toArray, List.nil_append, List.cons_append]
  have B1 : BR (((w.alloc (.cells (cellsR r).toArray 62)).alloc (.cells #[.slice A n c] 22)).alloc (.cells #[.pointer none, .slice none 0 0] 114)) w.heap.size r := ((BR.new w r).alloc _).alloc _
  go_wp2_with (first | (refine wpList_load_mid rfl _ _ rfl w.heap.size 0 rfl (cellsR r) _ B1.range Tryz.underlying62 rfl (by rw [cellsR_length hr]; exact sizeR) ?_) | (go_at_call 44; refine ((callsIn_wide (n := 2)).1 (blkFn_in 2 r _)).mono ?_; rintro e w' ⟨rfl, rfl⟩))
  refine (wpIn_wide (n := 3)).1 ?_
  have B2 := B1.alloc (.cells (cellsR r).toArray 62)
  have bS := BR.new (((w.alloc (.cells (cellsR r).toArray 62)).alloc (.cells #[.slice A n c] 22)).alloc (.cells #[.pointer none, .slice none 0 0] 114)) r
  have bI : ((((w.alloc (.cells (cellsR r).toArray 62)).alloc (.cells #[.slice A n c] 22)).alloc (.cells #[.pointer none, .slice none 0 0] 114)).alloc (.cells (cellsR r).toArray 62)).heap[w.heap.size + 1]? = some (.cells #[.slice A n c] 22 (0, 0)) := by
    rw [Below.heap_alloc _ _ _ (by simp), Below.heap_alloc _ _ _ (by simp)]
    simpa using heap_alloc_new (w.alloc (.cells (cellsR r).toArray 62)) (.cells #[.slice A n c] 22)
  have bBh : ((((w.alloc (.cells (cellsR r).toArray 62)).alloc (.cells #[.slice A n c] 22)).alloc (.cells #[.pointer none, .slice none 0 0] 114)).alloc (.cells (cellsR r).toArray 62)).heap[w.heap.size + 1 + 1]? = some (.cells #[.pointer none, .slice none 0 0] 114 (0, 0)) := by
    rw [Below.heap_alloc _ _ _ (by simp)]
    simpa using heap_alloc_new ((w.alloc (.cells (cellsR r).toArray 62)).alloc (.cells #[.slice A n c] 22)) (.cells #[.pointer none, .slice none 0 0] 114)
  have isB0 : IsB w.heap.size (w.heap.size + 1 + 1) [] ((((w.alloc (.cells (cellsR r).toArray 62)).alloc (.cells #[.slice A n c] 22)).alloc (.cells #[.pointer none, .slice none 0 0] 114)).alloc (.cells (cellsR r).toArray 62)) := .inl ⟨by omega, _, bBh, World.ownsRowF_nil _ _ _ _, by simp [Value.ownBlock]⟩
  have hB0 : Below w.heap.size w ((((w.alloc (.cells (cellsR r).toArray 62)).alloc (.cells #[.slice A n c] 22)).alloc (.cells #[.pointer none, .slice none 0 0] 114)).alloc (.cells (cellsR r).toArray 62)) := ((((Below.refl _ w).alloc (Nat.le_refl _) _).alloc (by simp) _).alloc (by simp; omega) _).alloc (by simp; omega) _
  have hz : w.heap.size ≤ ((((w.alloc (.cells (cellsR r).toArray 62)).alloc (.cells #[.slice A n c] 22)).alloc (.cells #[.pointer none, .slice none 0 0] 114)).alloc (.cells (cellsR r).toArray 62)).heap.size := hB0.size
  simp only [World.size_alloc] at bS
  have hszB : w.heap.size + 1 + 1 < ((((w.alloc (.cells (cellsR r).toArray 62)).alloc (.cells #[.slice A n c] 22)).alloc (.cells #[.pointer none, .slice none 0 0] 114)).alloc (.cells (cellsR r).toArray 62)).heap.size := by simp
  generalize ((((w.alloc (.cells (cellsR r).toArray 62)).alloc (.cells #[.slice A n c] 22)).alloc (.cells #[.pointer none, .slice none 0 0] 114)).alloc (.cells (cellsR r).toArray 62)) = w4 at B2 bS bI bBh isB0 hB0 hz hszB ⊢
  have hsz4 : w4.heap.size = w4.heap.size := rfl
  have HH := Lib.hid h
  clear B1 h
  refine wpIn_rangeFunc_ownG rfl (by omega) (gf := 76) (lb := #[.pointer (some ⟨w.heap.size + 1 + 1 + 1, 0, none⟩)]) rfl trivial (enters_of Tryz.func76 (by kernel_rfl) rfl)
    (blk_stops 2 (by omega) (w.heap.size + 1 + 1 + 1) r hr (KpB w.heap.size (w.heap.size + 1 + 1)) KpB.trans (KpB.refl _ _) w4 bS (fun W1 W2 h1 hk k cs fr hge hh => hk.kept k _ hh rfl (by omega) (fun c fz e => by cases e))) KpB.trans (kpB_put hz) (Below.refl _ _) (fun _ => rfl)
    (InvP w w4 img) NoP (invP_own hz) ?ownx ⟨isB0, KpB.refl _ _ _⟩
    (fun i => { tmps := #[.agg (cellsR r).toArray, .slice A n c, .pointer (some ⟨w.heap.size, 0, none⟩), .pointer (some ⟨w.heap.size + 1, 0, none⟩), .string ⟨#[]⟩, .string ⟨#[]⟩, .pointer (some ⟨w.heap.size + 1 + 1, 0, none⟩), undef, .int .i64 (i.2 : Int), undef, .agg (cellsR r).toArray, .func (.func 76) #[] #[.pointer (some ⟨w.heap.size + 1 + 1 + 1, 0, none⟩)], .int .i64 (i.1 : Int), .int .i64 (i.2 : Int), undef, undef, undef, undef, undef, undef, undef, undef, undef, undef, undef, undef, undef, undef, undef], defers := [] }) ?assign ?body ?done ?stop
  case ownx =>
    rintro c pre X Y row h0 hg hr
    exact h0.elim
  case assign =>
    intro l i W K hK
    gi_wp2
    exact hK
  case body =>
    rintro l pre i W ⟨hB, hK⟩ hlt
    have hI := hK.kept (w.heap.size + 1) _ bI rfl (by omega) (fun c fz e => by cases e)
    have hcI : W.cell? ⟨w.heap.size + 1, 0, none⟩ = some (.slice A n c) := by simp [World.cell?, hI]
    have cb := blockI_any A n c img i.2 W (HH.out.step (hB0.trans hK.below))
    have hlen : (flatP img pre).length ≤ 8704 := by rw [flatP_length]; unfold lenR at hlt; omega
    have hsz := blkI_size img i.2
    have HF : Hid (flatP img (pre ++ [i]) = flatP img pre ++ (blkI img i.2).data.toList) := Lib.hid (by simp [flatP])
    have HX := Lib.hid (And.intro hB (And.intro hK hlen))
    clear bS bI bBh isB0 hlt hlen B2 hI hB
    generalize blkI img i.2 = s at cb hsz HF
    gi_wp2_with (refine ⟨trivial, (callsIn_wide.2 cb).mono ?_⟩; rintro e w5 ⟨rfl, hb5⟩)
    have hB5 := isB_below HX.out.1 hb5
    have cw := Tryz.Builder_WriteString_k w.heap.size (w.heap.size + 1 + 1) _ s w5 hB5 (by have := HX.out.2.2; rw [Lib.byteCells_length, hsz]; omega) (Nat.le_trans hz (Nat.le_trans HX.out.2.1.below.size hb5.size))
    refine ⟨trivial, (callsIn_wide.2 cw).mono ?_⟩
    rintro e w6 ⟨rfl, h6, hb6, hk6⟩
    have hkW : Lib.OthersKept 5 (some (w.heap.size + 1 + 1)) W w6 := (kept_below hb5).trans hk6
    have hbW : Below w.heap.size W w6 := (hb5.mono (Nat.le_trans hz HX.out.2.1.below.size)).trans hb6
    have hbl : ∃ c t f, W.heap[w.heap.size + 1 + 1]? = some (.cells c t f) := by
      rcases HX.out.1 with ⟨_, v, hh, _⟩ | ⟨_, v, hh, _⟩ <;> exact ⟨_, _, _, hh⟩
    have HD : Hid (KeepsFrom w4.heap.size W w6 ∧ KpB w.heap.size (w.heap.size + 1 + 1) W w6 ∧ InvP w w4 img (pre ++ [i]) w6) := Lib.hid ⟨(keeps_of hbW.size hkW hbl).from _, KpB.of hbW hkW, ⟨by
      rw [HF.out]
      unfold IsB
      rw [Lib.byteCells_append]
      exact .inr h6, HX.out.2.1.trans (KpB.of hbW hkW)⟩⟩
    clear hkW hbW hbl h6 hb6 hk6 hB5 hb5 cw cb
    gi_wp2
    exact HD.out
  case stop =>
    rintro D c pre W hD _ h0 hK
    exact h0.elim
  case done =>
    rintro D ys W hD hys ⟨hB, hK⟩ hKD
    have hB' : IsB w.heap.size (w.heap.size + 1 + 1) (flatR img r) W := by rw [hys, flatP_data hr] at hB; exact hB
    have hLL : (flatR img r).length ≤ 8704 := by rw [← flatP_data hr, flatP_length, pairsR_length]; unfold lenR; omega
    have hsz := (B2.keptB hK (by omega)).size
    have hDb : D ≠ w.heap.size + 1 + 1 := by omega
    have HE : Hid ((flatR img r).take (min r.size (flatR img r).length) = (flatR img r).take r.size ∧ (flatR img r).drop (min r.size (flatR img r).length) = (flatR img r).drop r.size) := Lib.hid (by
      generalize flatR img r = F
      by_cases hq : r.size ≤ F.length
      · rw [Nat.min_eq_left hq]; exact ⟨rfl, rfl⟩
      · rw [Nat.min_eq_right (by omega), List.take_of_length_le (Nat.le_refl _), List.take_of_length_le (by omega), List.drop_of_length_le (Nat.le_refl _), List.drop_of_length_le (by omega)]; exact ⟨rfl, rfl⟩)
    generalize hFd : flatR img r = F at hB' hLL HE ⊢
    have HFD := Lib.hid hFd
    clear hFd
    have HW := Lib.hid (And.intro hB' (And.intro (hB0.trans hK.below) (And.intro hKD hDb)))
    have hs32 : r.size < 4294967296 := hr.size
    have hzD : w.heap.size ≤ D := Nat.le_trans hz hD
    clear hys hB hK B2 bS bI bBh isB0 hB' hKD hDb hD
    obtain ⟨L, hL⟩ : ∃ L, L = F.length := ⟨_, rfl⟩
    rw [← hL] at HE hLL
    have HLL := Lib.hid hL
    obtain ⟨k, hk⟩ : ∃ k, k = min r.size L := ⟨_, rfl⟩
    rw [← hk] at HE
    have hkL : k ≤ L := by omega
    have HK := Lib.hid hk
    clear hk hL
    go_wp2
    refine wp_region_rel (fun w' => w' = W.drew) (fun _ a b => b = a) (partV5 w.heap.size r.size L k) hmx (by kernel_rfl) rfl (fun i a b h1 h2 => by rw [h2]; exact h1) (fun i j v a b _ _ h => partV5_stable w.heap.size r.size L k j v a b h) ?_ ?_
    · refine ⟨?_, ?_, ?_, ?_, ?_, ?_, trivial⟩
      · intro V W1 hC hd K hK
        clear hd
        simp only [laidL, Act.put, List.setIfInBounds_toArray, List.set_cons_zero, List.set_cons_succ] at hK ⊢
        subst hC
        go_simp
        exact hK _ _ ⟨rfl, rfl⟩
      · intro V W1 hC hd K hK
        have q0 : partV5 w.heap.size r.size L k 0 (V 0) W1 := hd.1
        have e0 : V 0 = .pointer (some ⟨w.heap.size, 1, none⟩) := q0
        clear q0
        clear hd
        simp only [laidL, Act.put, List.setIfInBounds_toArray, List.set_cons_zero, List.set_cons_succ] at hK ⊢
        generalize V 0 = v0 at e0 hK ⊢
        subst e0
        subst hC
        go_simp
        exact hK _ _ ⟨rfl, rfl⟩
      · intro V W1 hC hd K hK
        have q1 : partV5 w.heap.size r.size L k 1 (V 1) W1 := hd.1
        have e1 : V 1 = .pointer (some ⟨w.heap.size, 2, none⟩) := q1
        clear q1
        clear hd
        simp only [laidL, Act.put, List.setIfInBounds_toArray, List.set_cons_zero, List.set_cons_succ] at hK ⊢
        generalize V 1 = v1 at e1 hK ⊢
        subst e1
        subst hC
        have hc : W.drew.cell? ⟨w.heap.size, 2, none⟩ = some (.int .i64 (r.size : Int)) := hsz
        go_simp
        exact hK _ _ ⟨rfl, rfl⟩
      · intro V W1 hC hd K hK
        clear hd
        simp only [laidL, Act.put, List.setIfInBounds_toArray, List.set_cons_zero, List.set_cons_succ] at hK ⊢
        subst hC
        go_simp
        go_at_call 90
        refine (Tryz.Builder_Len_f w.heap.size (w.heap.size + 1 + 1) _ _ (isB_below HW.out.1 (Below.refl _ _).drew)).mono ?_
        rintro e wz ⟨rfl, rfl⟩
        exact hK _ _ ⟨rfl, congrArg (fun z : Nat => Value.int .i64 (z : Int)) (by rw [Lib.byteCells_length]; exact HLL.out.symm)⟩
      · intro V W1 hC hd K hK
        have q2 : partV5 w.heap.size r.size L k 2 (V 2) W1 := hd.1
        have e2 : V 2 = .int .i64 (r.size : Int) := q2
        clear q2
        have q3 : partV5 w.heap.size r.size L k 3 (V 3) W1 := hd.2.1
        have e3 : V 3 = .int .i64 (L : Int) := q3
        clear q3
        clear hd
        simp only [laidL, Act.put, List.setIfInBounds_toArray, List.set_cons_zero, List.set_cons_succ] at hK ⊢
        generalize V 2 = v2 at e2 hK ⊢
        subst e2
        generalize V 3 = v3 at e3 hK ⊢
        subst e3
        subst hC
        go_simp
        exact hK _ _ ⟨rfl, congrArg (Value.int .i64) (by have := HK.out; omega)⟩
      · intro V W1 hC hd K hK
        have q4 : partV5 w.heap.size r.size L k 4 (V 4) W1 := hd.1
        have e4 : V 4 = .int .i64 (k : Int) := q4
        clear q4
        clear hd
        simp only [laidL, Act.put, List.setIfInBounds_toArray, List.set_cons_zero, List.set_cons_succ] at hK ⊢
        generalize V 4 = v4 at e4 hK ⊢
        subst e4
        subst hC
        go_simp
        exact hK _ _ ⟨rfl, rfl⟩
    · intro V W1 hC hV
      have e5 : V 5 = .int .i64 (k : Int) := hV 5 (show 5 < 6 by decide)
      clear hV
      subst hC
      simp only [laidL, Act.put, List.setIfInBounds_toArray, List.set_cons_zero, List.set_cons_succ]
      generalize V 5 = v5 at e5 ⊢
      subst e5
      have HW2 : Hid (IsB w.heap.size (w.heap.size + 1 + 1) F W.drew.drew ∧ Below w.heap.size w W.drew.drew ∧ W.drew.drew.heap[D]? = some (.deferred (some []))) := Lib.hid ⟨isB_below (isB_below HW.out.1 (Below.refl _ _).drew) (Below.refl _ _).drew, HW.out.2.1.drew.drew, HW.out.2.2.1⟩
      have hwz : w.heap.size ≤ W.drew.heap.size := HW.out.2.1.size
      go_wp2
      refine wp_region_rel (fun w' => IsB w.heap.size (w.heap.size + 1 + 1) F w' ∧ Below w.heap.size w w' ∧ w'.heap[D]? = some (.deferred (some []))) (fun _ a b => Below w.heap.size a b ∧ Lib.OthersKept 5 (some (w.heap.size + 1 + 1)) a b ∧ (IsB w.heap.size (w.heap.size + 1 + 1) F a → IsB w.heap.size (w.heap.size + 1 + 1) F b)) (partV6 F k) hmx (by kernel_rfl) HW2.out (fun i a b h1 h2 => ⟨h2.2.2 h1.1, h1.2.1.trans h2.1, h2.2.1 D _ h1.2.2 (by simpa using HW.out.2.2.2) (fun c fz e => by cases e)⟩) (fun i j v a b _ _ h => partV6_stable F k j v a b h) ?_ ?_
      · refine ⟨?_, ?_, ?_, ?_, ?_, ?_, ?_, ?_, trivial⟩
        · intro V6 W1 hC hd K hK
          clear hd
          simp only [laidL, Act.put, List.setIfInBounds_toArray, List.set_cons_zero, List.set_cons_succ] at hK ⊢
          go_simp
          go_at_call 91
          refine (Tryz.Builder_String_any_k w.heap.size (w.heap.size + 1 + 1) F _ hC.1 hC.2.1.size).mono ?_
          rintro e wz ⟨rfl, hbz, hlz, hkz⟩
          exact hK _ _ ⟨⟨hlz, hkz, fun _ => hbz⟩, rfl⟩
        · intro V6 W1 hC hd K hK
          clear hd
          simp only [laidL, Act.put, List.setIfInBounds_toArray, List.set_cons_zero, List.set_cons_succ] at hK ⊢
          go_simp
          exact hK _ _ ⟨⟨Below.refl _ _, Lib.OthersKept.refl _ _ _, fun h => h⟩, rfl⟩
        · intro V6 W1 hC hd K hK
          have q0 : partV6 F k 0 (V6 0) W1 := hd.1
          have e0 : V6 0 = .string (mkB F) := q0
          clear q0
          have q1 : partV6 F k 1 (V6 1) W1 := hd.2.1
          have e1 : V6 1 = .int .i64 (k : Int) := q1
          clear q1
          clear hd
          simp only [laidL, Act.put, List.setIfInBounds_toArray, List.set_cons_zero, List.set_cons_succ] at hK ⊢
          generalize V6 0 = v0 at e0 hK ⊢
          subst e0
          generalize V6 1 = v1 at e1 hK ⊢
          subst e1
          have hfs : (mkB F).size = L := by rw [mkB_size]; exact HLL.out.symm
          have hk1 : (k : Int) ≤ ((mkB F).size : Int) := by omega
          go_simp
          exact hK (.string ((mkB F).extract 0 k)) _ ⟨⟨Below.refl _ _, Lib.OthersKept.refl _ _ _, fun h => h⟩, congrArg Value.string (extract_take F k)⟩
        · intro V6 W1 hC hd K hK
          clear hd
          simp only [laidL, Act.put, List.setIfInBounds_toArray, List.set_cons_zero, List.set_cons_succ] at hK ⊢
          go_simp
          go_at_call 91
          refine (Tryz.Builder_String_any_k w.heap.size (w.heap.size + 1 + 1) F _ hC.1 hC.2.1.size).mono ?_
          rintro e wz ⟨rfl, hbz, hlz, hkz⟩
          exact hK _ _ ⟨⟨hlz, hkz, fun _ => hbz⟩, rfl⟩
        · intro V6 W1 hC hd K hK
          clear hd
          simp only [laidL, Act.put, List.setIfInBounds_toArray, List.set_cons_zero, List.set_cons_succ] at hK ⊢
          go_simp
          exact hK _ _ ⟨⟨Below.refl _ _, Lib.OthersKept.refl _ _ _, fun h => h⟩, rfl⟩
        · intro V6 W1 hC hd K hK
          have q3 : partV6 F k 3 (V6 3) W1 := hd.1
          have e3 : V6 3 = .string (mkB F) := q3
          clear q3
          have q4 : partV6 F k 4 (V6 4) W1 := hd.2.1
          have e4 : V6 4 = .int .i64 (k : Int) := q4
          clear q4
          clear hd
          simp only [laidL, Act.put, List.setIfInBounds_toArray, List.set_cons_zero, List.set_cons_succ] at hK ⊢
          generalize V6 3 = v3 at e3 hK ⊢
          subst e3
          generalize V6 4 = v4 at e4 hK ⊢
          subst e4
          have hfs : (mkB F).size = L := by rw [mkB_size]; exact HLL.out.symm
          have hk1 : (k : Int) ≤ ((mkB F).size : Int) := by omega
          go_simp
          exact hK (.string ((mkB F).extract k L)) _ ⟨⟨Below.refl _ _, Lib.OthersKept.refl _ _ _, fun h => h⟩, congrArg Value.string (by rw [HLL.out]; exact extract_drop F k)⟩
        · intro V6 W1 hC hd K hK
          have q2 : partV6 F k 2 (V6 2) W1 := hd.1
          have e2 : V6 2 = .string (mkB (F.take k)) := q2
          clear q2
          clear hd
          simp only [laidL, Act.put, List.setIfInBounds_toArray, List.set_cons_zero, List.set_cons_succ] at hK ⊢
          generalize V6 2 = v2 at e2 hK ⊢
          subst e2
          go_simp
          exact hK _ _ ⟨⟨Below.refl _ _, Lib.OthersKept.refl _ _ _, fun h => h⟩, rfl⟩
        · intro V6 W1 hC hd K hK
          have q5 : partV6 F k 5 (V6 5) W1 := hd.1
          have e5 : V6 5 = .string (mkB (F.drop k)) := q5
          clear q5
          clear hd
          simp only [laidL, Act.put, List.setIfInBounds_toArray, List.set_cons_zero, List.set_cons_succ] at hK ⊢
          generalize V6 5 = v5 at e5 hK ⊢
          subst e5
          go_simp
          exact hK _ _ ⟨⟨Below.refl _ _, Lib.OthersKept.refl _ _ _, fun h => h⟩, rfl⟩
      · intro V6 W1 hC hV
        have e6 : V6 6 = .string (mkB (F.take k)) := hV 6 (show 6 < 8 by decide)
        have e7 : V6 7 = .string (mkB (F.drop k)) := hV 7 (show 7 < 8 by decide)
        rw [HE.out.1] at e6
        rw [HE.out.2] at e7
        have HC := Lib.hid hC
        clear hV hC
        simp only [laidL, Act.put, List.setIfInBounds_toArray, List.set_cons_zero, List.set_cons_succ]
        generalize V6 6 = v6 at e6 ⊢
        generalize V6 7 = v7 at e7 ⊢
        subst e6
        subst e7
        go_wp2
        refine ⟨by simp, .inl ⟨_, _, rfl, run_takeDeferred (show W1.heap[D]? = some (.deferred (some [])) from HC.out.2.2), ?_⟩⟩
        refine ⟨_, results_tmp2 rfl _ _ _, ?_⟩
        exact ⟨by rw [HFD.out]; rfl, HC.out.2.1.trans (belowF_put (z := w.heap.size) (Nat.le_refl _) hzD W1 _ _ HC.out.2.2 rfl)⟩

end Go.Proofs.YtpdfkakhahfcjaaGreat

/-
  What an inode holds.
-/
namespace Go.Proofs.YtpdfkakhahfcjaaGreat
open Go.RowKit

def readI (img : List ByteArray) (i : Int) : ByteArray × Int := if (heldI img i).2 = 0 then (mkB ((flatR img (heldI img i).1).take (heldI img i).1.size), 0) else (⟨#[]⟩, (heldI img i).2)
def ReadP (w : World) (x : ByteArray × Int) (e : Ending) (w' : World) : Prop := e = .returned (.tuple #[.string x.1, .int .i64 x.2]) ∧ Below w.heap.size w w'

set_option maxRecDepth 100000 in
set_option maxHeartbeats 4000000 in
theorem readI_any (A : Option Addr) (n c : Nat) (img : List ByteArray) (i : Int) (w : World) (h : Reads w w.heap.size 1 A n (encS img)) (hn : n ≤ 512) :
    Calls Tryz.prog 26 #[.slice A n c, .int .i64 i] w (ReadP w (readI img i)) := by
  have hz := fun W => zero_run W
  have hl := h.lenS
  have cg : Calls Tryz.prog 38 #[.slice A n c, .int .i64 i] w fun e w' => e = .returned (.tuple #[.agg (cellsR (heldI img i).1).toArray, .int .i64 (heldI img i).2]) ∧ Below w.heap.size w w' := held_any A n c img i w h hn
  have hok := heldI_ok img i (by omega)
  have HB : Hid (readI img i = if (heldI img i).2 = 0 then (mkB ((flatR img (heldI img i).1).take (heldI img i).1.size), 0) else (⟨#[]⟩, (heldI img i).2)) := Lib.hid rfl
  have H := Lib.hid h
  clear h hl
  generalize heldI img i = x at cg hok HB
  obtain ⟨r, ec⟩ := x
  dsimp only at cg hok HB
  have HR := Lib.hid hok
  have cp : ∀ W, Reads W W.heap.size 1 A n (encS img) → Calls Tryz.prog 60 #[.agg (cellsR r).toArray, .slice A n c] W fun e w' => e = .returned (.tuple #[.string (mkB ((flatR img r).take r.size)), .string (mkB ((flatR img r).drop r.size))]) ∧ Below W.heap.size W w' := fun W hW => parts_any r hok A n c img W hW
  clear hok
  by_cases h0 : ec = 0
  · have HE : Hid (readI img i = (mkB ((flatR img r).take r.size), 0)) := Lib.hid (by rw [HB.out, if_pos h0])
    subst h0
    go_enter Tryz.func26, Tryz.ntmps26
    go_wp2_with fail
    refine cg.mono ?_
    rintro e w1 ⟨rfl, hb1⟩
    have B2 := (BR.new w1 (zeroR 0)).setRow r
    have bb2 : Below w.heap.size w ((w1.alloc (.cells (cellsR (zeroR 0)).toArray 62)).setRow w1.heap.size (cellsR r).toArray) := hb1.trans (((((Below.refl _ w1).alloc (Nat.le_refl _) _).trans (below_setRow _ (Nat.le_refl _) _))).mono hb1.size)
    have HX := Lib.hid (And.intro B2 bb2)
    clear B2 bb2 hb1 cg
    go_wp2_with (first | (refine wpList_store_row rfl _ _ _ rfl w1.heap.size (cellsR r).toArray rfl rfl _ (cellsR (zeroR 0)).toArray (heap_alloc_new w1 _) (sizeRr HR.out) (holdR okz HR.out) (all_oneCell_toArray (cellsR_one _)) ?_) | (refine wpList_load_mid rfl _ _ rfl w1.heap.size 0 rfl (cellsR r) _ HX.out.1.range Tryz.underlying62 rfl (by rw [cellsR_length HR.out]; exact sizeR) ?_))
    refine (cp _ (H.out.step HX.out.2)).mono ?_
    rintro e w3 ⟨rfl, hb3⟩
    have HY := Lib.hid (HX.out.2.trans (hb3.mono HX.out.2.size))
    clear hb3 cp
    go_wp2
    go_ret2
    rw [HE.out]
    exact ⟨rfl, HY.out⟩
  · have HE : Hid (readI img i = (⟨#[]⟩, ec)) := Lib.hid (by rw [HB.out, if_neg h0])
    have hne : (ec != 0) = true := by rw [bne_iff_ne]; exact h0
    clear h0
    go_enter Tryz.func26, Tryz.ntmps26
    go_wp2_with fail
    refine cg.mono ?_
    rintro e w1 ⟨rfl, hb1⟩
    have B2 := (BR.new w1 (zeroR 0)).setRow r
    have bb2 : Below w.heap.size w ((w1.alloc (.cells (cellsR (zeroR 0)).toArray 62)).setRow w1.heap.size (cellsR r).toArray) := hb1.trans (((((Below.refl _ w1).alloc (Nat.le_refl _) _).trans (below_setRow _ (Nat.le_refl _) _))).mono hb1.size)
    have HX := Lib.hid (And.intro B2 bb2)
    clear B2 bb2 hb1 cg
    go_wp2_with (refine wpList_store_row rfl _ _ _ rfl w1.heap.size (cellsR r).toArray rfl rfl _ (cellsR (zeroR 0)).toArray (heap_alloc_new w1 _) (sizeRr HR.out) (holdR okz HR.out) (all_oneCell_toArray (cellsR_one _)) ?_)
    go_ret2
    rw [HE.out]
    exact ⟨rfl, HX.out.2⟩

end Go.Proofs.YtpdfkakhahfcjaaGreat

/-
  Blocks given back, as the program does: the image is the call's own.
-/
namespace Go.Proofs.YtpdfkakhahfcjaaGreat
open Go.RowKit

/-- An image of the call's own, and an error. -/
def ImgsO (w w' : World) (img : List ByteArray) (code : Int) (e : Ending) : Prop := ∃ g n c, e = .returned (.tuple #[.slice (some ⟨g, 0, none⟩) n c, .int .i64 code]) ∧ OwI w' w.heap.size g n c img ∧ n ≤ 512 ∧ Below w.heap.size w w'

set_option maxRecDepth 100000 in
set_option maxHeartbeats 4000000 in
theorem giveO_any (A B : Option Addr) (n c m cm : Nat) (img : List ByteArray) (l : List Int) (w : World) (h : Reads w w.heap.size 1 A n (encS img)) (hf : MapP img) (hB : Reads w w.heap.size 1 B m (encI l)) (hm : m ≤ 17592186044416) :
    Calls Tryz.prog 39 #[.slice A n c, .slice B m cm] w fun e w' => ImgsO w w' (giveA img l).1 (giveA img l).2 e := by
  have hl := h.lenS
  have hlm := hB.lenI
  have h8 : 8 ≤ n := by have := hf.1; omega
  have h5 : n ≤ 512 := by have := hf.1; omega
  obtain ⟨F, hF⟩ : ∃ F, F = firstA n := ⟨_, rfl⟩
  have cf := fun A c W => first_any A n c (by unfold maxLen; omega) W
  have co := fun W hW => cloneS_any A n c img W hW (by omega)
  rw [← hF] at cf
  have HO : Hid (∀ x, outA img x ↔ (x < (F : Int) ∨ (n : Int) ≤ x)) := Lib.hid (fun x => by unfold outA; rw [hl, hF])
  have hF34 : F ≤ 34 := by have := first_le h8 h5; omega
  have HL := Lib.hid (And.intro hl hlm)
  have HM := Lib.hid hf
  have H := Lib.hid (And.intro h hB)
  have ct := fun (A : Option Addr) (c : Nat) (ci : List ByteArray) (i : Int) W hW hc => takenA_any A n c ci i W hW hc
  have cm := fun (A : Option Addr) (c : Nat) (ci : List ByteArray) W hW hc => mapped_any A n c ci W hW hc
  clear h hB hl hlm hF hf
  go_enter Tryz.func39, Tryz.ntmps39
  go_wp2_with fail
  refine (co _ H.out.1).mono ?_
  rintro e w1 ⟨A1, c1, rfl, ho1, hb1⟩
  obtain ⟨g, rfl, hO1⟩ := OwI.of ho1 (by omega)
  have J1 := Lib.hid (And.intro hO1 hb1)
  have HA := H
  have H1 := Lib.hid (And.intro (H.out.1.step hb1) (H.out.2.step hb1))
  clear ho1 hb1 hO1
  go_wp2
  go_loopg [15] m (fun gk s15 wr => ∃ i : Nat, i ≤ m ∧ m - i ≤ gk ∧ s15 = .int .i64 i ∧ w1 = wr ∧ Hid (∀ k, k < i → ¬ outA img (l.getD k 0)))
  case atStart => exact ⟨0, Nat.zero_le _, by omega, rfl, rfl, Lib.hid fun k hk => absurd hk (Nat.not_lt_zero _)⟩
  case round =>
    obtain ⟨i, hi, hgk, rfl, rfl, J⟩ := hrel
    by_cases hlt : i < m
    · have hil : (i : Int) < (m : Int) := by omega
      obtain ⟨b, o, rfl, _, g1⟩ := H1.out.2.int hlt
      have HLX : Hid (i < l.length) := Lib.hid (by rw [HL.out.2]; exact hlt)
      obtain ⟨x, hx⟩ : ∃ x, x = l.getD i 0 := ⟨_, rfl⟩
      rw [← hx] at g1
      have HX := Lib.hid hx
      clear hx
      by_cases d1 : x < (F : Int)
      · have HE := Lib.hid (giveA_out (img := img) (l := l) (x := x) (by rw [HX.out]; exact int_mem HLX.out) ((HO.out x).2 (.inl d1)))
        go_wp2_with (go_at_call 58; refine (cf _ _ _).mono ?_; rintro e w8 ⟨rfl, rfl⟩)
        go_ret2
        rw [HE.out]
        exact ⟨g, n, c1, rfl, J1.out.1, h5, J1.out.2⟩
      · by_cases d2 : (n : Int) ≤ x
        · have HE := Lib.hid (giveA_out (img := img) (l := l) (x := x) (by rw [HX.out]; exact int_mem HLX.out) ((HO.out x).2 (.inr d2)))
          go_wp2_with (first | (go_at_call 58; refine (cf _ _ _).mono ?_; rintro e w8 ⟨rfl, rfl⟩) | (go_at_call 73; refine (cm _ _ img _ H1.out.1 HM.out).mono ?_; rintro e w8 ⟨rfl, rfl⟩))
          go_ret2
          rw [HE.out]
          exact ⟨g, n, c1, rfl, J1.out.1, h5, J1.out.2⟩
        · have JN : Hid (∀ k, k < i + 1 → ¬ outA img (l.getD k 0)) := Lib.hid fun k hk => by
            by_cases e : k = i
            · rw [e, ← HX.out, HO.out]; omega
            · exact J.out k (by omega)
          go_wp2_with (first | (go_at_call 58; refine (cf _ _ _).mono ?_; rintro e w8 ⟨rfl, rfl⟩) | (go_at_call 73; refine (cm _ _ img _ H1.out.1 HM.out).mono ?_; rintro e w8 ⟨rfl, rfl⟩))
          go_roundg (m - (i + 1))
          case measure => omega
          case rel => exact ⟨i + 1, by omega, by omega, by go_num, rfl, JN⟩
    · have : i = m := by omega
      subst this
      have HIN : Hid (∀ x ∈ l, ¬ outA img x) := Lib.hid fun x hx => by
        obtain ⟨k, hk, e⟩ := List.mem_iff_getElem.1 hx
        have := J.out k (by rw [← HL.out.2]; exact hk)
        rw [List.getD_eq_getElem?_getD, List.getElem?_eq_getElem hk] at this
        rw [← e]; exact this
      have HG := Lib.hid (giveA_in HIN.out)
      clear J
      go_wp2
      go_loopg [33] i (fun gk s33 wr => ∃ (j : Nat) (ci : List ByteArray), j ≤ i ∧ i - j ≤ gk ∧ s33 = .int .i64 j ∧ Hid (gaveA img (l.take j) = some ci) ∧ Hid (OwI wr w.heap.size g n c1 ci ∧ Below w.heap.size w wr ∧ Reads wr wr.heap.size 1 A n (encS img) ∧ Reads wr wr.heap.size 1 B i (encI l)))
      case atStart => exact ⟨0, img, Nat.zero_le _, by omega, rfl, Lib.hid rfl, Lib.hid ⟨J1.out.1, J1.out.2, H1.out.1, H1.out.2⟩⟩
      case round =>
        clear J1 H1
        obtain ⟨j, ci, hj, hgk, rfl, K, J⟩ := hrel
        by_cases hlt : j < i
        · have hil : (j : Int) < (i : Int) := by omega
          obtain ⟨b, o, rfl, hbb, g1⟩ := J.out.2.2.2.int hlt
          have HLX : Hid (j < l.length) := Lib.hid (by rw [HL.out.2]; exact hlt)
          have HNO := Lib.hid (HIN.out _ (int_mem HLX.out))
          obtain ⟨x, hx⟩ : ∃ x, x = l.getD j 0 := ⟨_, rfl⟩
          rw [← hx] at g1 HNO
          have HX := Lib.hid hx
          have hxr : (F : Int) ≤ x ∧ x < (n : Int) := by
            have := HNO.out
            rw [HO.out] at this
            omega
          obtain ⟨X, hX⟩ : ∃ X : Nat, x = X := ⟨x.toNat, by omega⟩
          subst hX
          have hXn : X < n := by omega
          have MC := Lib.hid (gave_MapP _ HM.out K.out)
          have cti := ct (some ⟨g, 0, none⟩) c1 ci X _ J.out.1.reads MC.out.1
          rw [takenA_in (by rw [MC.out.2, HL.out.1]; exact hXn)] at cti
          obtain ⟨t, ht⟩ : ∃ t, t = bitA (blk ci 1) X := ⟨_, rfl⟩
          rw [← ht] at cti
          have HT := Lib.hid ht
          have HNG : Hid (∀ q, q < wr.heap.size → q < w.heap.size → q ≠ g) := Lib.hid fun q _ hq e => by have := J.out.1.ge; omega
          clear hx ht hxr
          cases t with
          | true =>
            have KN := Lib.hid (gave_yes K.out HLX.out (by rw [← HX.out, Int.toNat_natCast]; exact HT.out.symm))
            rw [← HX.out, Int.toNat_natCast] at KN
            have h1n : 1 < n := by omega
            have c1' := J.out.1.cell 1 h1n
            have hms := MC.out.1.2
            have ctu := turned_any (blk ci 1) X (by omega) (by omega) (by omega)
            obtain ⟨mp, hmp⟩ : ∃ mp, mp = blk ci 1 := ⟨_, rfl⟩
            have HMP : Hid (ci.set 1 (flipA mp X) = turn1A ci X) := Lib.hid (by rw [hmp]; rfl)
            rw [← hmp] at c1' ctu hms
            clear hmp
            go_wp2_with (go_at_call 64; refine cti.mono ?_; rintro e w3 ⟨rfl, rfl⟩)
            refine (ctu _).mono ?_
            rintro e w8 ⟨rfl, hb8⟩
            have J8 := Lib.hid (And.intro (J.out.1.step hb8) (bstep J.out.2.1 hb8))
            clear c1' hb8 J g1 ctu cti
            have c1' := J8.out.1.cell 1 h1n
            have f1' := J8.out.1.free 1
            have hs8 := J8.out.1.set 1 (flipA mp X)
            rw [HMP.out] at hs8
            have hbe := J8.out.1.below_set 1 (.string (flipA mp X)) (Nat.le_refl _) J8.out.2
            have JN := Lib.hid (And.intro hs8 (And.intro hbe (And.intro (HA.out.1.step hbe) (HA.out.2.step hbe))))
            clear hs8 hbe J8
            go_wp2
            go_roundg (i - (j + 1))
            case measure => omega
            case rel => exact ⟨j + 1, _, by omega, by omega, by go_num, KN, JN⟩
          | false =>
            have HE : Hid (giveA img l = (img, 20)) := Lib.hid (by rw [HG.out, gave_no K.out HLX.out (by rw [← HX.out, Int.toNat_natCast]; exact HT.out.symm)])
            have cown := co _ J.out.2.2.1
            go_wp2_with (go_at_call 64; refine cti.mono ?_; rintro e w3 ⟨rfl, rfl⟩)
            refine cown.mono ?_
            rintro e w8 ⟨A8, c8, rfl, hO8, hb8⟩
            obtain ⟨g8, rfl, hOO⟩ := OwI.of hO8 (by omega)
            have HR := Lib.hid (And.intro (show OwI w8 w.heap.size g8 n c8 img from ⟨own_base hOO.own J.out.2.1.size, hOO.pos⟩) (bstep J.out.2.1 hb8))
            clear hOO
            clear hO8 hb8
            go_wp2
            go_ret2
            rw [HE.out]
            exact ⟨g8, n, c8, rfl, HR.out.1, h5, HR.out.2⟩
        · have : j = i := by omega
          subst this
          have HE : Hid (giveA img l = (ci, 0)) := Lib.hid (by
            have := K.out
            rw [List.take_of_length_le (by rw [HL.out.2]; exact Nat.le_refl _)] at this
            rw [HG.out, this])
          go_wp2
          go_ret2
          rw [HE.out]
          exact ⟨g, n, c1, rfl, J.out.1, h5, J.out.2.1⟩

end Go.Proofs.YtpdfkakhahfcjaaGreat
