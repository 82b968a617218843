/-
  What an inode's data blocks hold, cut where it ends.
-/
import Derived.Test.YtcfmpmcdfllibaaG16
namespace Go.Proofs.Ytcfmpmcdfllibaa
open Go.RowKit Go.Shelf
attribute [local go_sem] Oper.semAt_some

def flatP (img : List ByteArray) (pre : List (Nat × Nat)) : List UInt8 := pre.flatMap fun p => (blkI img p.2).data.toList
theorem flatP_data {r : RecI} (hr : OkR r) (img : List ByteArray) : flatP img (pairsR r (lenR r)) = flatR img r := by
  unfold flatP flatR
  rw [← pairsR_data hr, List.flatMap_map]
theorem flatP_length (img : List ByteArray) (pre : List (Nat × Nat)) : (flatP img pre).length = 128 * pre.length := by
  have := flatI_length img (pre.map (·.2))
  rw [List.flatMap_map, List.length_map] at this
  exact this
abbrev IsB (B b : Nat) (l : List UInt8) (W : World) : Prop := Lib.IsBuilderF 96 5 B b (Lib.byteCells l) W
theorem isB_kept {B b : Nat} {l : List UInt8} {W W' : World} (h : IsB B b l W) (hk : ∀ (k : Nat) (o : Obj), W.heap[k]? = some o → o.isCells = true → W'.heap[k]? = some o) : IsB B b l W' := by
  have key : ∀ p, Lib.BuilderAtF 96 5 B b p (Lib.byteCells l) W → Lib.BuilderAtF 96 5 B b p (Lib.byteCells l) W' := by
    rintro p ⟨hB, v, hb, ho, hne⟩
    refine ⟨hB, v, hk _ _ hb rfl, ⟨ho.1, ?_⟩, hne⟩
    rcases ho.2 with h0 | ⟨g, cap, cur, fz, e, h1, h2, h3⟩
    · exact .inl h0
    · exact .inr ⟨g, cap, cur, fz, e, h1, hk _ _ h2 rfl, h3⟩
  exact h.elim (fun x => .inl (key _ x)) (fun x => .inr (key _ x))
theorem isB_below {B b : Nat} {l : List UInt8} {W W' : World} (h : IsB B b l W) (hb : Below W.heap.size W W') : IsB B b l W' :=
  isB_kept h fun k _o hk _ => (hb.block k (Array.getElem?_eq_some_iff.1 hk).1).trans hk
theorem kept_below {b : Nat} {W W' : World} (hb : Below W.heap.size W W') : Lib.OthersKept 5 (some b) W W' := fun k _o hk _ _ => (hb.block k (Array.getElem?_eq_some_iff.1 hk).1).trans hk
theorem BR.kept {W W' : World} {g b : Nat} {r : RecI} (h : BR W g r) (hk : Lib.OthersKept 5 (some b) W W') (hne : g ≠ b) : BR W' g r := hk g _ h (by simpa using hne) (fun c fz e => by cases e)
/-- What a round keeps. -/
structure KpB (n₀ b : Nat) (A B : World) : Prop where
  below : Below n₀ A B
  kept : ∀ (k : Nat) (o : Obj), A.heap[k]? = some o → o.isCells = true → k ≠ b → (∀ c fz, o ≠ .cells c 5 fz) → B.heap[k]? = some o
theorem KpB.trans {n₀ b : Nat} {A B C : World} (h : KpB n₀ b A B) (k : KpB n₀ b B C) : KpB n₀ b A C := ⟨h.below.trans k.below, fun i o ho hc hne hu => k.kept i o (h.kept i o ho hc hne hu) hc hne hu⟩
theorem KpB.refl (n₀ b : Nat) (A : World) : KpB n₀ b A A := ⟨Below.refl _ _, fun _ _ h _ _ _ => h⟩
theorem KpB.of {n₀ b : Nat} {A B : World} (h : Below n₀ A B) (k : Lib.OthersKept 5 (some b) A B) : KpB n₀ b A B := ⟨h, fun i o ho _ hne hu => k i o ho (by simpa using hne) hu⟩
theorem keeps_of {b : Nat} {A B : World} (hs : A.heap.size ≤ B.heap.size) (h : Lib.OthersKept 5 (some b) A B) (hb : ∃ c t f, A.heap[b]? = some (.cells c t f)) : KeepsOthers A B :=
  ⟨hs, fun k o hk hc => h k o hk (fun e => by
    injection e with e
    subst e
    obtain ⟨c, t, f, hh⟩ := hb
    rw [hh] at hk
    injection hk with hk
    subst hk
    cases hc) (fun c fz e => by subst e; cases hc)⟩
theorem kpB_put {n₀ b z : Nat} (hn : n₀ ≤ z) (W : World) (l : Nat) (o o' : Obj) (hl : z ≤ l) (ho : W.heap[l]? = some o) (hc : o.isCells = false) (_hw : o.isWalk = false) : KpB n₀ b W (W.putObj l o') :=
  ⟨belowF_put hn hl W o o' ho hc, fun k o2 h2 hc2 _ _ => by
    have hne : k ≠ l := fun e => by subst e; rw [ho] at h2; injection h2 with h2; subst h2; rw [hc] at hc2; cases hc2
    rw [World.putObj_heap_other hne]; exact h2⟩
theorem BR.keptB {W W' : World} {g b n₀ : Nat} {r : RecI} (h : BR W g r) (hk : KpB n₀ b W W') (hne : g ≠ b) : BR W' g r := hk.kept g _ h rfl hne (fun c fz e => by cases e)
/-- Between two rounds. -/
structure InvP (w w3 : World) (img : List ByteArray) (pre : List (Nat × Nat)) (W : World) : Prop where
  isB : IsB w.heap.size (w.heap.size + 1 + 1) (flatP img pre) W
  kp : KpB w.heap.size (w.heap.size + 1 + 1) w3 W
theorem invP_own {w w3 : World} {img : List ByteArray} (hw : w.heap.size ≤ w3.heap.size) : OwnFrom w3.heap.size (InvP w w3 img) := by
  rintro pre X Y row ⟨h1, h2⟩ hg hr
  have hcell : ∀ (k : Nat) (o : Obj), X.heap[k]? = some o → o.isCells = true → Y.heap[k]? = some o := fun k o ho hc => by
    refine (hg.block k (Array.getElem?_eq_some_iff.1 ho).1 (fun e => ?_)).trans ho
    obtain ⟨_, o', ho', hc'⟩ := hr k e.symm
    rw [ho] at ho'
    injection ho' with ho'
    subst ho'
    rw [hc] at hc'
    cases hc'
  exact ⟨isB_kept h1 hcell, ⟨ownFrom_below (β := Unit) (n₀ := w.heap.size) (w₀ := w3) hw hw () X Y row h2.below hg hr, fun k o ho hc hne hu => hcell k o (h2.kept k o ho hc hne hu) hc⟩⟩
def NoP (_ : Code) (_ : List (Nat × Nat)) (_ : World) : Prop := False
end Go.Proofs.Ytcfmpmcdfllibaa

/-
  What an inode's data blocks hold, cut where it ends: the program's function.
-/
namespace Go.Proofs.Ytcfmpmcdfllibaa
open Go.RowKit Go.Shelf
attribute [local go_sem] Oper.semAt_some

def PartsP (w : World) (F : List UInt8) (size : Nat) (e : Ending) (w' : World) : Prop := e = .returned (.tuple #[.string (mkB (F.take size)), .string (mkB (F.drop size))]) ∧ Below w.heap.size w w'
theorem extract_take (l : List UInt8) (k : Nat) : (mkB l).extract 0 k = mkB (l.take k) := by
  apply ByteArray.ext
  rw [ByteArray.data_extract]
  apply Array.ext'
  simp [mkB]
theorem extract_drop (l : List UInt8) (k : Nat) : (mkB l).extract k l.length = mkB (l.drop k) := by
  apply ByteArray.ext
  rw [ByteArray.data_extract]
  apply Array.ext'
  simp [mkB, List.take_of_length_le]

def partV5 (g s n k : Nat) : Nat → Value → World → Prop
  | 0 => eqV (.pointer (some ⟨g, 1, none⟩))
  | 1 => eqV (.pointer (some ⟨g, 2, none⟩))
  | 2 => eqV (.int .i64 (s : Int))
  | 3 => eqV (.int .i64 (n : Int))
  | 4 => eqV (.int .i64 (k : Int))
  | 5 => eqV (.int .i64 (k : Int))
  | _ => fun _ _ => True
theorem partV5_stable (g s n k : Nat) (j : Nat) (v : Value) (w w' : World) (h : partV5 g s n k j v w) : partV5 g s n k j v w' := by
  match j, h with
  | 0, h => exact h
  | 1, h => exact h
  | 2, h => exact h
  | 3, h => exact h
  | 4, h => exact h
  | 5, h => exact h
  | _ + 6, _ => trivial
def partV6 (F : List UInt8) (k : Nat) : Nat → Value → World → Prop
  | 0 => eqV (.string (mkB F))
  | 1 => eqV (.int .i64 (k : Int))
  | 2 => eqV (.string (mkB (F.take k)))
  | 3 => eqV (.string (mkB F))
  | 4 => eqV (.int .i64 (k : Int))
  | 5 => eqV (.string (mkB (F.drop k)))
  | 6 => eqV (.string (mkB (F.take k)))
  | 7 => eqV (.string (mkB (F.drop k)))
  | _ => fun _ _ => True
theorem partV6_stable (F : List UInt8) (k : Nat) (j : Nat) (v : Value) (w w' : World) (h : partV6 F k j v w) : partV6 F k j v w' := by
  match j, h with
  | 0, h => exact h
  | 1, h => exact h
  | 2, h => exact h
  | 3, h => exact h
  | 4, h => exact h
  | 5, h => exact h
  | 6, h => exact h
  | 7, h => exact h
  | _ + 8, _ => trivial

set_option maxRecDepth 100000 in
set_option maxHeartbeats 8000000 in
theorem parts_any (r : RecI) (hr : OkR r) (A : Option Addr) (n c : Nat) (img : List ByteArray) (w : World) (h : Reads w w.heap.size 1 A n (encS img)) :
    Calls Try.prog 41 #[valR r, .slice A n c] w (PartsP w (flatR img r) r.size) := by
  have hmx : Try.prog.follows .mixedOrders = true := by kernel_rfl
  refine (callsIn_wide (n := 3)).1 ?_
  refine callsIn_of_wp_marks Try.func41 rfl trivial ?_ rfl
  refine wpIn_wide.2 ?_
  unfold valR
  simp only [Try.ntmps41, List.size_toArray, List.length_cons, List.length_nil, Nat.reduceAdd, Nat.reduceSub, Array.replicate_succ, Array.replicate_zero, List.push_toArray, List.append_toArray, List.nil_append, List.cons_append]
  have B1 : BR (((w.alloc (.cells (cellsR r).toArray 55)).alloc (.cells #[.slice A n c] 22)).alloc (.cells #[.pointer none, .slice none 0 0] 96)) w.heap.size r := ((BR.new w r).alloc _).alloc _
  go_wp2_with (first | (refine wpList_load_mid rfl _ _ rfl w.heap.size 0 rfl (cellsR r) _ B1.range Try.underlying55 rfl (by rw [cellsR_length hr]; exact sizeR) ?_) | (go_at_call 44; refine ((callsIn_wide (n := 2)).1 (blkFn_in 2 r _)).mono ?_; rintro e w' ⟨rfl, rfl⟩))
  refine (wpIn_wide (n := 3)).1 ?_
  have B2 := B1.alloc (.cells (cellsR r).toArray 55)
  have bS := BR.new (((w.alloc (.cells (cellsR r).toArray 55)).alloc (.cells #[.slice A n c] 22)).alloc (.cells #[.pointer none, .slice none 0 0] 96)) r
  have bI : ((((w.alloc (.cells (cellsR r).toArray 55)).alloc (.cells #[.slice A n c] 22)).alloc (.cells #[.pointer none, .slice none 0 0] 96)).alloc (.cells (cellsR r).toArray 55)).heap[w.heap.size + 1]? = some (.cells #[.slice A n c] 22 (0, 0)) := by
    rw [Below.heap_alloc _ _ _ (by simp), Below.heap_alloc _ _ _ (by simp)]
    simpa using heap_alloc_new (w.alloc (.cells (cellsR r).toArray 55)) (.cells #[.slice A n c] 22)
  have bBh : ((((w.alloc (.cells (cellsR r).toArray 55)).alloc (.cells #[.slice A n c] 22)).alloc (.cells #[.pointer none, .slice none 0 0] 96)).alloc (.cells (cellsR r).toArray 55)).heap[w.heap.size + 1 + 1]? = some (.cells #[.pointer none, .slice none 0 0] 96 (0, 0)) := by
    rw [Below.heap_alloc _ _ _ (by simp)]
    simpa using heap_alloc_new ((w.alloc (.cells (cellsR r).toArray 55)).alloc (.cells #[.slice A n c] 22)) (.cells #[.pointer none, .slice none 0 0] 96)
  have isB0 : IsB w.heap.size (w.heap.size + 1 + 1) [] ((((w.alloc (.cells (cellsR r).toArray 55)).alloc (.cells #[.slice A n c] 22)).alloc (.cells #[.pointer none, .slice none 0 0] 96)).alloc (.cells (cellsR r).toArray 55)) := .inl ⟨by omega, _, bBh, World.ownsRowF_nil _ _ _ _, by simp [Value.ownBlock]⟩
  have hB0 : Below w.heap.size w ((((w.alloc (.cells (cellsR r).toArray 55)).alloc (.cells #[.slice A n c] 22)).alloc (.cells #[.pointer none, .slice none 0 0] 96)).alloc (.cells (cellsR r).toArray 55)) := ((((Below.refl _ w).alloc (Nat.le_refl _) _).alloc (by simp) _).alloc (by simp; omega) _).alloc (by simp; omega) _
  have hz : w.heap.size ≤ ((((w.alloc (.cells (cellsR r).toArray 55)).alloc (.cells #[.slice A n c] 22)).alloc (.cells #[.pointer none, .slice none 0 0] 96)).alloc (.cells (cellsR r).toArray 55)).heap.size := hB0.size
  simp only [World.size_alloc] at bS
  have hszB : w.heap.size + 1 + 1 < ((((w.alloc (.cells (cellsR r).toArray 55)).alloc (.cells #[.slice A n c] 22)).alloc (.cells #[.pointer none, .slice none 0 0] 96)).alloc (.cells (cellsR r).toArray 55)).heap.size := by simp
  generalize ((((w.alloc (.cells (cellsR r).toArray 55)).alloc (.cells #[.slice A n c] 22)).alloc (.cells #[.pointer none, .slice none 0 0] 96)).alloc (.cells (cellsR r).toArray 55)) = w4 at B2 bS bI bBh isB0 hB0 hz hszB ⊢
  have hsz4 : w4.heap.size = w4.heap.size := rfl
  have HH := Lib.hid h
  clear B1 h
  refine wpIn_rangeFunc_ownG rfl (by omega) (gf := 74) (lb := #[.pointer (some ⟨w.heap.size + 1 + 1 + 1, 0, none⟩)]) rfl trivial (enters_of Try.func74 (by kernel_rfl) rfl)
    (blk_stops 2 (by omega) (w.heap.size + 1 + 1 + 1) r hr (KpB w.heap.size (w.heap.size + 1 + 1)) KpB.trans (KpB.refl _ _) w4 bS (fun W1 W2 h1 hk k cs fr hge hh => hk.kept k _ hh rfl (by omega) (fun c fz e => by cases e))) KpB.trans (kpB_put hz) (Below.refl _ _) (fun _ => rfl)
    (InvP w w4 img) NoP (invP_own hz) ?ownx ⟨isB0, KpB.refl _ _ _⟩
    (fun i => { tmps := #[.agg (cellsR r).toArray, .slice A n c, .pointer (some ⟨w.heap.size, 0, none⟩), .pointer (some ⟨w.heap.size + 1, 0, none⟩), .string ⟨#[]⟩, .string ⟨#[]⟩, .pointer (some ⟨w.heap.size + 1 + 1, 0, none⟩), undef, .int .i64 (i.2 : Int), undef, .agg (cellsR r).toArray, .func (.func 74) #[] #[.pointer (some ⟨w.heap.size + 1 + 1 + 1, 0, none⟩)], .int .i64 (i.1 : Int), .int .i64 (i.2 : Int), undef, undef, undef, undef, undef, undef, undef, undef, undef, undef, undef, undef, undef, undef, undef], defers := [] }) ?assign ?body ?done ?stop
  case ownx =>
    rintro c pre X Y row h0 hg hr
    exact h0.elim
  case assign =>
    intro l i W K hK
    gi_wp2
    exact hK
  case body =>
    rintro l pre i W ⟨hB, hK⟩ hlt
    have hI := hK.kept (w.heap.size + 1) _ bI rfl (by omega) (fun c fz e => by cases e)
    have hcI : W.cell? ⟨w.heap.size + 1, 0, none⟩ = some (.slice A n c) := by simp [World.cell?, hI]
    have cb := blockI_any A n c img i.2 W (HH.out.step (hB0.trans hK.below))
    have hlen : (flatP img pre).length ≤ 8704 := by rw [flatP_length]; unfold lenR at hlt; omega
    have hsz := blkI_size img i.2
    have HF : Hid (flatP img (pre ++ [i]) = flatP img pre ++ (blkI img i.2).data.toList) := Lib.hid (by simp [flatP])
    have HX := Lib.hid (And.intro hB (And.intro hK hlen))
    clear bS bI bBh isB0 hlt hlen B2 hI hB
    generalize blkI img i.2 = s at cb hsz HF
    gi_wp2_with (refine ⟨trivial, (callsIn_wide.2 cb).mono ?_⟩; rintro e w5 ⟨rfl, hb5⟩)
    have hB5 := isB_below HX.out.1 hb5
    have cw := Try.Builder_WriteString_k w.heap.size (w.heap.size + 1 + 1) _ s w5 hB5 (by have := HX.out.2.2; rw [Lib.byteCells_length, hsz]; omega) (Nat.le_trans hz (Nat.le_trans HX.out.2.1.below.size hb5.size))
    refine ⟨trivial, (callsIn_wide.2 cw).mono ?_⟩
    rintro e w6 ⟨rfl, h6, hb6, hk6⟩
    have hkW : Lib.OthersKept 5 (some (w.heap.size + 1 + 1)) W w6 := (kept_below hb5).trans hk6
    have hbW : Below w.heap.size W w6 := (hb5.mono (Nat.le_trans hz HX.out.2.1.below.size)).trans hb6
    have hbl : ∃ c t f, W.heap[w.heap.size + 1 + 1]? = some (.cells c t f) := by
      rcases HX.out.1 with ⟨_, v, hh, _⟩ | ⟨_, v, hh, _⟩ <;> exact ⟨_, _, _, hh⟩
    have HD : Hid (KeepsFrom w4.heap.size W w6 ∧ KpB w.heap.size (w.heap.size + 1 + 1) W w6 ∧ InvP w w4 img (pre ++ [i]) w6) := Lib.hid ⟨(keeps_of hbW.size hkW hbl).from _, KpB.of hbW hkW, ⟨by
      rw [HF.out]
      unfold IsB
      rw [Lib.byteCells_append]
      exact .inr h6, HX.out.2.1.trans (KpB.of hbW hkW)⟩⟩
    clear hkW hbW hbl h6 hb6 hk6 hB5 hb5 cw cb
    gi_wp2
    exact HD.out
  case stop =>
    rintro D c pre W hD _ h0 hK
    exact h0.elim
  case done =>
    rintro D ys W hD hys ⟨hB, hK⟩ hKD
    have hB' : IsB w.heap.size (w.heap.size + 1 + 1) (flatR img r) W := by rw [hys, flatP_data hr] at hB; exact hB
    have hLL : (flatR img r).length ≤ 8704 := by rw [← flatP_data hr, flatP_length, pairsR_length]; unfold lenR; omega
    have hsz := (B2.keptB hK (by omega)).size
    have hDb : D ≠ w.heap.size + 1 + 1 := by omega
    have HE : Hid ((flatR img r).take (min r.size (flatR img r).length) = (flatR img r).take r.size ∧ (flatR img r).drop (min r.size (flatR img r).length) = (flatR img r).drop r.size) := Lib.hid (by
      generalize flatR img r = F
      by_cases hq : r.size ≤ F.length
      · rw [Nat.min_eq_left hq]; exact ⟨rfl, rfl⟩
      · rw [Nat.min_eq_right (by omega), List.take_of_length_le (Nat.le_refl _), List.take_of_length_le (by omega), List.drop_of_length_le (Nat.le_refl _), List.drop_of_length_le (by omega)]; exact ⟨rfl, rfl⟩)
    generalize hFd : flatR img r = F at hB' hLL HE ⊢
    have HFD := Lib.hid hFd
    clear hFd
    have HW := Lib.hid (And.intro hB' (And.intro (hB0.trans hK.below) (And.intro hKD hDb)))
    have hs32 : r.size < 4294967296 := hr.size
    have hzD : w.heap.size ≤ D := Nat.le_trans hz hD
    clear hys hB hK B2 bS bI bBh isB0 hB' hKD hDb hD
    obtain ⟨L, hL⟩ : ∃ L, L = F.length := ⟨_, rfl⟩
    rw [← hL] at HE hLL
    have HLL := Lib.hid hL
    obtain ⟨k, hk⟩ : ∃ k, k = min r.size L := ⟨_, rfl⟩
    rw [← hk] at HE
    have hkL : k ≤ L := by omega
    have HK := Lib.hid hk
    clear hk hL
    go_wp2
    refine wp_region_rel (fun w' => w' = W.drew) (fun _ a b => b = a) (partV5 w.heap.size r.size L k) hmx (by kernel_rfl) rfl (fun i a b h1 h2 => by rw [h2]; exact h1) (fun i j v a b _ _ h => partV5_stable w.heap.size r.size L k j v a b h) ?_ ?_
    · refine ⟨?_, ?_, ?_, ?_, ?_, ?_, trivial⟩
      · intro V W1 hC hd K hK
        clear hd
        simp only [laidL, Act.put, List.setIfInBounds_toArray, List.set_cons_zero, List.set_cons_succ] at hK ⊢
        subst hC
        go_simp
        exact hK _ _ ⟨rfl, rfl⟩
      · intro V W1 hC hd K hK
        have q0 : partV5 w.heap.size r.size L k 0 (V 0) W1 := hd.1
        have e0 : V 0 = .pointer (some ⟨w.heap.size, 1, none⟩) := q0
        clear q0
        clear hd
        simp only [laidL, Act.put, List.setIfInBounds_toArray, List.set_cons_zero, List.set_cons_succ] at hK ⊢
        generalize V 0 = v0 at e0 hK ⊢
        subst e0
        subst hC
        go_simp
        exact hK _ _ ⟨rfl, rfl⟩
      · intro V W1 hC hd K hK
        have q1 : partV5 w.heap.size r.size L k 1 (V 1) W1 := hd.1
        have e1 : V 1 = .pointer (some ⟨w.heap.size, 2, none⟩) := q1
        clear q1
        clear hd
        simp only [laidL, Act.put, List.setIfInBounds_toArray, List.set_cons_zero, List.set_cons_succ] at hK ⊢
        generalize V 1 = v1 at e1 hK ⊢
        subst e1
        subst hC
        have hc : W.drew.cell? ⟨w.heap.size, 2, none⟩ = some (.int .i64 (r.size : Int)) := hsz
        go_simp
        exact hK _ _ ⟨rfl, rfl⟩
      · intro V W1 hC hd K hK
        clear hd
        simp only [laidL, Act.put, List.setIfInBounds_toArray, List.set_cons_zero, List.set_cons_succ] at hK ⊢
        subst hC
        go_simp
        go_at_call 72
        refine (Try.Builder_Len_f w.heap.size (w.heap.size + 1 + 1) _ _ (isB_below HW.out.1 (Below.refl _ _).drew)).mono ?_
        rintro e wz ⟨rfl, rfl⟩
        exact hK _ _ ⟨rfl, congrArg (fun z : Nat => Value.int .i64 (z : Int)) (by rw [Lib.byteCells_length]; exact HLL.out.symm)⟩
      · intro V W1 hC hd K hK
        have q2 : partV5 w.heap.size r.size L k 2 (V 2) W1 := hd.1
        have e2 : V 2 = .int .i64 (r.size : Int) := q2
        clear q2
        have q3 : partV5 w.heap.size r.size L k 3 (V 3) W1 := hd.2.1
        have e3 : V 3 = .int .i64 (L : Int) := q3
        clear q3
        clear hd
        simp only [laidL, Act.put, List.setIfInBounds_toArray, List.set_cons_zero, List.set_cons_succ] at hK ⊢
        generalize V 2 = v2 at e2 hK ⊢
        subst e2
        generalize V 3 = v3 at e3 hK ⊢
        subst e3
        subst hC
        go_simp
        exact hK _ _ ⟨rfl, congrArg (Value.int .i64) (by have := HK.out; omega)⟩
      · intro V W1 hC hd K hK
        have q4 : partV5 w.heap.size r.size L k 4 (V 4) W1 := hd.1
        have e4 : V 4 = .int .i64 (k : Int) := q4
        clear q4
        clear hd
        simp only [laidL, Act.put, List.setIfInBounds_toArray, List.set_cons_zero, List.set_cons_succ] at hK ⊢
        generalize V 4 = v4 at e4 hK ⊢
        subst e4
        subst hC
        go_simp
        exact hK _ _ ⟨rfl, rfl⟩
    · intro V W1 hC hV
      have e5 : V 5 = .int .i64 (k : Int) := hV 5 (show 5 < 6 by decide)
      clear hV
      subst hC
      simp only [laidL, Act.put, List.setIfInBounds_toArray, List.set_cons_zero, List.set_cons_succ]
      generalize V 5 = v5 at e5 ⊢
      subst e5
      have HW2 : Hid (IsB w.heap.size (w.heap.size + 1 + 1) F W.drew.drew ∧ Below w.heap.size w W.drew.drew ∧ W.drew.drew.heap[D]? = some (.deferred (some []))) := Lib.hid ⟨isB_below (isB_below HW.out.1 (Below.refl _ _).drew) (Below.refl _ _).drew, HW.out.2.1.drew.drew, HW.out.2.2.1⟩
      have hwz : w.heap.size ≤ W.drew.heap.size := HW.out.2.1.size
      go_wp2
      refine wp_region_rel (fun w' => IsB w.heap.size (w.heap.size + 1 + 1) F w' ∧ Below w.heap.size w w' ∧ w'.heap[D]? = some (.deferred (some []))) (fun _ a b => Below w.heap.size a b ∧ Lib.OthersKept 5 (some (w.heap.size + 1 + 1)) a b ∧ (IsB w.heap.size (w.heap.size + 1 + 1) F a → IsB w.heap.size (w.heap.size + 1 + 1) F b)) (partV6 F k) hmx (by kernel_rfl) HW2.out (fun i a b h1 h2 => ⟨h2.2.2 h1.1, h1.2.1.trans h2.1, h2.2.1 D _ h1.2.2 (by simpa using HW.out.2.2.2) (fun c fz e => by cases e)⟩) (fun i j v a b _ _ h => partV6_stable F k j v a b h) ?_ ?_
      · refine ⟨?_, ?_, ?_, ?_, ?_, ?_, ?_, ?_, trivial⟩
        · intro V6 W1 hC hd K hK
          clear hd
          simp only [laidL, Act.put, List.setIfInBounds_toArray, List.set_cons_zero, List.set_cons_succ] at hK ⊢
          go_simp
          go_at_call 73
          refine (Try.Builder_String_any_k w.heap.size (w.heap.size + 1 + 1) F _ hC.1 hC.2.1.size).mono ?_
          rintro e wz ⟨rfl, hbz, hlz, hkz⟩
          exact hK _ _ ⟨⟨hlz, hkz, fun _ => hbz⟩, rfl⟩
        · intro V6 W1 hC hd K hK
          clear hd
          simp only [laidL, Act.put, List.setIfInBounds_toArray, List.set_cons_zero, List.set_cons_succ] at hK ⊢
          go_simp
          exact hK _ _ ⟨⟨Below.refl _ _, Lib.OthersKept.refl _ _ _, fun h => h⟩, rfl⟩
        · intro V6 W1 hC hd K hK
          have q0 : partV6 F k 0 (V6 0) W1 := hd.1
          have e0 : V6 0 = .string (mkB F) := q0
          clear q0
          have q1 : partV6 F k 1 (V6 1) W1 := hd.2.1
          have e1 : V6 1 = .int .i64 (k : Int) := q1
          clear q1
          clear hd
          simp only [laidL, Act.put, List.setIfInBounds_toArray, List.set_cons_zero, List.set_cons_succ] at hK ⊢
          generalize V6 0 = v0 at e0 hK ⊢
          subst e0
          generalize V6 1 = v1 at e1 hK ⊢
          subst e1
          have hfs : (mkB F).size = L := by rw [mkB_size]; exact HLL.out.symm
          have hk1 : (k : Int) ≤ ((mkB F).size : Int) := by omega
          go_simp
          exact hK (.string ((mkB F).extract 0 k)) _ ⟨⟨Below.refl _ _, Lib.OthersKept.refl _ _ _, fun h => h⟩, congrArg Value.string (extract_take F k)⟩
        · intro V6 W1 hC hd K hK
          clear hd
          simp only [laidL, Act.put, List.setIfInBounds_toArray, List.set_cons_zero, List.set_cons_succ] at hK ⊢
          go_simp
          go_at_call 73
          refine (Try.Builder_String_any_k w.heap.size (w.heap.size + 1 + 1) F _ hC.1 hC.2.1.size).mono ?_
          rintro e wz ⟨rfl, hbz, hlz, hkz⟩
          exact hK _ _ ⟨⟨hlz, hkz, fun _ => hbz⟩, rfl⟩
        · intro V6 W1 hC hd K hK
          clear hd
          simp only [laidL, Act.put, List.setIfInBounds_toArray, List.set_cons_zero, List.set_cons_succ] at hK ⊢
          go_simp
          exact hK _ _ ⟨⟨Below.refl _ _, Lib.OthersKept.refl _ _ _, fun h => h⟩, rfl⟩
        · intro V6 W1 hC hd K hK
          have q3 : partV6 F k 3 (V6 3) W1 := hd.1
          have e3 : V6 3 = .string (mkB F) := q3
          clear q3
          have q4 : partV6 F k 4 (V6 4) W1 := hd.2.1
          have e4 : V6 4 = .int .i64 (k : Int) := q4
          clear q4
          clear hd
          simp only [laidL, Act.put, List.setIfInBounds_toArray, List.set_cons_zero, List.set_cons_succ] at hK ⊢
          generalize V6 3 = v3 at e3 hK ⊢
          subst e3
          generalize V6 4 = v4 at e4 hK ⊢
          subst e4
          have hfs : (mkB F).size = L := by rw [mkB_size]; exact HLL.out.symm
          have hk1 : (k : Int) ≤ ((mkB F).size : Int) := by omega
          go_simp
          exact hK (.string ((mkB F).extract k L)) _ ⟨⟨Below.refl _ _, Lib.OthersKept.refl _ _ _, fun h => h⟩, congrArg Value.string (by rw [HLL.out]; exact extract_drop F k)⟩
        · intro V6 W1 hC hd K hK
          have q2 : partV6 F k 2 (V6 2) W1 := hd.1
          have e2 : V6 2 = .string (mkB (F.take k)) := q2
          clear q2
          clear hd
          simp only [laidL, Act.put, List.setIfInBounds_toArray, List.set_cons_zero, List.set_cons_succ] at hK ⊢
          generalize V6 2 = v2 at e2 hK ⊢
          subst e2
          go_simp
          exact hK _ _ ⟨⟨Below.refl _ _, Lib.OthersKept.refl _ _ _, fun h => h⟩, rfl⟩
        · intro V6 W1 hC hd K hK
          have q5 : partV6 F k 5 (V6 5) W1 := hd.1
          have e5 : V6 5 = .string (mkB (F.drop k)) := q5
          clear q5
          clear hd
          simp only [laidL, Act.put, List.setIfInBounds_toArray, List.set_cons_zero, List.set_cons_succ] at hK ⊢
          generalize V6 5 = v5 at e5 hK ⊢
          subst e5
          go_simp
          exact hK _ _ ⟨⟨Below.refl _ _, Lib.OthersKept.refl _ _ _, fun h => h⟩, rfl⟩
      · intro V6 W1 hC hV
        have e6 : V6 6 = .string (mkB (F.take k)) := hV 6 (show 6 < 8 by decide)
        have e7 : V6 7 = .string (mkB (F.drop k)) := hV 7 (show 7 < 8 by decide)
        rw [HE.out.1] at e6
        rw [HE.out.2] at e7
        have HC := Lib.hid hC
        clear hV hC
        simp only [laidL, Act.put, List.setIfInBounds_toArray, List.set_cons_zero, List.set_cons_succ]
        generalize V6 6 = v6 at e6 ⊢
        generalize V6 7 = v7 at e7 ⊢
        subst e6
        subst e7
        go_wp2
        refine ⟨by simp, .inl ⟨_, _, rfl, run_takeDeferred (show W1.heap[D]? = some (.deferred (some [])) from HC.out.2.2), ?_⟩⟩
        refine ⟨_, results_tmp2 rfl _ _ _, ?_⟩
        exact ⟨by rw [HFD.out]; rfl, HC.out.2.1.trans (belowF_put (z := w.heap.size) (Nat.le_refl _) hzD W1 _ _ HC.out.2.2 rfl)⟩

end Go.Proofs.Ytcfmpmcdfllibaa

/-
  What an inode holds.
-/
namespace Go.Proofs.Ytcfmpmcdfllibaa
open Go.RowKit

def readI (img : List ByteArray) (i : Int) : ByteArray × Int := if (heldI img i).2 = 0 then (mkB ((flatR img (heldI img i).1).take (heldI img i).1.size), 0) else (⟨#[]⟩, (heldI img i).2)
def ReadP (w : World) (x : ByteArray × Int) (e : Ending) (w' : World) : Prop := e = .returned (.tuple #[.string x.1, .int .i64 x.2]) ∧ Below w.heap.size w w'

set_option maxRecDepth 100000 in
set_option maxHeartbeats 4000000 in
theorem readI_any (A : Option Addr) (n c : Nat) (img : List ByteArray) (i : Int) (w : World) (h : Reads w w.heap.size 1 A n (encS img)) (hn : n ≤ 512) :
    Calls Try.prog 12 #[.slice A n c, .int .i64 i] w (ReadP w (readI img i)) := by
  have hz := fun W => zero_run W
  have hl := h.lenS
  have cg : Calls Try.prog 40 #[.slice A n c, .int .i64 i] w fun e w' => e = .returned (.tuple #[.agg (cellsR (heldI img i).1).toArray, .int .i64 (heldI img i).2]) ∧ Below w.heap.size w w' := held_any A n c img i w h hn
  have hok := heldI_ok img i (by omega)
  have HB : Hid (readI img i = if (heldI img i).2 = 0 then (mkB ((flatR img (heldI img i).1).take (heldI img i).1.size), 0) else (⟨#[]⟩, (heldI img i).2)) := Lib.hid rfl
  have H := Lib.hid h
  clear h hl
  generalize heldI img i = x at cg hok HB
  obtain ⟨r, ec⟩ := x
  dsimp only at cg hok HB
  have HR := Lib.hid hok
  have cp : ∀ W, Reads W W.heap.size 1 A n (encS img) → Calls Try.prog 41 #[.agg (cellsR r).toArray, .slice A n c] W fun e w' => e = .returned (.tuple #[.string (mkB ((flatR img r).take r.size)), .string (mkB ((flatR img r).drop r.size))]) ∧ Below W.heap.size W w' := fun W hW => parts_any r hok A n c img W hW
  clear hok
  by_cases h0 : ec = 0
  · have HE : Hid (readI img i = (mkB ((flatR img r).take r.size), 0)) := Lib.hid (by rw [HB.out, if_pos h0])
    subst h0
    go_enter Try.func12, Try.ntmps12
    go_wp2_with fail
    refine cg.mono ?_
    rintro e w1 ⟨rfl, hb1⟩
    have B2 := (BR.new w1 (zeroR 0)).setRow r
    have bb2 : Below w.heap.size w ((w1.alloc (.cells (cellsR (zeroR 0)).toArray 55)).setRow w1.heap.size (cellsR r).toArray) := hb1.trans (((((Below.refl _ w1).alloc (Nat.le_refl _) _).trans (below_setRow _ (Nat.le_refl _) _))).mono hb1.size)
    have HX := Lib.hid (And.intro B2 bb2)
    clear B2 bb2 hb1 cg
    go_wp2_with (first | (refine wpList_store_row rfl _ _ _ rfl w1.heap.size (cellsR r).toArray rfl rfl _ (cellsR (zeroR 0)).toArray (heap_alloc_new w1 _) (sizeRr HR.out) (holdR okz HR.out) (all_oneCell_toArray (cellsR_one _)) ?_) | (refine wpList_load_mid rfl _ _ rfl w1.heap.size 0 rfl (cellsR r) _ HX.out.1.range Try.underlying55 rfl (by rw [cellsR_length HR.out]; exact sizeR) ?_))
    refine (cp _ (H.out.step HX.out.2)).mono ?_
    rintro e w3 ⟨rfl, hb3⟩
    have HY := Lib.hid (HX.out.2.trans (hb3.mono HX.out.2.size))
    clear hb3 cp
    go_wp2
    go_ret2
    rw [HE.out]
    exact ⟨rfl, HY.out⟩
  · have HE : Hid (readI img i = (⟨#[]⟩, ec)) := Lib.hid (by rw [HB.out, if_neg h0])
    have hne : (ec != 0) = true := by rw [bne_iff_ne]; exact h0
    clear h0
    go_enter Try.func12, Try.ntmps12
    go_wp2_with fail
    refine cg.mono ?_
    rintro e w1 ⟨rfl, hb1⟩
    have B2 := (BR.new w1 (zeroR 0)).setRow r
    have bb2 : Below w.heap.size w ((w1.alloc (.cells (cellsR (zeroR 0)).toArray 55)).setRow w1.heap.size (cellsR r).toArray) := hb1.trans (((((Below.refl _ w1).alloc (Nat.le_refl _) _).trans (below_setRow _ (Nat.le_refl _) _))).mono hb1.size)
    have HX := Lib.hid (And.intro B2 bb2)
    clear B2 bb2 hb1 cg
    go_wp2_with (refine wpList_store_row rfl _ _ _ rfl w1.heap.size (cellsR r).toArray rfl rfl _ (cellsR (zeroR 0)).toArray (heap_alloc_new w1 _) (sizeRr HR.out) (holdR okz HR.out) (all_oneCell_toArray (cellsR_one _)) ?_)
    go_ret2
    rw [HE.out]
    exact ⟨rfl, HX.out.2⟩

end Go.Proofs.Ytcfmpmcdfllibaa
