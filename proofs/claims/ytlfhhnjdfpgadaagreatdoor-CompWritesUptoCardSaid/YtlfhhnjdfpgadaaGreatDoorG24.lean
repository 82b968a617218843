/-
  The program's functions of layer 11: lines folded.
-/
import Derived.Test.YtlfhhnjdfpgadaaGreatDoorG23
import Derived.Test.YtlfhhnjdfpgadaaGreatDoorG09
import Derived.OrdersIn
import Derived.CallsIn
import Derived.RangeFuncCalls
import Derived.Test.YtlfhhnjdfpgadaaGreatDoorG02
namespace Go.Proofs.YtlfhhnjdfpgadaaGreatDoor
open Go.RowKit Go.Shelf
attribute [local go_sem] Oper.semAt_some

/-- The mark that a loop over an iterator leaves among the deferred calls. -/
def mkD (D : Nat) : Deferred := { target := .collected D, args := #[] }
structure Marks (B : Nat) (Ds : List Nat) (w : World) : Prop where
  ge : ∀ D ∈ Ds, B ≤ D
  at_ : ∀ D ∈ Ds, w.heap[D]? = some (.deferred (some []))
  nd : Ds.Nodup
theorem belowD_put {B D : Nat} {w : World} {o : Obj} (h : B ≤ D) (hD : D < w.heap.size) : Below B w (w.putObj D o) :=
  (Below.refl B w).grown (grownBy_putObj' w D o) (by omega) fun j ej => by cases ej; omega
theorem leaves_marks {F : Fence} {k : Nat} {P : Program} {fn : Func} {tmps : Array Value} {R : Ending → World → Prop} {u : FrameMode} {B : Nat} (hu : u ≠ .run) : ∀ (Ds : List Nat) (w : World), Marks B Ds w →
    (∀ w', Below B w w' → LeavesInM F k P fn tmps R [] u w') → LeavesInM F k P fn tmps R (Ds.map mkD) u w
  | [], w, _, h => h w (Below.refl _ _)
  | D :: Ds, w, hM, h => by
    have hD := hM.at_ D (by simp)
    have hlt : D < w.heap.size := (Array.getElem?_eq_some_iff.1 hD).1
    have hb := belowD_put (o := .deferred none) (hM.ge D (by simp)) hlt
    refine ⟨hu, .inl ⟨D, _, rfl, run_takeDeferred hD, leaves_marks hu Ds _ ⟨fun E hE => hM.ge E (by simp [hE]), fun E hE => ?_, (List.nodup_cons.1 hM.nd).2⟩ (fun w' hw' => h w' (hb.trans hw'))⟩⟩
    rw [World.putObj_heap_other (fun e => (List.nodup_cons.1 hM.nd).1 (by rw [← e]; exact hE))]
    exact hM.at_ E (by simp [hE])
theorem Marks.kept {B : Nat} {Ds : List Nat} {w w' : World} (h : Marks B Ds w) (hk : ∀ D ∈ Ds, w'.heap[D]? = w.heap[D]?) : Marks B Ds w' := ⟨h.ge, fun D hD => (hk D hD).trans (h.at_ D hD), h.nd⟩
theorem Marks.lt {B : Nat} {Ds : List Nat} {w : World} (h : Marks B Ds w) {D : Nat} (hD : D ∈ Ds) : D < w.heap.size := (Array.getElem?_eq_some_iff.1 (h.at_ D hD)).1
theorem Marks.below {B : Nat} {Ds : List Nat} {w w' : World} (h : Marks B Ds w) (hb : Below w.heap.size w w') : Marks B Ds w' := h.kept fun D hD => hb.block D (h.lt hD)
theorem Marks.others {B b : Nat} {Ds : List Nat} {w w' : World} (h : Marks B Ds w) (hk : Lib.OthersKept 5 (some b) w w') (hb : b < B) : Marks B Ds w' :=
  h.kept fun D hD => (hk D _ (h.at_ D hD) (fun e => by injection e with e; have := h.ge D hD; omega) (fun c fz e => by cases e)).trans (h.at_ D hD).symm
theorem isBw_kept {B b : Nat} {l : List UInt8} {W W' : World} (h : IsBw B b l W) (hk : ∀ (k : Nat) (o : Obj), W.heap[k]? = some o → o.isCells = true → W'.heap[k]? = some o) : IsBw B b l W' := by
  have key : ∀ p, Lib.BuilderAtF 75 5 B b p (Lib.byteCells l) W → Lib.BuilderAtF 75 5 B b p (Lib.byteCells l) W' := by
    rintro p ⟨hB, v, hb, ho, hne⟩
    refine ⟨hB, v, hk _ _ hb rfl, ⟨ho.1, ?_⟩, hne⟩
    rcases ho.2 with h0 | ⟨g, cap, cur, fz, e, h1, h2, h3⟩
    · exact .inl h0
    · exact .inr ⟨g, cap, cur, fz, e, h1, hk _ _ h2 rfl, h3⟩
  exact h.elim (fun x => .inl (key _ x)) (fun x => .inr (key _ x))
theorem keepsW_of {b : Nat} {A B : World} (hs : A.heap.size ≤ B.heap.size) (h : Lib.OthersKept 5 (some b) A B) (hb : ∃ c t f, A.heap[b]? = some (.cells c t f)) : KeepsOthers A B :=
  ⟨hs, fun k o hk hc => h k o hk (fun e => by
    injection e with e
    subst e
    obtain ⟨c, t, f, hh⟩ := hb
    rw [hh] at hk
    injection hk with hk
    subst hk
    cases hc) (fun c fz e => by subst e; cases hc)⟩
/-- While lines are folded: the Builder, the marks. -/
structure Fo (w wr : World) (acc : List UInt8) (Ds : List Nat) : Prop where
  isB : IsBw w.heap.size w.heap.size acc wr
  bel : Below w.heap.size w wr
  mks : Marks (w.heap.size + 1) Ds wr
  sz : w.heap.size < wr.heap.size
section
variable {w wr w' : World} {acc acc' : List UInt8} {Ds : List Nat}
theorem Fo.below (h : Fo w wr acc Ds) (hb : Below wr.heap.size wr w') : Fo w w' acc Ds := ⟨isBw_below h.isB hb, bstep h.bel hb, h.mks.below hb, by have := hb.size; have := h.sz; omega⟩
theorem Fo.write (h : Fo w wr acc Ds) (hI : IsBw w.heap.size w.heap.size acc' w') (hb : Below w.heap.size wr w') (hk : Lib.OthersKept 5 (some w.heap.size) wr w') : Fo w w' acc' Ds :=
  ⟨hI, h.bel.trans hb, h.mks.others hk (by omega), by have := hb.size; have := h.sz; omega⟩
theorem Fo.blk (h : Fo w wr acc Ds) : ∃ c t f, wr.heap[w.heap.size]? = some (.cells c t f) := by
  rcases h.isB with ⟨_, v, hh, _⟩ | ⟨_, v, hh, _⟩ <;> exact ⟨_, _, _, hh⟩
end
/-- What has been written of a line. -/
def accP (acc : List UInt8) (pre : List Piece) : List UInt8 := acc ++ pre.flatMap fun x => x.1.data.toList ++ [13, 10]
theorem accP_snoc (acc : List UInt8) (pre : List Piece) (x : Piece) : accP acc (pre ++ [x]) = accP acc pre ++ x.1.data.toList ++ [13, 10] := by simp [accP]
theorem accP_len (acc : List UInt8) : ∀ pre : List Piece, (accP acc pre).length ≤ acc.length + 102 * pre.length
  | [] => by simp [accP]
  | x :: pre => by
    have ih := accP_len acc pre
    have hx := x.2
    have e : x.1.data.toList.length = x.1.size := (bsize x.1).symm
    unfold accP at ih ⊢
    simp only [List.flatMap_cons, List.length_append, List.length_cons, List.length_nil] at ih ⊢
    omega
theorem lineF_len (l : List UInt8) : (lineF l).length ≤ 78 * (l.length + 1) := by
  rw [← pieL_fold]
  have h := pieF_len l.length l [] (Nat.le_refl _) (by simp)
  unfold pieL
  have : ∀ (ls : List (List UInt8)), (∀ x ∈ ls, x.length ≤ 76) → (ls.flatMap fun x => x ++ [13, 10]).length ≤ 78 * ls.length := by
    intro ls
    induction ls with
    | nil => intro _; simp
    | cons x ls ih =>
      intro hx
      have := ih (fun y hy => hx y (by simp [hy]))
      have := hx x (by simp)
      simp only [List.flatMap_cons, List.length_append, List.length_cons, List.length_nil]
      omega
  have := this _ h.2
  omega
theorem foldL_snoc (a : List (List UInt8)) (x : List UInt8) : foldL (a ++ [x]) = foldL a ++ lineF x := by simp [foldL]
theorem foldT_len : ∀ (bs : List ByteArray), (foldL (bs.map fun b => b.data.toList)).length ≤ 78 * vsize bs
  | [] => by simp [foldL]
  | b :: bs => by
    have ih := foldT_len bs
    have := lineF_len b.data.toList
    have e : b.data.toList.length = b.size := (bsize b).symm
    unfold foldL at ih ⊢
    unfold vsize at ih ⊢
    simp only [List.map_cons, List.flatMap_cons, List.length_append, List.sum_cons] at ih ⊢
    omega
theorem vsize_take (bs : List ByteArray) (i : Nat) : vsize (bs.take i) ≤ vsize bs := by
  conv => rhs; rw [← List.take_append_drop i bs]
  unfold vsize
  rw [List.map_append, List.sum_append]
  omega
/-- Between two pieces. -/
structure InvF (w w4 : World) (acc : List UInt8) (Ds : List Nat) (X : Nat) (pre : List Piece) (W : World) : Prop where
  fo : Fo w W (accP acc pre) Ds
  kp : Below w.heap.size w4 W
  box : W.heap[X]? = w4.heap[X]?
theorem invF_own {w w4 : World} {acc : List UInt8} {Ds : List Nat} {X : Nat} (hw : w.heap.size ≤ w4.heap.size) (hX : X < w4.heap.size) (hD : ∀ D ∈ Ds, D < w4.heap.size) : OwnFrom w4.heap.size (InvF w w4 acc Ds X) := by
  rintro pre A B row ⟨h1, h2, h3⟩ hg hr
  have hcell : ∀ (k : Nat) (o : Obj), A.heap[k]? = some o → o.isCells = true → B.heap[k]? = some o := fun k o ho hc => by
    refine (hg.block k (Array.getElem?_eq_some_iff.1 ho).1 (fun e => ?_)).trans ho
    obtain ⟨_, o', ho', hc'⟩ := hr k e.symm
    rw [ho] at ho'
    injection ho' with ho'
    subst ho'
    rw [hc] at hc'
    cases hc'
  have hold : ∀ k, k < w4.heap.size → k < A.heap.size → B.heap[k]? = A.heap[k]? := fun k hk hkA => hg.block k hkA (fun e => by obtain ⟨h, _⟩ := hr k e.symm; omega)
  have hbel : Below w.heap.size A B := (Below.refl _ A).grown hg (Nat.le_trans (by have := h2.size; omega) (Nat.le_refl _)) (fun k e => by obtain ⟨h, _⟩ := hr k e; omega)
  have hXA : X < A.heap.size := Nat.lt_of_lt_of_le hX h2.size
  exact ⟨⟨isBw_kept h1.isB hcell, h1.bel.trans hbel, h1.mks.kept fun D hDD => hold D (hD D hDD) (h1.mks.lt hDD), Nat.lt_of_lt_of_le h1.sz hg.size⟩, h2.trans hbel, (hold X hX hXA).trans h3⟩
def NoPc (_ : Code) (_ : List Piece) (_ : World) : Prop := False
set_option maxRecDepth 100000 in
set_option maxHeartbeats 8000000 in
theorem pFold_x (A : Option Addr) (n c : Nat) (bs : List ByteArray) (w : World) (hR : Reads w w.heap.size 1 A n (encS bs)) (hn : n ≤ c) (hc : c ≤ maxLen) (hsz : vsize bs ≤ 1048576) :
    Calls Tryz.prog 27 #[.slice A n c] w fun e w' => e = .returned (.string ⟨(foldL (bs.map fun b => b.data.toList)).toArray⟩) ∧ Below w.heap.size w w' := by
  have HR := Lib.hid hR
  have hnm : n ≤ 9223372036854775807 := by have := hc; unfold maxLen at this; omega
  clear hR hn hc
  refine (callsIn_wide (n := 3)).1 ?_
  refine callsIn_of_wp_marks Tryz.func27 rfl trivial ?_ rfl
  refine wpIn_wide.2 ?_
  simp only [Tryz.ntmps27, List.size_toArray, List.length_cons, List.length_nil, Nat.reduceAdd, Nat.reduceSub, Array.replicate_succ, Array.replicate_zero, List.push_toArray, List.append_toArray, List.nil_append, List.cons_append]
  have HS := Lib.hid hsz
  have F0 : Hid (Fo w (w.alloc (.cells #[.pointer none, .slice none 0 0] 75)) [] []) := Lib.hid ⟨isBw_new w, (Below.refl _ w).alloc (Nat.le_refl _) _, ⟨fun D h => (by cases h), fun D h => (by cases h), List.nodup_nil⟩, by simp⟩
  clear hsz
  go_wp2
  refine wp_loop (fun a' w' => ∃ (i : Nat) (Ds : List Nat) (u5 u6 u10 u11 u12 u13 u14 u15 u16 u17 u18 u19 u20 : Value), a' = { tmps := #[.slice A n c, undef, .string ⟨#[]⟩, .pointer (some ⟨w.heap.size, 0, none⟩), undef, u5, u6, .slice A n c, .int .i64 n, .int .i64 i, u10, u11, u12, u13, u14, u15, u16, u17, u18, u19, u20], defers := Ds.map mkD } ∧ i ≤ n ∧ Hid (Fo w w' (foldL ((bs.take i).map fun b => b.data.toList)) Ds)) (fun a' _ => n - (intOf (a'.tmps.getD 9 undef)).toNat) ?_ ?_
  · exact ⟨0, [], undef, undef, undef, undef, undef, undef, undef, undef, undef, undef, undef, undef, undef, rfl, Nat.zero_le _, F0⟩
  · rintro a' wr ⟨i, Ds, u5, u6, u10, u11, u12, u13, u14, u15, u16, u17, u18, u19, u20, rfl, hi, F1⟩
    clear F0
    by_cases hlt : i < n
    · have hli : i < bs.length := by have := HR.out.lenS; omega
      obtain ⟨b1, o1, rfl, _, g1⟩ := (HR.out.step F1.out.bel).str hlt
      obtain ⟨s, hs⟩ : ∃ s, blk bs i = s := ⟨_, rfl⟩
      rw [hs] at g1
      have hbi : bs[i]? = some s := by
        rw [← hs]; unfold blk
        rw [List.getD_eq_getElem?_getD, List.getElem?_eq_getElem hli]; rfl
      have hss : s.size + 1 ≤ vsize bs := vsize_le (List.mem_of_getElem? hbi)
      have HTK : Hid (foldL ((bs.take (i + 1)).map fun b => b.data.toList) = foldL ((bs.take i).map fun b => b.data.toList) ++ lineF s.data.toList) := Lib.hid (by
        rw [← foldL_snoc, List.take_add_one, hbi]; simp)
      have hal : (foldL ((bs.take i).map fun b => b.data.toList)).length ≤ 81788928 := by
        have h1 := foldT_len (bs.take i)
        have h2 := vsize_take bs i
        have h3 := HS.out
        omega
      have HAL := Lib.hid hal
      have HSS := Lib.hid hss
      have ha : Below wr.heap.size wr (wr.alloc (.cells #[.string s] 9)) := (Below.refl _ wr).alloc (Nat.le_refl _) _
      have F2 := Lib.hid (F1.out.below ha)
      have hbx : (wr.alloc (.cells #[.string s] 9)).heap[wr.heap.size]? = some (.cells #[.string s] 9 (0, 0)) := heap_alloc_new wr _
      have hbc : (wr.alloc (.cells #[.string s] 9)).cell? ⟨wr.heap.size, 0, none⟩ = some (.string s) := by simp
      have hXl : wr.heap.size < (wr.alloc (.cells #[.string s] 9)).heap.size := by simp
      have hXw : w.heap.size < wr.heap.size := F1.out.sz
      have hDl : ∀ D ∈ Ds, D < wr.heap.size := fun D hD => F1.out.mks.lt hD
      clear hs hbi ha hal hss F1
      go_wp2_with (go_at_call 47; refine ((callsIn_wide (n := 2)).1 (pieFn_in 2 _ _)).mono ?_; rintro e w' ⟨rfl, rfl⟩)
      refine (wpIn_wide (n := 3)).1 ?_
      generalize wr.alloc (.cells #[.string s] 9) = w4 at F2 hbx hbc hXl ⊢
      have HX := Lib.hid (And.intro hbx (And.intro hXw hDl))
      generalize wr.heap.size = X at *
      have hzw : w.heap.size ≤ w4.heap.size := F2.out.bel.size
      refine wpIn_rangeFunc_ownG rfl (by omega) (gf := 68) (lb := #[.pointer (some ⟨X, 0, none⟩)]) rfl trivial (enters_of Tryz.func68 (by kernel_rfl) rfl)
        (pie_stops 2 (by omega) X w.heap.size s (by have := HSS.out; have := HS.out; omega) w4 hXl hbc) KpL.trans (kpL_put hzw hXl) (Below.refl _ _) (fun _ => rfl)
        (InvF w w4 (foldL ((bs.take i).map fun b => b.data.toList)) Ds X) NoPc (invF_own hzw hXl (fun D hD => Nat.lt_trans (HX.out.2.2 D hD) hXl)) ?ownx ⟨by rw [show accP (foldL ((bs.take i).map fun b => b.data.toList)) [] = foldL ((bs.take i).map fun b => b.data.toList) from by simp [accP]]; exact F2.out, Below.refl _ _, rfl⟩
        (fun x => { tmps := #[.slice (some ⟨b1, o1, none⟩) n c, undef, .string ⟨#[]⟩, .pointer (some ⟨w.heap.size, 0, none⟩), undef, .string s, .string x.1, .slice (some ⟨b1, o1, none⟩) n c, .int .i64 n, .int .i64 i, .bool true, .pointer (some ⟨b1, o1 + i, none⟩), .string s, .string s, .func (.func 68) #[] #[.pointer (some ⟨X, 0, none⟩)], .string x.1, u16, u17, u18, u19, u20], defers := [] }) ?assign ?body ?done ?stop
      case ownx =>
        rintro c pre A B row h0 hg hr
        exact h0.elim
      case assign =>
        intro l x W K hK
        gi_wp2
        exact hK
      case body =>
        rintro l pre x W hI hlN
        have hpl : (pieL s.data.toList).length ≤ s.size + 1 := by
          have := (pieF_len s.data.toList.length s.data.toList [] (Nat.le_refl _) (by simp)).1
          have e : s.data.toList.length = s.size := (bsize s).symm
          unfold pieL
          omega
        have hacl := accP_len (foldL ((bs.take i).map fun b => b.data.toList)) pre
        have hal : (accP (foldL ((bs.take i).map fun b => b.data.toList)) pre).length ≤ 200000000 := by have := HAL.out; have := HSS.out; have := HS.out; omega
        have HI := Lib.hid hI
        have HA2 := Lib.hid hal
        have hx := x.2
        obtain ⟨xs, hxs⟩ : ∃ xs, x.1 = xs := ⟨_, rfl⟩
        have HXS := Lib.hid hxs
        rw [hxs] at hx ⊢
        clear hpl hacl hal hI hxs hlN
        gi_wp2_with fail
        refine ⟨trivial, (callsIn_wide.2 (wrS xs HI.out.fo.isB (by have := HA2.out; omega) (by have := HI.out.fo.sz; omega))).mono ?_⟩
        rintro e w5 ⟨rfl, i5, b5, k5⟩
        have F5 := Lib.hid (HI.out.fo.write i5 b5 k5)
        gi_wp2_with fail
        refine ⟨trivial, (callsIn_wide.2 (wrS ⟨#[13, 10]⟩ F5.out.isB (by rw [List.length_append, ← bsize, show (⟨#[13, 10]⟩ : ByteArray).size = 2 from rfl]; have := HA2.out; omega) (by have := F5.out.sz; omega))).mono ?_⟩
        rintro e w6 ⟨rfl, i6, b6, k6⟩
        have F6 := F5.out.write i6 b6 k6
        have kk := k5.trans k6
        have HD : Hid (KeepsFrom w4.heap.size W w6 ∧ KpL w.heap.size X W w6 ∧ InvF w w4 (foldL ((bs.take i).map fun b => b.data.toList)) Ds X (pre ++ [x]) w6) := Lib.hid (by
          have hbb := b5.trans b6
          have hbx : w6.heap[X]? = W.heap[X]? := by
            have hW : W.heap[X]? = some (.cells #[.string s] 9 (0, 0)) := HI.out.box.trans HX.out.1
            exact (kk X _ hW (fun e => by injection e with e; have := HX.out.2.1; omega) (fun c fz e => by injection e with _ e _; exact absurd e (by decide))).trans hW.symm
          refine ⟨(keepsW_of hbb.size kk HI.out.fo.blk).from _, ⟨hbb, hbx⟩, ⟨?_, HI.out.kp.trans hbb, hbx.trans HI.out.box⟩⟩
          rw [accP_snoc, HXS.out]
          exact F6)
        clear F6 kk i5 b5 k5 i6 b6 k6 F5 HI
        gi_wp2
        exact HD.out
      case stop =>
        rintro D c pre W hD _ h0 hK
        exact h0.elim
      case done =>
        rintro D ys W hD hys hI hK
        have F7 : Hid (Fo w W (foldL ((bs.take (i + 1)).map fun b => b.data.toList)) (D :: Ds)) := Lib.hid (by
          have e : accP (foldL ((bs.take i).map fun b => b.data.toList)) ys = foldL ((bs.take (i + 1)).map fun b => b.data.toList) := by
            rw [HTK.out, ← pieL_fold, ← hys]
            unfold accP
            rw [List.flatMap_map]
          have := hI.fo
          rw [e] at this
          refine ⟨this.isB, this.bel, ⟨fun E hE => ?_, fun E hE => ?_, ?_⟩, this.sz⟩
          · rcases List.mem_cons.1 hE with rfl | hE
            · have := HX.out.2.1; omega
            · exact this.mks.ge E hE
          · rcases List.mem_cons.1 hE with rfl | hE
            · exact hK
            · exact this.mks.at_ E hE
          · exact List.nodup_cons.2 ⟨fun h => by have := HX.out.2.2 D h; omega, this.mks.nd⟩)
        clear hys hI hK F2
        go_wp2
        refine ⟨⟨i + 1, D :: Ds, .string s, u6, .bool true, .pointer (some ⟨b1, o1 + i, none⟩), .string s, .string s, .func (.func 68) #[] #[.pointer (some ⟨X, 0, none⟩)], u15, u16, u17, u18, .int .i64 ((i : Int) + 1), u20, ?_, by omega, F7⟩, ?_⟩
        · rw [show ((i + 1 : Nat) : Int) = (i : Int) + 1 by omega]; rfl
        · simp [intOf]; omega
    · obtain rfl : i = n := by omega
      have hall : bs.take i = bs := List.take_of_length_le (by have := HR.out.lenS; omega)
      rw [hall] at F1
      go_wp2_with fail
      refine (Tryz.Builder_String_any_k _ _ _ _ F1.out.isB (by have := F1.out.sz; omega)).mono ?_
      rintro e wz ⟨rfl, iz, hbz, kz⟩
      have FZ := Lib.hid (F1.out.write iz hbz kz)
      clear F1 iz hbz kz hall
      go_wp2
      exact leaves_marks (by simp) Ds _ FZ.out.mks (fun w' hw' => ⟨_, results_tmp rfl _ _ _, rfl, FZ.out.bel.trans (hw'.mono (by omega))⟩)
end Go.Proofs.YtlfhhnjdfpgadaaGreatDoor

/-
  A region that draws its order, inside a round of a range over a function: what is shown outside holds there.
-/
namespace Go.Proofs.YtlfhhnjdfpgadaaGreatDoor
open Go.RowKit

section
variable {P : Program} {ops : Array Oper} {Q : Exit → Act → World → Prop} {md : Region.Mode} {l n : Nat}

theorem rows_in {row : String} {args : Array Value} {w : World} {R : Value → World → Prop} (h : Rows P row args w R) : RowsIn (Fence.wide.inRound l) n P row args w R := fun c cs _ =>
  let ⟨v, w', r, s⟩ := h c cs; ⟨v, w', r, stepsIn_wide.2 s⟩
theorem op_round {o : Oper} {a : Act} {w : World} {K : Act → World → Prop} (hd : ∀ c, o.op ≠ .defer c) (h : Oper.wp P o a w K Q) : Oper.wpIn (Fence.wide.inRound l) n P o a w K Q := by
  refine ⟨fun _ _ => trivial, ?_⟩
  rw [Oper.semAt_eq _ _ _ hd]
  unfold Oper.wp at h
  generalize (execOp a.eval o).run P w = r at h ⊢
  cases r with
  | ok x w' =>
    cases x with
    | value v => exact h
    | skip => exact h
    | defer d => exact h
    | enter f args => exact ⟨fun hh => (by cases hh), CallsIn.inRound l (callsIn_wide.2 (Calls.mono h fun e w'' he => (by cases e <;> exact he)))⟩
    | row r args => exact ⟨fun hh => (by cases hh), rows_in h⟩
    | _ => exact h.elim
  | halt x w' => cases x <;> exact h

/-- No operation of the region puts off a call. -/
def noDefer (ops : Array Oper) : Bool := ops.all fun o => match o.op with
  | .defer _ => false
  | _ => true
theorem noDefer_spec (h : noDefer ops = true) {i : Nat} {o : Oper} (ho : ops[i]? = some o) : ∀ c, o.op ≠ .defer c := fun c e => by
  unfold noDefer at h
  rw [Array.all_eq_true] at h
  obtain ⟨hi, e2⟩ := Array.getElem?_eq_some_iff.1 ho
  have := h i hi
  rw [e2, e] at this
  cases this
theorem any_round (hd : noDefer ops = true) (hQ : ¬ LetsOut Q) : ∀ (f : Nat) (listed : Array Bool) (a : Act) (w : World), wpAny P md ops Q f listed a w → wpAnyIn (Fence.wide.inRound l) n P md ops Q f listed a w
  | 0, _, _, _, h => h
  | f + 1, listed, a, w, h => ⟨h.1, fun i hi => by
    have h2 := h.2 i hi
    unfold wpOp at h2
    unfold wpOpIn
    cases ho : ops[i]? with
    | none => rw [ho] at h2; exact any_round hd hQ f _ a w h2
    | some o =>
      rw [ho] at h2
      dsimp only at h2 ⊢
      by_cases hw : Region.wanted o (yielded ops a.tmps) = true
      · rw [if_pos hw] at h2 ⊢
        rcases h2 with h2 | h2
        · exact Oper.wpIn_mono (fun a' w' => any_round hd hQ f _ a' w') (op_round (noDefer_spec hd ho) h2)
        · exact absurd h2.2 hQ
      · rw [if_neg hw] at h2 ⊢
        exact ⟨fun _ _ => trivial, any_round hd hQ f _ _ w h2⟩⟩
theorem wpIn_region_till (S : World → Prop) (k q : Nat) {id : Nat} {a : Act} {w : World} (hm : P.follows .mixedOrders = true) (hd : noDefer ops = true) (hQ : ¬ LetsOut Q) (hn : ops.size = q)
    (h : TillC P .any ops Q S k q (Array.replicate q false) a w.drew) : (Code.region id ops true).wpIn (Fence.wide.inRound l) n P Q a w := by
  subst hn
  exact wpIn_region_any hm (any_round hd hQ _ _ _ _ (wpAny_of_till _ _ _ _ (h (closed_none _))))
end

end Go.Proofs.YtlfhhnjdfpgadaaGreatDoor
