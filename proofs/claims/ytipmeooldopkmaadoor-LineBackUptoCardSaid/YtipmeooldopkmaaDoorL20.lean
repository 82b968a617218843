/-
  The program's functions of layer 11: lines folded.
-/
import Derived.Test.YtipmeooldopkmaaDoorL19
import Derived.Lib.IndexMore
import Derived.Lib.Strings
import Derived.Test.YtipmeooldopkmaaDoorL14
import Derived.Test.YtipmeooldopkmaaDoorL07
namespace Go.Proofs.YtipmeooldopkmaaDoor
open Go.RowKit Go.Shelf
attribute [local go_sem] Oper.semAt_some

/-- The mark that a loop over an iterator leaves among the deferred calls. -/
def mkD (D : Nat) : Deferred := { target := .collected D, args := #[] }
structure Marks (B : Nat) (Ds : List Nat) (w : World) : Prop where
  ge : ∀ D ∈ Ds, B ≤ D
  at_ : ∀ D ∈ Ds, w.heap[D]? = some (.deferred (some []))
  nd : Ds.Nodup
theorem belowD_put {B D : Nat} {w : World} {o : Obj} (h : B ≤ D) (hD : D < w.heap.size) : Below B w (w.putObj D o) :=
  (Below.refl B w).grown (grownBy_putObj' w D o) (by omega) fun j ej => by cases ej; omega
theorem leaves_marks {F : Fence} {k : Nat} {P : Program} {fn : Func} {tmps : Array Value} {R : Ending → World → Prop} {u : FrameMode} {B : Nat} (hu : u ≠ .run) : ∀ (Ds : List Nat) (w : World), Marks B Ds w →
    (∀ w', Below B w w' → LeavesInM F k P fn tmps R [] u w') → LeavesInM F k P fn tmps R (Ds.map mkD) u w
  | [], w, _, h => h w (Below.refl _ _)
  | D :: Ds, w, hM, h => by
    have hD := hM.at_ D (by simp)
    have hlt : D < w.heap.size := (Array.getElem?_eq_some_iff.1 hD).1
    have hb := belowD_put (o := .deferred none) (hM.ge D (by simp)) hlt
    refine ⟨hu, .inl ⟨D, _, rfl, run_takeDeferred hD, leaves_marks hu Ds _ ⟨fun E hE => hM.ge E (by simp [hE]), fun E hE => ?_, (List.nodup_cons.1 hM.nd).2⟩ (fun w' hw' => h w' (hb.trans hw'))⟩⟩
    rw [World.putObj_heap_other (fun e => (List.nodup_cons.1 hM.nd).1 (by rw [← e]; exact hE))]
    exact hM.at_ E (by simp [hE])
theorem Marks.kept {B : Nat} {Ds : List Nat} {w w' : World} (h : Marks B Ds w) (hk : ∀ D ∈ Ds, w'.heap[D]? = w.heap[D]?) : Marks B Ds w' := ⟨h.ge, fun D hD => (hk D hD).trans (h.at_ D hD), h.nd⟩
theorem Marks.lt {B : Nat} {Ds : List Nat} {w : World} (h : Marks B Ds w) {D : Nat} (hD : D ∈ Ds) : D < w.heap.size := (Array.getElem?_eq_some_iff.1 (h.at_ D hD)).1
theorem Marks.below {B : Nat} {Ds : List Nat} {w w' : World} (h : Marks B Ds w) (hb : Below w.heap.size w w') : Marks B Ds w' := h.kept fun D hD => hb.block D (h.lt hD)
theorem Marks.others {B b : Nat} {Ds : List Nat} {w w' : World} (h : Marks B Ds w) (hk : Lib.OthersKept 5 (some b) w w') (hb : b < B) : Marks B Ds w' :=
  h.kept fun D hD => (hk D _ (h.at_ D hD) (fun e => by injection e with e; have := h.ge D hD; omega) (fun c fz e => by cases e)).trans (h.at_ D hD).symm
theorem isBw_kept {B b : Nat} {l : List UInt8} {W W' : World} (h : IsBw B b l W) (hk : ∀ (k : Nat) (o : Obj), W.heap[k]? = some o → o.isCells = true → W'.heap[k]? = some o) : IsBw B b l W' := by
  have key : ∀ p, Lib.BuilderAtF 67 5 B b p (Lib.byteCells l) W → Lib.BuilderAtF 67 5 B b p (Lib.byteCells l) W' := by
    rintro p ⟨hB, v, hb, ho, hne⟩
    refine ⟨hB, v, hk _ _ hb rfl, ⟨ho.1, ?_⟩, hne⟩
    rcases ho.2 with h0 | ⟨g, cap, cur, fz, e, h1, h2, h3⟩
    · exact .inl h0
    · exact .inr ⟨g, cap, cur, fz, e, h1, hk _ _ h2 rfl, h3⟩
  exact h.elim (fun x => .inl (key _ x)) (fun x => .inr (key _ x))
theorem keepsW_of {b : Nat} {A B : World} (hs : A.heap.size ≤ B.heap.size) (h : Lib.OthersKept 5 (some b) A B) (hb : ∃ c t f, A.heap[b]? = some (.cells c t f)) : KeepsOthers A B :=
  ⟨hs, fun k o hk hc => h k o hk (fun e => by
    injection e with e
    subst e
    obtain ⟨c, t, f, hh⟩ := hb
    rw [hh] at hk
    injection hk with hk
    subst hk
    cases hc) (fun c fz e => by subst e; cases hc)⟩
/-- While lines are folded: the Builder, the marks. -/
structure Fo (w wr : World) (acc : List UInt8) (Ds : List Nat) : Prop where
  isB : IsBw w.heap.size w.heap.size acc wr
  bel : Below w.heap.size w wr
  mks : Marks (w.heap.size + 1) Ds wr
  sz : w.heap.size < wr.heap.size
section
variable {w wr w' : World} {acc acc' : List UInt8} {Ds : List Nat}
theorem Fo.below (h : Fo w wr acc Ds) (hb : Below wr.heap.size wr w') : Fo w w' acc Ds := ⟨isBw_below h.isB hb, bstep h.bel hb, h.mks.below hb, by have := hb.size; have := h.sz; omega⟩
theorem Fo.write (h : Fo w wr acc Ds) (hI : IsBw w.heap.size w.heap.size acc' w') (hb : Below w.heap.size wr w') (hk : Lib.OthersKept 5 (some w.heap.size) wr w') : Fo w w' acc' Ds :=
  ⟨hI, h.bel.trans hb, h.mks.others hk (by omega), by have := hb.size; have := h.sz; omega⟩
theorem Fo.blk (h : Fo w wr acc Ds) : ∃ c t f, wr.heap[w.heap.size]? = some (.cells c t f) := by
  rcases h.isB with ⟨_, v, hh, _⟩ | ⟨_, v, hh, _⟩ <;> exact ⟨_, _, _, hh⟩
end
/-- What has been written of a line. -/
def accP (acc : List UInt8) (pre : List Piece) : List UInt8 := acc ++ pre.flatMap fun x => x.1.data.toList ++ [13, 10]
theorem accP_snoc (acc : List UInt8) (pre : List Piece) (x : Piece) : accP acc (pre ++ [x]) = accP acc pre ++ x.1.data.toList ++ [13, 10] := by simp [accP]
theorem accP_len (acc : List UInt8) : ∀ pre : List Piece, (accP acc pre).length ≤ acc.length + 102 * pre.length
  | [] => by simp [accP]
  | x :: pre => by
    have ih := accP_len acc pre
    have hx := x.2
    have e : x.1.data.toList.length = x.1.size := (bsize x.1).symm
    unfold accP at ih ⊢
    simp only [List.flatMap_cons, List.length_append, List.length_cons, List.length_nil] at ih ⊢
    omega
theorem lineF_len (l : List UInt8) : (lineF l).length ≤ 78 * (l.length + 1) := by
  rw [← pieL_fold]
  have h := pieF_len l.length l [] (Nat.le_refl _) (by simp)
  unfold pieL
  have : ∀ (ls : List (List UInt8)), (∀ x ∈ ls, x.length ≤ 76) → (ls.flatMap fun x => x ++ [13, 10]).length ≤ 78 * ls.length := by
    intro ls
    induction ls with
    | nil => intro _; simp
    | cons x ls ih =>
      intro hx
      have := ih (fun y hy => hx y (by simp [hy]))
      have := hx x (by simp)
      simp only [List.flatMap_cons, List.length_append, List.length_cons, List.length_nil]
      omega
  have := this _ h.2
  omega
theorem foldL_snoc (a : List (List UInt8)) (x : List UInt8) : foldL (a ++ [x]) = foldL a ++ lineF x := by simp [foldL]
theorem foldT_len : ∀ (bs : List ByteArray), (foldL (bs.map fun b => b.data.toList)).length ≤ 78 * vsize bs
  | [] => by simp [foldL]
  | b :: bs => by
    have ih := foldT_len bs
    have := lineF_len b.data.toList
    have e : b.data.toList.length = b.size := (bsize b).symm
    unfold foldL at ih ⊢
    unfold vsize at ih ⊢
    simp only [List.map_cons, List.flatMap_cons, List.length_append, List.sum_cons] at ih ⊢
    omega
theorem vsize_take (bs : List ByteArray) (i : Nat) : vsize (bs.take i) ≤ vsize bs := by
  conv => rhs; rw [← List.take_append_drop i bs]
  unfold vsize
  rw [List.map_append, List.sum_append]
  omega
/-- Between two pieces. -/
structure InvF (w w4 : World) (acc : List UInt8) (Ds : List Nat) (X : Nat) (pre : List Piece) (W : World) : Prop where
  fo : Fo w W (accP acc pre) Ds
  kp : Below w.heap.size w4 W
  box : W.heap[X]? = w4.heap[X]?
theorem invF_own {w w4 : World} {acc : List UInt8} {Ds : List Nat} {X : Nat} (hw : w.heap.size ≤ w4.heap.size) (hX : X < w4.heap.size) (hD : ∀ D ∈ Ds, D < w4.heap.size) : OwnFrom w4.heap.size (InvF w w4 acc Ds X) := by
  rintro pre A B row ⟨h1, h2, h3⟩ hg hr
  have hcell : ∀ (k : Nat) (o : Obj), A.heap[k]? = some o → o.isCells = true → B.heap[k]? = some o := fun k o ho hc => by
    refine (hg.block k (Array.getElem?_eq_some_iff.1 ho).1 (fun e => ?_)).trans ho
    obtain ⟨_, o', ho', hc'⟩ := hr k e.symm
    rw [ho] at ho'
    injection ho' with ho'
    subst ho'
    rw [hc] at hc'
    cases hc'
  have hold : ∀ k, k < w4.heap.size → k < A.heap.size → B.heap[k]? = A.heap[k]? := fun k hk hkA => hg.block k hkA (fun e => by obtain ⟨h, _⟩ := hr k e.symm; omega)
  have hbel : Below w.heap.size A B := (Below.refl _ A).grown hg (Nat.le_trans (by have := h2.size; omega) (Nat.le_refl _)) (fun k e => by obtain ⟨h, _⟩ := hr k e; omega)
  have hXA : X < A.heap.size := Nat.lt_of_lt_of_le hX h2.size
  exact ⟨⟨isBw_kept h1.isB hcell, h1.bel.trans hbel, h1.mks.kept fun D hDD => hold D (hD D hDD) (h1.mks.lt hDD), Nat.lt_of_lt_of_le h1.sz hg.size⟩, h2.trans hbel, (hold X hX hXA).trans h3⟩
def NoPc (_ : Code) (_ : List Piece) (_ : World) : Prop := False
set_option maxRecDepth 100000 in
set_option maxHeartbeats 8000000 in
theorem pFold_x (A : Option Addr) (n c : Nat) (bs : List ByteArray) (w : World) (hR : Reads w w.heap.size 1 A n (encS bs)) (hn : n ≤ c) (hc : c ≤ maxLen) (hsz : vsize bs ≤ 1048576) :
    Calls Tryd.prog 17 #[.slice A n c] w fun e w' => e = .returned (.string ⟨(foldL (bs.map fun b => b.data.toList)).toArray⟩) ∧ Below w.heap.size w w' := by
  have HR := Lib.hid hR
  have hnm : n ≤ 9223372036854775807 := by have := hc; unfold maxLen at this; omega
  clear hR hn hc
  refine (callsIn_wide (n := 3)).1 ?_
  refine callsIn_of_wp_marks Tryd.func17 rfl trivial ?_ rfl
  refine wpIn_wide.2 ?_
  simp only [Tryd.ntmps17, List.size_toArray, List.length_cons, List.length_nil, Nat.reduceAdd, Nat.reduceSub, Array.replicate_succ, Array.replicate_zero, List.push_toArray, List.append_toArray, List.nil_append, List.cons_append]
  have HS := Lib.hid hsz
  have F0 : Hid (Fo w (w.alloc (.cells #[.pointer none, .slice none 0 0] 67)) [] []) := Lib.hid ⟨isBw_new w, (Below.refl _ w).alloc (Nat.le_refl _) _, ⟨fun D h => (by cases h), fun D h => (by cases h), List.nodup_nil⟩, by simp⟩
  clear hsz
  go_wp2
  refine wp_loop (fun a' w' => ∃ (i : Nat) (Ds : List Nat) (u5 u6 u10 u11 u12 u13 u14 u15 u16 u17 u18 u19 u20 : Value), a' = { tmps := #[.slice A n c, undef, .string ⟨#[]⟩, .pointer (some ⟨w.heap.size, 0, none⟩), undef, u5, u6, .slice A n c, .int .i64 n, .int .i64 i, u10, u11, u12, u13, u14, u15, u16, u17, u18, u19, u20], defers := Ds.map mkD } ∧ i ≤ n ∧ Hid (Fo w w' (foldL ((bs.take i).map fun b => b.data.toList)) Ds)) (fun a' _ => n - (intOf (a'.tmps.getD 9 undef)).toNat) ?_ ?_
  · exact ⟨0, [], undef, undef, undef, undef, undef, undef, undef, undef, undef, undef, undef, undef, undef, rfl, Nat.zero_le _, F0⟩
  · rintro a' wr ⟨i, Ds, u5, u6, u10, u11, u12, u13, u14, u15, u16, u17, u18, u19, u20, rfl, hi, F1⟩
    clear F0
    by_cases hlt : i < n
    · have hli : i < bs.length := by have := HR.out.lenS; omega
      obtain ⟨b1, o1, rfl, _, g1⟩ := (HR.out.step F1.out.bel).str hlt
      obtain ⟨s, hs⟩ : ∃ s, blk bs i = s := ⟨_, rfl⟩
      rw [hs] at g1
      have hbi : bs[i]? = some s := by
        rw [← hs]; unfold blk
        rw [List.getD_eq_getElem?_getD, List.getElem?_eq_getElem hli]; rfl
      have hss : s.size + 1 ≤ vsize bs := vsize_le (List.mem_of_getElem? hbi)
      have HTK : Hid (foldL ((bs.take (i + 1)).map fun b => b.data.toList) = foldL ((bs.take i).map fun b => b.data.toList) ++ lineF s.data.toList) := Lib.hid (by
        rw [← foldL_snoc, List.take_add_one, hbi]; simp)
      have hal : (foldL ((bs.take i).map fun b => b.data.toList)).length ≤ 81788928 := by
        have h1 := foldT_len (bs.take i)
        have h2 := vsize_take bs i
        have h3 := HS.out
        omega
      have HAL := Lib.hid hal
      have HSS := Lib.hid hss
      have ha : Below wr.heap.size wr (wr.alloc (.cells #[.string s] 9)) := (Below.refl _ wr).alloc (Nat.le_refl _) _
      have F2 := Lib.hid (F1.out.below ha)
      have hbx : (wr.alloc (.cells #[.string s] 9)).heap[wr.heap.size]? = some (.cells #[.string s] 9 (0, 0)) := heap_alloc_new wr _
      have hbc : (wr.alloc (.cells #[.string s] 9)).cell? ⟨wr.heap.size, 0, none⟩ = some (.string s) := by simp
      have hXl : wr.heap.size < (wr.alloc (.cells #[.string s] 9)).heap.size := by simp
      have hXw : w.heap.size < wr.heap.size := F1.out.sz
      have hDl : ∀ D ∈ Ds, D < wr.heap.size := fun D hD => F1.out.mks.lt hD
      clear hs hbi ha hal hss F1
      go_wp2_with (go_at_call 47; refine ((callsIn_wide (n := 2)).1 (pieFn_in 2 _ _)).mono ?_; rintro e w' ⟨rfl, rfl⟩)
      refine (wpIn_wide (n := 3)).1 ?_
      generalize wr.alloc (.cells #[.string s] 9) = w4 at F2 hbx hbc hXl ⊢
      have HX := Lib.hid (And.intro hbx (And.intro hXw hDl))
      generalize wr.heap.size = X at *
      have hzw : w.heap.size ≤ w4.heap.size := F2.out.bel.size
      refine wpIn_rangeFunc_ownG rfl (by omega) (gf := 63) (lb := #[.pointer (some ⟨X, 0, none⟩)]) rfl trivial (enters_of Tryd.func63 (by kernel_rfl) rfl)
        (pie_stops 2 (by omega) X w.heap.size s (by have := HSS.out; have := HS.out; omega) w4 hXl hbc) KpL.trans (kpL_put hzw hXl) (Below.refl _ _) (fun _ => rfl)
        (InvF w w4 (foldL ((bs.take i).map fun b => b.data.toList)) Ds X) NoPc (invF_own hzw hXl (fun D hD => Nat.lt_trans (HX.out.2.2 D hD) hXl)) ?ownx ⟨by rw [show accP (foldL ((bs.take i).map fun b => b.data.toList)) [] = foldL ((bs.take i).map fun b => b.data.toList) from by simp [accP]]; exact F2.out, Below.refl _ _, rfl⟩
        (fun x => { tmps := #[.slice (some ⟨b1, o1, none⟩) n c, undef, .string ⟨#[]⟩, .pointer (some ⟨w.heap.size, 0, none⟩), undef, .string s, .string x.1, .slice (some ⟨b1, o1, none⟩) n c, .int .i64 n, .int .i64 i, .bool true, .pointer (some ⟨b1, o1 + i, none⟩), .string s, .string s, .func (.func 63) #[] #[.pointer (some ⟨X, 0, none⟩)], .string x.1, u16, u17, u18, u19, u20], defers := [] }) ?assign ?body ?done ?stop
      case ownx =>
        rintro c pre A B row h0 hg hr
        exact h0.elim
      case assign =>
        intro l x W K hK
        gi_wp2
        exact hK
      case body =>
        rintro l pre x W hI hlN
        have hpl : (pieL s.data.toList).length ≤ s.size + 1 := by
          have := (pieF_len s.data.toList.length s.data.toList [] (Nat.le_refl _) (by simp)).1
          have e : s.data.toList.length = s.size := (bsize s).symm
          unfold pieL
          omega
        have hacl := accP_len (foldL ((bs.take i).map fun b => b.data.toList)) pre
        have hal : (accP (foldL ((bs.take i).map fun b => b.data.toList)) pre).length ≤ 200000000 := by have := HAL.out; have := HSS.out; have := HS.out; omega
        have HI := Lib.hid hI
        have HA2 := Lib.hid hal
        have hx := x.2
        obtain ⟨xs, hxs⟩ : ∃ xs, x.1 = xs := ⟨_, rfl⟩
        have HXS := Lib.hid hxs
        rw [hxs] at hx ⊢
        clear hpl hacl hal hI hxs hlN
        gi_wp2_with fail
        refine ⟨trivial, (callsIn_wide.2 (wrS xs HI.out.fo.isB (by have := HA2.out; omega) (by have := HI.out.fo.sz; omega))).mono ?_⟩
        rintro e w5 ⟨rfl, i5, b5, k5⟩
        have F5 := Lib.hid (HI.out.fo.write i5 b5 k5)
        gi_wp2_with fail
        refine ⟨trivial, (callsIn_wide.2 (wrS ⟨#[13, 10]⟩ F5.out.isB (by rw [List.length_append, ← bsize, show (⟨#[13, 10]⟩ : ByteArray).size = 2 from rfl]; have := HA2.out; omega) (by have := F5.out.sz; omega))).mono ?_⟩
        rintro e w6 ⟨rfl, i6, b6, k6⟩
        have F6 := F5.out.write i6 b6 k6
        have kk := k5.trans k6
        have HD : Hid (KeepsFrom w4.heap.size W w6 ∧ KpL w.heap.size X W w6 ∧ InvF w w4 (foldL ((bs.take i).map fun b => b.data.toList)) Ds X (pre ++ [x]) w6) := Lib.hid (by
          have hbb := b5.trans b6
          have hbx : w6.heap[X]? = W.heap[X]? := by
            have hW : W.heap[X]? = some (.cells #[.string s] 9 (0, 0)) := HI.out.box.trans HX.out.1
            exact (kk X _ hW (fun e => by injection e with e; have := HX.out.2.1; omega) (fun c fz e => by injection e with _ e _; exact absurd e (by decide))).trans hW.symm
          refine ⟨(keepsW_of hbb.size kk HI.out.fo.blk).from _, ⟨hbb, hbx⟩, ⟨?_, HI.out.kp.trans hbb, hbx.trans HI.out.box⟩⟩
          rw [accP_snoc, HXS.out]
          exact F6)
        clear F6 kk i5 b5 k5 i6 b6 k6 F5 HI
        gi_wp2
        exact HD.out
      case stop =>
        rintro D c pre W hD _ h0 hK
        exact h0.elim
      case done =>
        rintro D ys W hD hys hI hK
        have F7 : Hid (Fo w W (foldL ((bs.take (i + 1)).map fun b => b.data.toList)) (D :: Ds)) := Lib.hid (by
          have e : accP (foldL ((bs.take i).map fun b => b.data.toList)) ys = foldL ((bs.take (i + 1)).map fun b => b.data.toList) := by
            rw [HTK.out, ← pieL_fold, ← hys]
            unfold accP
            rw [List.flatMap_map]
          have := hI.fo
          rw [e] at this
          refine ⟨this.isB, this.bel, ⟨fun E hE => ?_, fun E hE => ?_, ?_⟩, this.sz⟩
          · rcases List.mem_cons.1 hE with rfl | hE
            · have := HX.out.2.1; omega
            · exact this.mks.ge E hE
          · rcases List.mem_cons.1 hE with rfl | hE
            · exact hK
            · exact this.mks.at_ E hE
          · exact List.nodup_cons.2 ⟨fun h => by have := HX.out.2.2 D h; omega, this.mks.nd⟩)
        clear hys hI hK F2
        go_wp2
        refine ⟨⟨i + 1, D :: Ds, .string s, u6, .bool true, .pointer (some ⟨b1, o1 + i, none⟩), .string s, .string s, .func (.func 63) #[] #[.pointer (some ⟨X, 0, none⟩)], u15, u16, u17, u18, .int .i64 ((i : Int) + 1), u20, ?_, by omega, F7⟩, ?_⟩
        · rw [show ((i + 1 : Nat) : Int) = (i : Int) + 1 by omega]; rfl
        · simp [intOf]; omega
    · obtain rfl : i = n := by omega
      have hall : bs.take i = bs := List.take_of_length_le (by have := HR.out.lenS; omega)
      rw [hall] at F1
      go_wp2_with fail
      refine (Tryd.Builder_String_any_k _ _ _ _ F1.out.isB (by have := F1.out.sz; omega)).mono ?_
      rintro e wz ⟨rfl, iz, hbz, kz⟩
      have FZ := Lib.hid (F1.out.write iz hbz kz)
      clear F1 iz hbz kz hall
      go_wp2
      exact leaves_marks (by simp) Ds _ FZ.out.mks (fun w' hw' => ⟨_, results_tmp rfl _ _ _, rfl, FZ.out.bel.trans (hw'.mono (by omega))⟩)
end Go.Proofs.YtipmeooldopkmaaDoor

/-
  Plain mathematics for layer 11: lines unfolded, as the program does it.
-/
namespace Go.Proofs.YtipmeooldopkmaaDoor
open Go.RowKit

def notLf (c : UInt8) : Bool := !decide (c = 10)
theorem tw_dropU {p : UInt8 → Bool} : ∀ l : List UInt8, l.drop (l.takeWhile p).length = l.dropWhile p
  | [] => rfl
  | x :: l => by
    by_cases hx : p x = true
    · rw [List.takeWhile_cons_of_pos hx, List.dropWhile_cons_of_pos hx]; simpa using tw_dropU l
    · rw [List.takeWhile_cons_of_neg hx, List.dropWhile_cons_of_neg hx]; rfl
theorem tw_takeU {p : UInt8 → Bool} : ∀ l : List UInt8, l.take (l.takeWhile p).length = l.takeWhile p
  | [] => rfl
  | x :: l => by
    by_cases hx : p x = true
    · rw [List.takeWhile_cons_of_pos hx]; simpa using tw_takeU l
    · rw [List.takeWhile_cons_of_neg hx]; rfl
/-- Lines as they stand. -/
def rawP : Nat → List UInt8 → List (List UInt8)
  | 0, _ => []
  | f + 1, l => if l = [] then [] else
      (if (l.takeWhile notLf).length < l.length then stripL (l.takeWhile notLf) else l.takeWhile notLf) :: rawP f (l.drop ((l.takeWhile notLf).length + 1))
theorem raw_all : ∀ (f : Nat) (l : List UInt8), l.length ≤ f → rawG l [] = rawP f l
  | 0, l, h => by
    have : l = [] := List.eq_nil_of_length_eq_zero (by omega)
    subst this; simp [rawG, rawP]
  | f + 1, l, h => by
    by_cases h0 : l = []
    · subst h0; simp [rawG, rawP]
    · rw [rawP, if_neg h0]
      have hsp := List.takeWhile_append_dropWhile (p := notLf) (l := l)
      have hno : ∀ c ∈ l.takeWhile notLf, c ≠ 10 := fun c hc e => by
        have : notLf c = true := by
          have := List.all_takeWhile (p := notLf) (l := l)
          exact List.all_eq_true.1 this c hc
        subst e; exact absurd this (by decide)
      have hdr : l.drop (l.takeWhile notLf).length = l.dropWhile notLf := tw_dropU l
      cases hd : l.dropWhile notLf with
      | nil =>
        rw [hd, List.append_nil] at hsp
        rw [if_neg (by rw [hsp]; omega), List.drop_eq_nil_of_le (by rw [hsp]; omega)]
        conv => lhs; rw [← hsp]
        have := raw_feed (l.takeWhile notLf) [] [] hno
        rw [List.append_nil, List.nil_append] at this
        rw [this, rawG, if_neg (by rw [hsp]; exact h0)]
        cases f <;> simp [rawP]
      | cons c t =>
        have hc : c = 10 := by
          have := List.head?_dropWhile_not notLf l
          rw [hd] at this
          unfold notLf at this
          simpa using this
        subst hc
        rw [hd] at hsp hdr
        have hlen : (l.takeWhile notLf).length + (t.length + 1) = l.length := by
          conv => rhs; rw [← hsp]
          simp
        rw [if_pos (by omega)]
        conv => lhs; rw [← hsp]
        rw [raw_feed _ _ _ hno, List.nil_append, rawG, if_pos rfl]
        have ht : l.drop ((l.takeWhile notLf).length + 1) = t := by rw [← List.drop_drop, hdr]; rfl
        rw [ht, raw_all f t (by omega)]
theorem trim_strip (a : List UInt8) : Lib.trimSuffix a [13] = stripL a := by
  unfold Lib.trimSuffix Lib.hasSuffix stripL
  by_cases h : a.getLast? = some 13
  · obtain ⟨b, rfl⟩ := List.getLast?_eq_some_iff.1 h
    rw [if_pos (by simp), if_pos (by simp)]
    simp
  · rw [if_neg h, if_neg]
    intro hs
    rw [List.isSuffixOf_iff_suffix] at hs
    obtain ⟨b, rfl⟩ := hs
    exact h (by simp)
theorem cut_lf : ∀ (l : List UInt8), Lib.index l [10] = (if (l.takeWhile notLf).length < l.length then ((l.takeWhile notLf).length : Int) else -1)
  | [] => by decide
  | b :: l => by
    have ih := cut_lf l
    unfold Lib.index
    by_cases hb : b = 10
    · subst hb
      rw [if_pos (by simp [List.isPrefixOf])]
      simp [notLf]
    · have h1 : ([10] : List UInt8).isPrefixOf (b :: l) = false := by simp [List.isPrefixOf]; exact fun e => hb e.symm
      rw [if_neg (by rw [h1]; decide), ih]
      have h2 : (b :: l).takeWhile notLf = b :: l.takeWhile notLf := List.takeWhile_cons_of_pos (by simp [notLf, hb])
      rw [h2]
      simp only [List.length_cons]
      generalize (l.takeWhile notLf).length = n
      generalize l.length = m
      by_cases h : n < m
      · have e1 : (if n < m then (n : Int) else -1) = n := if_pos h
        have e2 : (if n + 1 < m + 1 then ((n + 1 : Nat) : Int) else -1) = ((n + 1 : Nat) : Int) := if_pos (by omega)
        have e3 : ((n : Int) == -1) = false := by rw [beq_eq_false_iff_ne]; omega
        rw [e1, e2, e3]; simp
      · have e1 : (if n < m then (n : Int) else -1) = -1 := if_neg h
        have e2 : (if n + 1 < m + 1 then ((n + 1 : Nat) : Int) else -1) = -1 := if_neg (by omega)
        rw [e1, e2]; rfl
theorem cut_is (l : List UInt8) : (Lib.cut l [10]).1 = l.takeWhile notLf ∧ (Lib.cut l [10]).2.2 = decide ((l.takeWhile notLf).length < l.length) := by
  unfold Lib.cut
  rw [cut_lf]
  have hle : (l.takeWhile notLf).length ≤ l.length := (List.takeWhile_sublist _).length_le
  by_cases h : (l.takeWhile notLf).length < l.length
  · rw [if_pos h, if_pos (by omega)]
    refine ⟨?_, by simp [h]⟩
    have hsp := List.takeWhile_append_dropWhile (p := notLf) (l := l)
    show l.take ((((l.takeWhile notLf).length : Nat) : Int)).toNat = _
    rw [Int.toNat_natCast]
    exact tw_takeU l
  · rw [if_neg h, if_neg (by decide)]
    refine ⟨?_, by simp [h]⟩
    have hsp := List.takeWhile_append_dropWhile (p := notLf) (l := l)
    have : (l.dropWhile notLf) = [] := List.eq_nil_of_length_eq_zero (by
      have := congrArg List.length hsp
      rw [List.length_append] at this
      omega)
    rw [this, List.append_nil] at hsp
    exact hsp.symm
/-- Lines joined; none: the first one goes on with none. -/
def joinP : List (List UInt8) → List (List UInt8) → Option (List (List UInt8))
  | [], out => some out
  | x :: xs, out => if goesL x = false then joinP xs (out ++ [x]) else if out = [] then none else joinP xs (out.dropLast ++ [out.getLastD [] ++ x.drop 1])
def chkP : Nat → List (List UInt8) → Int
  | _, [] => 0
  | i, x :: xs => if x = [] then 10 else if i = 400 then 27 else if 1024 < x.length then 12 else chkP (i + 1) xs
/-- What Unfold tells, as the program does it. -/
def unfQ (s : List UInt8) : List (List UInt8) × Int :=
  if 8192 < s.length then ([], 12) else match joinP (rawG s []) [] with
  | none => ([], 10)
  | some l => if chkP 0 l = 0 then (l, 0) else ([], chkP 0 l)
theorem joinP_app : ∀ (a b out : List (List UInt8)), joinP (a ++ b) out = (match joinP a out with | none => none | some o => joinP b o)
  | [], b, out => rfl
  | x :: a, b, out => by
    rw [List.cons_append, joinP, joinP]
    split
    · exact joinP_app a b _
    · split
      · rfl
      · exact joinP_app a b _
theorem chkP_good : ∀ (l : List (List UInt8)) (i : Nat), (∀ x ∈ l, x ≠ [] ∧ x.length ≤ 1024) → i + l.length ≤ 400 → chkP i l = 0
  | [], _, _, _ => rfl
  | x :: l, i, h, hi => by
    have hx := h x (by simp)
    simp only [List.length_cons] at hi
    rw [chkP, if_neg hx.1, if_neg (by omega), if_neg (by omega)]
    exact chkP_good l (i + 1) (fun y hy => h y (by simp [hy])) (by omega)
theorem unf_join : ∀ (raws out ls : List (List UInt8)), unfG raws out = (ls, 0) → (∀ x ∈ out, x ≠ [] ∧ x.length ≤ 1024) → out.length ≤ 400 → joinP raws out = some ls ∧ chkP 0 ls = 0
  | [], out, ls, h, hg, hl => by
    rw [unfG] at h
    injection h with h1 h2
    subst h1
    exact ⟨rfl, chkP_good _ 0 hg (by omega)⟩
  | x :: xs, out, ls, h, hg, hl => by
    rw [unfG] at h
    rw [joinP]
    by_cases h1 : x = [] ∨ (goesL x = true ∧ out = [])
    · rw [if_pos h1] at h
      injection h with _ h2
      exact absurd h2 (by decide)
    · rw [if_neg h1] at h
      by_cases hgo : goesL x = true
      · rw [if_pos hgo] at h
        rw [if_neg (by rw [hgo]; decide)]
        have hne : out ≠ [] := fun e => h1 (.inr ⟨hgo, e⟩)
        rw [if_neg hne]
        by_cases h5 : 1024 < (out.getLastD [] ++ x.drop 1).length
        · rw [if_pos h5] at h
          injection h with _ h2
          exact absurd h2 (by decide)
        · rw [if_neg h5] at h
          refine unf_join xs _ ls h (fun y hy => ?_) (by simp; omega)
          rcases List.mem_append.1 hy with hy | hy
          · exact hg y ((List.dropLast_sublist out).subset hy)
          · obtain rfl : y = out.getLastD [] ++ x.drop 1 := by simpa using hy
            refine ⟨fun e => ?_, by omega⟩
            have hl := hg (out.getLast hne) (List.getLast_mem hne)
            rw [List.getLastD_eq_getLast?, List.getLast?_eq_some_getLast hne] at e
            simp at e
            exact hl.1 e.1
      · rw [if_neg hgo] at h
        rw [if_pos (by simpa using hgo)]
        by_cases h4 : out.length = 400
        · rw [if_pos h4] at h
          injection h with _ h2
          exact absurd h2 (by decide)
        · rw [if_neg h4] at h
          by_cases h5 : 1024 < x.length
          · rw [if_pos h5] at h
            injection h with _ h2
            exact absurd h2 (by decide)
          · rw [if_neg h5] at h
            refine unf_join xs _ ls h (fun y hy => ?_) (by simp; omega)
            rcases List.mem_append.1 hy with hy | hy
            · exact hg y hy
            · obtain rfl : y = x := by simpa using hy
              exact ⟨fun e => h1 (.inl e), by omega⟩
/-- Where the document tells lines, so does the program. -/
theorem unfQ_of {s : List UInt8} {ls : List (List UInt8)} (h : unfL s = (ls, 0)) : unfQ s = (ls, 0) := by
  unfold unfL at h
  unfold unfQ
  split at h
  · injection h with _ h2
    exact absurd h2 (by decide)
  · rename_i hs
    rw [if_neg hs]
    obtain ⟨h1, h2⟩ := unf_join _ [] ls h (fun x hx => by cases hx) (by simp)
    rw [h1]
    show (if chkP 0 ls = 0 then (ls, 0) else ([], chkP 0 ls)) = _
    rw [if_pos h2]
end Go.Proofs.YtipmeooldopkmaaDoor
