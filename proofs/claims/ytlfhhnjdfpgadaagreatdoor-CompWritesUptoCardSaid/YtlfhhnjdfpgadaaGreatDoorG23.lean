/-
  The program's functions of layer 11: a property as it is written, by a strings.Builder.
-/
import Derived.Test.YtlfhhnjdfpgadaaGreatDoorG19
import Derived.Test.YtlfhhnjdfpgadaaGreatDoorG08
import Derived.Lib.OthersKept
import Derived.RangeFuncNested
import Derived.RangeFuncBound
import Derived.RangeFuncCalls
import Derived.RangeFuncLeaves
import Derived.RangeFuncBox
import Derived.Shelf.Abstract
import Derived.Shelf.RegionOpen
import Derived.OwnWalkIn
import Derived.TacticsInMore
import Derived.RegionIn
import Derived.LoopNIn
import Derived.LoopIn
import Derived.Maps.AppendAt
import Derived.Test.YtlfhhnjdfpgadaaGreatDoorG17
import Derived.Test.YtlfhhnjdfpgadaaGreatDoorG06
import Derived.Test.YtlfhhnjdfpgadaaGreatDoorG13
namespace Go.Proofs.YtlfhhnjdfpgadaaGreatDoor
open Go.RowKit Go.Shelf

/-- A Builder at the block b holds l; its rows lie at B or behind. -/
abbrev IsBw (B b : Nat) (l : List UInt8) (W : World) : Prop := Lib.IsBuilderF 75 5 B b (Lib.byteCells l) W
theorem isBw_below {B b : Nat} {l : List UInt8} {W W' : World} (h : IsBw B b l W) (hbl : Below W.heap.size W W') : IsBw B b l W' := by
  have hk : ∀ (k : Nat) (o : Obj), W.heap[k]? = some o → W'.heap[k]? = some o := fun k _o hk => (hbl.block k (Array.getElem?_eq_some_iff.1 hk).1).trans hk
  have key : ∀ p, Lib.BuilderAtF 75 5 B b p (Lib.byteCells l) W → Lib.BuilderAtF 75 5 B b p (Lib.byteCells l) W' := by
    rintro p ⟨hB, v, hb, ho, hne⟩
    refine ⟨hB, v, hk _ _ hb, ⟨ho.1, ?_⟩, hne⟩
    rcases ho.2 with h0 | ⟨g, cap, cur, fz, e, h1, h2, h3⟩
    · exact .inl h0
    · exact .inr ⟨g, cap, cur, fz, e, h1, hk _ _ h2, h3⟩
  exact h.elim (fun x => .inl (key _ x)) (fun x => .inr (key _ x))
theorem isBw_new (w : World) : IsBw w.heap.size w.heap.size [] (w.alloc (.cells #[.pointer none, .slice none 0 0] 75)) := Lib.IsBuilderF.of (Lib.fresh_isBuilder 75 5 w)
theorem wrS {B b : Nat} {acc : List UInt8} {w : World} (s : ByteArray) (h : IsBw B b acc w) (hl : acc.length + s.size ≤ 140737488355328) (hB : B ≤ w.heap.size) :
    Calls Tryz.prog 48 #[.pointer (some ⟨b, 0, none⟩), .string s] w fun e w' => e = .returned (.tuple #[.int .i64 s.size, .nilIface]) ∧ IsBw B b (acc ++ s.data.toList) w' ∧ Below B w w' ∧ Lib.OthersKept 5 (some b) w w' :=
  (Tryz.Builder_WriteString_k B b _ s w h (by rw [Lib.byteCells_length]; exact hl) hB).mono fun e w' ⟨h1, h2, h3, h4⟩ => ⟨h1, by
    show Lib.IsBuilderF _ _ _ _ _ _
    rw [Lib.byteCells_append, ← Lib.strCells_eq]
    exact Or.inr h2, h3, h4⟩
/-- While a property is written: the Builder, the property's variable. -/
structure Wr (nm vl : ByteArray) (L : Option Addr) (n c : Nat) (w wr : World) (acc : List UInt8) : Prop where
  isB : IsBw (w.heap.size + 1) (w.heap.size + 1) acc wr
  px : P3 wr w.heap.size nm vl L n c
  bel : Below w.heap.size w wr
  sz : w.heap.size + 1 < wr.heap.size
section
variable {nm vl : ByteArray} {L : Option Addr} {n c : Nat} {w wr w' : World} {acc acc' : List UInt8}
theorem Wr.below (h : Wr nm vl L n c w wr acc) (hb : Below wr.heap.size wr w') : Wr nm vl L n c w w' acc :=
  ⟨isBw_below h.isB hb, h.px.step hb, bstep h.bel hb, by have := hb.size; have := h.sz; omega⟩
theorem Wr.write (h : Wr nm vl L n c w wr acc) (hI : IsBw (w.heap.size + 1) (w.heap.size + 1) acc' w') (hb : Below (w.heap.size + 1) wr w') (hk : Lib.OthersKept 5 (some (w.heap.size + 1)) wr w') : Wr nm vl L n c w w' acc' :=
  ⟨hI, hk _ _ h.px (by simp) (fun c fz e => by injection e with _ e _; exact absurd e (by decide)), h.bel.trans (hb.mono (by omega)), by have := hb.size; have := h.sz; omega⟩
theorem X2.kept {g b : Nat} {r : PR} (h : X2 wr g r) (hk : Lib.OthersKept 5 (some b) wr w') (hne : g ≠ b) : X2 w' g r := hk _ _ h (by simpa using hne) (fun c fz e => by injection e with _ e _; exact absurd e (by decide))
end
/-- What stands behind a parameter's name, with the first k values. -/
def midK (r : PR) (k : Nat) : List UInt8 := if k = 0 then [] else 61 :: valsK r k
def btwK (k : Nat) : List UInt8 := if k = 0 then [61] else [44]
theorem midK_step {r : PR} {k : Nat} {v : ByteArray} (h : r.vs[k]? = some v) : midK r (k + 1) = midK r k ++ (btwK k ++ quoteL v.data.toList) := by
  unfold midK btwK
  rw [if_neg (by omega), valsK_step h]
  by_cases h0 : k = 0
  · rw [if_pos h0, if_pos h0, if_pos h0, h0, valsK_zero]; rfl
  · rw [if_neg h0, if_neg h0, if_neg h0]; rfl
theorem midK_len (r : PR) (k : Nat) : (midK r k).length ≤ 3 * vsize r.vs + 1 := by
  unfold midK
  have := valsK_len r k
  split
  · simp
  · simp; omega

set_option maxRecDepth 100000 in
set_option maxHeartbeats 8000000 in
theorem written_any (nm vl : ByteArray) (L : Option Addr) (n c : Nat) (l : List PR) (w : World) (hR : Reads w w.heap.size 2 L n (encP l)) (hP : ∀ r ∈ l, POk w w.heap.size r) (hn : n ≤ c) (hc : c ≤ maxLen) (hsz : nm.size + psizes l + vl.size ≤ 1048576) (hne : ∀ r ∈ l, r.vs ≠ []) :
    Calls Tryz.prog 90 #[.agg #[.string nm, .slice L n c, .string vl]] w fun e w' => e = .returned (.string ⟨(textL (proOf nm l vl)).toArray⟩) ∧ Below w.heap.size w w' := by
  have HR := Lib.hid hR
  have HP := Lib.hid hP
  have HNE := Lib.hid hne
  have hnm : n ≤ 9223372036854775807 := by have := hc; unfold maxLen at this; omega
  have HL : Hid (l.length = n) := Lib.hid (by have := hR.1; rw [encP_length] at this; omega)
  have HPL : Hid (∀ i, (preL nm l i).length ≤ 5242880) := Lib.hid fun i => by have := preL_len nm l i; omega
  have HPS : Hid (∀ r, r ∈ l → (∀ k, (midK r k).length ≤ 3145729) ∧ r.name.size ≤ 1048576 ∧ ∀ v ∈ r.vs, v.size ≤ 1048576) := Lib.hid fun r hr => by
    have h1 := psize_le hr
    unfold psize at h1
    refine ⟨fun k => by have := midK_len r k; omega, by omega, fun v hv => ?_⟩
    have : v.size + 1 ≤ vsize r.vs := vsize_le hv
    omega
  have hvl : vl.size ≤ 1048576 := by omega
  have hnl : nm.size ≤ 1048576 := by omega
  have hb1 : Below w.heap.size w (w.alloc (.cells #[.string nm, .slice L n c, .string vl] 30)) := (Below.refl _ w).alloc (Nat.le_refl _) _
  have hI0 := isBw_new (w.alloc (.cells #[.string nm, .slice L n c, .string vl] 30))
  rw [World.size_alloc] at hI0
  have hb2 := (Below.refl _ (w.alloc (.cells #[.string nm, .slice L n c, .string vl] 30))).alloc (Nat.le_refl _) (.cells #[.pointer none, .slice none 0 0] 75)
  have W0 : Hid (Wr nm vl L n c w ((w.alloc (.cells #[.string nm, .slice L n c, .string vl] 30)).alloc (.cells #[.pointer none, .slice none 0 0] 75)) []) := Lib.hid ⟨hI0, (P3.new w nm vl L n c).step hb2, bstep hb1 hb2, by simp⟩
  clear hR hP hn hc hsz hne hb1 hb2 hI0
  go_enter Tryz.func90, Tryz.ntmps90
  go_wp2_with fail
  refine (wrS nm W0.out.isB (by simp; omega) (by have := W0.out.sz; omega)).mono ?_
  rintro e w2 ⟨rfl, hI, hb, hk⟩
  have W1 := Lib.hid (W0.out.write hI hb hk)
  rw [List.nil_append] at W1
  clear W0 hI hb hk
  obtain ⟨x0, x1, x2⟩ := W1.out.px.cells
  go_wp2
  clear x0 x1 x2
  go_loopg [15] n (fun g s4 wr => ∃ i : Nat, s4 = .int .i64 i ∧ i ≤ n ∧ n - i ≤ g ∧ Hid (Wr nm vl L n c w wr (preL nm l i)))
  case atStart => exact ⟨0, rfl, Nat.zero_le _, by omega, Lib.hid (by rw [preL_zero]; exact W1.out)⟩
  case round =>
    clear W1
    obtain ⟨i, rfl, hi, hg, W2⟩ := hrel
    by_cases hlt : i < n
    · obtain ⟨r, hr⟩ : ∃ r, l[i]? = some r := ⟨l[i]'(by have := HL.out; omega), List.getElem?_eq_getElem (by have := HL.out; omega)⟩
      obtain ⟨b, o, rfl, _, q0, q1⟩ := (HR.out.step W2.out.bel).par hr
      have hmem := List.mem_of_getElem? hr
      have HPO := Lib.hid ((HP.out r hmem).step W2.out.bel)
      obtain ⟨hvk, hrn, hvv⟩ := HPS.out r hmem
      have HVK := Lib.hid hvk
      have HVV := Lib.hid hvv
      have HST := Lib.hid (preL_step (nm := nm) hr)
      have HKL := Lib.hid HPO.out.len
      have hkm : r.k ≤ 9223372036854775807 := by have := HPO.out.le; have := HPO.out.cap; unfold maxLen at this; omega
      have HK0 : Hid (r.k ≠ 0) := Lib.hid (by
        intro h0
        have := HNE.out r hmem
        exact this (List.eq_nil_of_length_eq_zero (by rw [HKL.out]; exact h0)))
      have hs0 := HPL.out i
      have hba : Below wr.heap.size wr (wr.alloc (.cells #[.string r.name, .slice r.K r.k r.kc] 56)) := (Below.refl _ wr).alloc (Nat.le_refl _) _
      have W3 := Lib.hid (W2.out.below hba)
      have HX3 := Lib.hid (X2.new wr r)
      have HPO3 := Lib.hid (HPO.out.step hba)
      have HXN : Hid (wr.heap.size ≠ w.heap.size + 1) := Lib.hid (by have := W2.out.sz; omega)
      have HM := Lib.hid hmem
      clear hr hmem hvk hvv hba HPO W2
      have no1 : ¬ 9223372036854775807 < (⟨#[59]⟩ : ByteArray).size + r.name.size := by rw [show (⟨#[59]⟩ : ByteArray).size = 1 from rfl]; omega
      go_wp2_with fail
      refine (wrS ((⟨#[59]⟩ : ByteArray) ++ r.name) W3.out.isB (by rw [ByteArray.size_append, show (⟨#[59]⟩ : ByteArray).size = 1 from rfl]; omega) (by have := W3.out.sz; omega)).mono ?_
      rintro e w4 ⟨rfl, hI, hb, hk⟩
      have W4 := W3.out.write hI hb hk
      rw [show ((⟨#[59]⟩ : ByteArray) ++ r.name).data.toList = 59 :: r.name.data.toList from by simp] at W4
      have HX4 := Lib.hid (HX3.out.kept hk HXN.out)
      have W5 := Lib.hid W4
      generalize hpx : wr.heap.size = X at *
      clear W3 W4 HX3 hI hb hk no1 q0 q1 hpx
      obtain ⟨z0, z1⟩ := HX4.out.cells
      obtain ⟨rK, hrK⟩ : ∃ rK, r.K = rK := ⟨_, rfl⟩
      rw [hrK] at z1
      have HRK := Lib.hid hrK
      clear hrK
      go_wp2
      clear z0 z1
      go_loopg [6, 26] r.k (fun g2 s6 s5 wr2 => ∃ (k : Nat) (bt : ByteArray), s6 = .string bt ∧ s5 = .int .i64 k ∧ k ≤ r.k ∧ r.k - k ≤ g2 ∧ bt.size = 1 ∧ Hid (bt.data.toList = btwK k) ∧ Hid (Wr nm vl (some ⟨b, o, none⟩) n c w wr2 (preL nm l i ++ (59 :: r.name.data.toList ++ midK r k))))
      case atStart => exact ⟨0, ⟨#[61]⟩, rfl, rfl, Nat.zero_le _, by omega, rfl, Lib.hid rfl, Lib.hid (by simpa [midK] using W5.out)⟩
      case round =>
        clear W5
        obtain ⟨k, bt, rfl, rfl, hk, hg2, hbs, HBT, W6⟩ := hrel
        by_cases hlt2 : k < r.k
        · obtain ⟨v, hv⟩ : ∃ v, r.vs[k]? = some v := ⟨r.vs[k]'(by have := HKL.out; omega), List.getElem?_eq_getElem (by have := HKL.out; omega)⟩
          obtain ⟨b2, o2, hKe, q2⟩ := ((HP.out r HM.out).step W6.out.bel).at hv
          have hvs := HVV.out v (List.mem_of_getElem? hv)
          have HSP := Lib.hid (midK_step hv)
          have cq := fun W => quoted_any v (by omega) W
          have hql := quoteL_len v.data.toList
          rw [← bsize] at hql
          have hmk := HVK.out k
          have hs0 := HPL.out i
          have HAC : Hid ((preL nm l i ++ (59 :: r.name.data.toList ++ midK r k)).length ≤ 10000000) := Lib.hid (by
            have := bsize r.name
            simp only [List.length_append, List.length_cons]
            omega)
          have HQ := Lib.hid (show (⟨(quoteL v.data.toList).toArray⟩ : ByteArray).data.toList = quoteL v.data.toList from rfl)
          have hqs : (⟨(quoteL v.data.toList).toArray⟩ : ByteArray).size ≤ 1048578 := by rw [mk_sizeL]; omega
          generalize (⟨(quoteL v.data.toList).toArray⟩ : ByteArray) = Q at *
          have no1 : ¬ 9223372036854775807 < bt.size + Q.size := by omega
          have hK2 := HRK.out.symm.trans hKe
          subst hK2
          clear hv hKe hmk hql hvs hs0
          go_wp2_with fail
          refine (cq _).mono ?_
          rintro e w7 ⟨rfl, hb7⟩
          have W7 := Lib.hid (W6.out.below hb7)
          clear W6 hb7 q2 cq
          go_wp2_with fail
          refine (wrS (bt ++ Q) W7.out.isB (by rw [ByteArray.size_append]; have := HAC.out; omega) (by have := W7.out.sz; omega)).mono ?_
          rintro e w8 ⟨rfl, hI, hb, hk8⟩
          have W8 := W7.out.write hI hb hk8
          rw [show preL nm l i ++ (59 :: r.name.data.toList ++ midK r k) ++ (bt ++ Q).data.toList = preL nm l i ++ (59 :: r.name.data.toList ++ midK r (k + 1)) from by
            rw [HSP.out, ← HBT.out, ← HQ.out]; simp] at W8
          have W9 := Lib.hid W8
          clear W7 W8 hI hb hk8 no1
          go_wp2
          go_roundg (r.k - (k + 1))
          case measure => omega
          case rel => exact ⟨k + 1, ⟨#[44]⟩, rfl, by go_num, by omega, by omega, rfl, Lib.hid (by unfold btwK; rw [if_neg (by omega)]), W9⟩
        · obtain rfl : k = r.k := by omega
          have W7 := Lib.hid (show Wr nm vl (some ⟨b, o, none⟩) n c w _ (preL nm l (i + 1)) by
            rw [HST.out]
            have e : midK r r.k = 61 :: valsL (parOf r).vals := by
              unfold midK
              rw [if_neg HK0.out, valsK_all (by rw [HKL.out]; exact Nat.le_refl _)]
            have := W6.out
            rw [e] at this
            simpa using this)
          clear W6
          go_wp2
          go_roundg (n - (i + 1))
          case measure => omega
          case rel => exact ⟨i + 1, by go_num, by omega, by omega, W7⟩
    · obtain rfl : i = n := by omega
      have no1 : ¬ 9223372036854775807 < (⟨#[58]⟩ : ByteArray).size + vl.size := by rw [show (⟨#[58]⟩ : ByteArray).size = 1 from rfl]; omega
      obtain ⟨x0, x1, x2⟩ := W2.out.px.cells
      have hpl := HPL.out i
      go_wp2_with fail
      refine (wrS ((⟨#[58]⟩ : ByteArray) ++ vl) W2.out.isB (by rw [ByteArray.size_append, show (⟨#[58]⟩ : ByteArray).size = 1 from rfl]; omega) (by have := W2.out.sz; omega)).mono ?_
      rintro e w8 ⟨rfl, hI, hb, hk8⟩
      have W8 := W2.out.write hI hb hk8
      rw [show preL nm l i ++ ((⟨#[58]⟩ : ByteArray) ++ vl).data.toList = textL (proOf nm l vl) from by
        rw [← preL_all (by rw [HL.out]; exact Nat.le_refl _)]; simp] at W8
      have W9 := Lib.hid W8
      clear W2 W8 hI hb hk8 no1 x0 x1 x2
      go_wp2_with fail
      refine (Tryz.Builder_String_any_k _ _ _ _ W9.out.isB (by have := W9.out.sz; omega)).mono ?_
      rintro e wz ⟨rfl, _, hbz, _⟩
      have HBZ := Lib.hid (W9.out.bel.trans (hbz.mono (by omega)))
      clear W9 hbz
      go_wp2
      go_ret
      exact ⟨rfl, HBZ.out⟩
end Go.Proofs.YtlfhhnjdfpgadaaGreatDoor

/-
  The program's iterator over the pieces of a line.
-/
namespace Go.Proofs.YtlfhhnjdfpgadaaGreatDoor
open Go.RowKit Go.Shelf
attribute [local go_sem] Oper.semAt_some

/-- What is handed out: a piece with what stands ahead of it. -/
abbrev Piece := { x : ByteArray // x.size ≤ 100 }
abbrev encsP (x : Piece) : Array Value := #[.string x.1]
theorem pieF_end {f : Nat} {l ah : List UInt8} (hl : l.length ≤ f) (hc : cutL l (75 - ah.length) = l.length) : pieF f l ah = [ah ++ l] := by
  cases f with
  | zero => rfl
  | succ f => rw [pieF, if_pos hc]
theorem pieF_on {f : Nat} {l ah : List UInt8} (hl : l.length ≤ f) (hc : cutL l (75 - ah.length) ≠ l.length) (ha : ah.length ≤ 1) : ∃ f', (l.drop (cutL l (75 - ah.length))).length ≤ f' ∧ pieF f l ah = (ah ++ l.take (cutL l (75 - ah.length))) :: pieF f' (l.drop (cutL l (75 - ah.length))) [32] := by
  have hb : 75 - ah.length < l.length := by
    rcases Nat.lt_or_ge (75 - ah.length) l.length with h | h
    · exact h
    · exact absurd (cut_small h) hc
  obtain ⟨a1, a2, a3, a4⟩ := cut_big (l := l) (most := 75 - ah.length) (by omega) (by omega) hb
  cases f with
  | zero => omega
  | succ f => exact ⟨f, by rw [List.length_drop]; omega, by rw [pieF, if_neg hc]⟩
theorem cut_le (l : List UInt8) (most : Nat) (h1 : 4 ≤ most) (h2 : most ≤ 75) : cutL l most ≤ l.length ∧ cutL l most ≤ 75 := by
  by_cases h : l.length ≤ most
  · rw [cut_small h]; omega
  · have := cut_big (l := l) h1 h2 (by omega); omega
theorem pieF_len : ∀ (f : Nat) (l ah : List UInt8), l.length ≤ f → ah.length ≤ 1 → (pieF f l ah).length ≤ l.length + 1 ∧ ∀ x ∈ pieF f l ah, x.length ≤ 76
  | 0, l, ah, h1, h2 => by
    have : l = [] := List.eq_nil_of_length_eq_zero (by omega)
    subst this
    exact ⟨by simp [pieF], fun x hx => by simp [pieF] at hx; subst hx; omega⟩
  | f + 1, l, ah, h1, h2 => by
    rw [pieF]
    by_cases h : l.length ≤ 75 - ah.length
    · rw [if_pos (cut_small h)]
      exact ⟨by simp, fun x hx => by simp at hx; subst hx; simp; omega⟩
    · obtain ⟨a1, a2, a3, a4⟩ := cut_big (l := l) (most := 75 - ah.length) (by omega) (by omega) (by omega)
      rw [if_neg (by omega)]
      have ih := pieF_len f (l.drop (cutL l (75 - ah.length))) [32] (by simp; omega) (by simp)
      rw [List.length_drop] at ih
      refine ⟨by rw [List.length_cons]; omega, fun x hx => ?_⟩
      rcases List.mem_cons.1 hx with rfl | hx
      · simp; omega
      · exact ih.2 x hx
/-- What a round keeps: what lay below n₀, and the box of the line. -/
structure KpL (n₀ By : Nat) (A B : World) : Prop where
  below : Below n₀ A B
  box : B.heap[By]? = A.heap[By]?
theorem KpL.trans {n₀ By : Nat} {A B C : World} (h : KpL n₀ By A B) (k : KpL n₀ By B C) : KpL n₀ By A C := ⟨h.below.trans k.below, k.box.trans h.box⟩
theorem belowL_put {n₀ z l : Nat} (hn : n₀ ≤ z) (hl : z ≤ l) (W : World) (o o' : Obj) (ho : W.heap[l]? = some o) (_hc : o.isCells = false) : Below n₀ W (W.putObj l o') :=
  (Below.refl n₀ W).grown (grownBy_putObj' W l o') (by have := (Array.getElem?_eq_some_iff.1 ho).1; omega) fun j ej => by cases ej; omega
theorem kpL_put {n₀ By z : Nat} (hn : n₀ ≤ z) (hs : By < z) (W : World) (l : Nat) (o o' : Obj) (hl : z ≤ l) (ho : W.heap[l]? = some o) (hc : o.isCells = false) (_hw : o.isWalk = false) : KpL n₀ By W (W.putObj l o') :=
  ⟨(Below.refl n₀ W).trans (belowL_put hn hl W o o' ho hc), World.putObj_heap_other (by omega)⟩
theorem grown_below {W W' : World} (h : Below W.heap.size W W') : W.grownBy W' none := ⟨h.os, h.tape, h.output, h.size, fun k hk _ => h.block k hk⟩

set_option maxRecDepth 100000 in
set_option maxHeartbeats 4000000 in
theorem pie1_in {Wb : World} (n : Nat) (hn : 1 ≤ n) (l By n₀ : Nat) (s : ByteArray) (hs : s.size ≤ 1048576) (J Jx : List Piece → World → Prop) (hJ : AbidesFrom Wb.heap.size J)
    (hY : ∀ (pre : List Piece) (i : Piece) (W : World), J pre W → pre.length < (pieL s.data.toList).length → YieldAt Fence.wide (n - 1) Tryz.prog l (encsP i) W fun e W' =>
      (e = .returned (.bool true) ∧ J (pre ++ [i]) W' ∧ KpL n₀ By W W') ∨ (e = .returned (.bool false) ∧ Jx (pre ++ [i]) W'))
    (hBy : Wb.cell? ⟨By, 0, none⟩ = some (.string s)) (hlt : By < Wb.heap.size) (h0 : J [] Wb) :
    CallsIn Fence.wide n Tryz.prog 68 #[.func (.yield l) #[] #[], .pointer (some ⟨By, 0, none⟩)] Wb fun e W' => (∃ v, e = .returned v) ∧
      ((∃ ys : List Piece, (ys.map fun x => x.1.data.toList) = pieL s.data.toList ∧ J ys W') ∨ (∃ pre : List Piece, True ∧ Jx pre W')) := by
  refine callsIn_of_wp Tryz.func68 rfl trivial ?_ rfl
  simp only [Tryz.ntmps68, List.size_toArray, List.length_cons, List.length_nil, Nat.reduceAdd, Nat.reduceSub, Array.replicate_succ, Array.replicate_zero, List.push_toArray, List.append_toArray, List.nil_append, List.cons_append]
  have hlen := Lib.hid (bsize s)
  gi_wp2
  gi_loopw [3, 4] (fun a p wr => ∃ (ah : ByteArray) (k f : Nat) (pre : List Piece), a = .string ah ∧ p = .int .i64 k ∧ ah.size ≤ 1 ∧ k ≤ s.size ∧ J pre wr ∧ wr.cell? ⟨By, 0, none⟩ = some (.string s) ∧ By < wr.heap.size ∧ s.size ≤ k + f ∧
    Hid ((pre.map fun x => x.1.data.toList) ++ pieF f (s.data.toList.drop k) ah.data.toList = pieL s.data.toList)) (fun _ p _ => s.size - (intOf p).toNat)
  case atStart => exact ⟨⟨#[]⟩, 0, s.size, [], rfl, rfl, by decide, Nat.zero_le _, h0, hBy, hlt, by omega, Lib.hid (by show [] ++ pieF s.size (s.data.toList.drop 0) [] = _; rw [List.drop_zero, hlen.out]; rfl)⟩
  case round =>
    obtain ⟨ah, k, f, pre, rfl, rfl, ha, hk, hJ1, hc, hBl, hf, HP⟩ := hrel
    have hm : (75 : Int) - (ah.size : Int) = ((75 - ah.size : Nat) : Int) := by omega
    have hxd : (s.extract k s.size).data.toList = s.data.toList.drop k := by
      rw [ByteArray.data_extract]
      simp [List.take_of_length_le]
    have hxs : (s.extract k s.size).size = s.size - k := by rw [bsize, hxd, List.length_drop, ← hlen.out]
    have ct := fun W => firstCut_any (s.extract k s.size) (by omega) (75 - ah.size) (by omega) W
    rw [hxd] at ct
    have hcl := cut_le (s.data.toList.drop k) (75 - ah.size) (by omega) (by omega)
    rw [List.length_drop, ← hlen.out] at hcl
    obtain ⟨K, hK⟩ : ∃ K, K = cutL (s.data.toList.drop k) (75 - ah.size) := ⟨_, rfl⟩
    rw [← hK] at ct hcl
    have HK := Lib.hid hK
    have hki : (k : Int) ≤ (s.size : Int) := by omega
    clear hK hxd hxs
    gi_wp2_with fail
    refine ⟨trivial, (callsIn_wide.2 (ct _)).mono ?_⟩
    rintro e w5 ⟨rfl, hb5⟩
    have J5 := hJ pre wr w5 none hJ1 (grown_below hb5) (fun r e => by cases e)
    have hc5 := (hb5.cell (p := ⟨By, 0, none⟩) hBl).trans hc
    have hB5 : By < w5.heap.size := Nat.lt_of_lt_of_le hBl hb5.size
    have hxd : (s.extract k (k + K)).data.toList = (s.data.toList.drop k).take K := by
      rw [ByteArray.data_extract]
      simp []
    have hxs : (s.extract k (k + K)).size = K := by rw [bsize, hxd, List.length_take, List.length_drop, ← hlen.out]; omega
    have hx100 : (ah ++ s.extract k (k + K)).size ≤ 100 := by rw [ByteArray.size_append, hxs]; omega
    have hals : ah.data.toList.length = ah.size := (bsize ah).symm
    have hlN : pre.length < (pieL s.data.toList).length := by
      have := congrArg List.length HP.out
      rw [List.length_append, List.length_map] at this
      have h2 : 0 < (pieF f (s.data.toList.drop k) ah.data.toList).length := by
        cases f <;> simp only [pieF] <;> (try split) <;> simp
      omega
    obtain ⟨fn, tmps, assign, body, hy, hR⟩ := hY pre ⟨ah ++ s.extract k (k + K), hx100⟩ w5 J5 hlN
    dsimp only [encsP] at hy
    have HR := Lib.hid hR
    have HXD := Lib.hid (show (ah ++ s.extract k (k + K)).data.toList = ah.data.toList ++ (s.data.toList.drop k).take K by rw [← hxd]; simp)
    have no1 : ¬ 9223372036854775807 < ah.size + (s.extract k (k + K)).size := by rw [hxs]; omega
    have hkK : k + K ≤ s.size := by omega
    obtain ⟨X, hX⟩ : ∃ X : Piece, (⟨ah ++ s.extract k (k + K), hx100⟩ : Piece) = X := ⟨_, rfl⟩
    rw [hX] at HR
    have HXV := Lib.hid (show X.1 = ah ++ s.extract k (k + K) by rw [← hX])
    clear hR J5 hJ1 hb5 ct hm hc hBl hxs hxd hlN hX
    by_cases hq : k + K = s.size
    · have HF := Lib.hid (pieF_end (f := f) (l := s.data.toList.drop k) (ah := ah.data.toList) (by rw [List.length_drop, ← hlen.out]; omega) (by rw [hals, ← HK.out, List.length_drop, ← hlen.out]; omega))
      have qb : (((k : Int) + (K : Int)) == (s.size : Int)) = true := by rw [beq_iff_eq]; omega
      have HQ := Lib.hid hq
      clear hq
      gi_wp2
      refine HR.out.mono ?_
      rintro e W3 (⟨rfl, hJ3, hk3⟩ | ⟨rfl, hJx3⟩)
      · have hc3 := (World.cell?_of_block (a := ⟨By, 0, none⟩) hk3.box).trans hc5
        have HJ := Lib.hid hJ3
        clear hJ3 hk3 hc5
        gi_wp2
        refine bodyPost_ret (results_none rfl _ _ _) rfl ?_
        refine ⟨⟨_, rfl⟩, .inl ⟨pre ++ [X], ?_, HJ.out⟩⟩
        rw [List.map_append, List.map_cons, List.map_nil, HXV.out, HXD.out, List.take_of_length_le (by rw [List.length_drop, ← hlen.out]; have := HQ.out; omega), ← HP.out, HF.out]
      · clear hc5
        gi_wp2
        refine bodyPost_ret (results_none rfl _ _ _) rfl ?_
        exact ⟨⟨_, rfl⟩, .inr ⟨_, trivial, hJx3⟩⟩
    · obtain ⟨f', hf', hF⟩ := pieF_on (f := f) (l := s.data.toList.drop k) (ah := ah.data.toList) (by rw [List.length_drop, ← hlen.out]; omega) (by rw [hals, ← HK.out, List.length_drop, ← hlen.out]; omega) (by omega)
      have hK0 : 0 < K := by
        have := (cut_big (l := s.data.toList.drop k) (most := 75 - ah.size) (by omega) (by omega) (by
          rcases Nat.lt_or_ge (75 - ah.size) (s.data.toList.drop k).length with h | h
          · exact h
          · have := cut_small h
            rw [← HK.out, List.length_drop, ← hlen.out] at this
            omega)).1
        rw [← HK.out] at this
        exact this
      rw [hals, ← HK.out] at hf' hF
      rw [List.drop_drop] at hf' hF
      have HF := Lib.hid hF
      have hf2 : s.size ≤ k + K + f' := by rw [List.length_drop, ← hlen.out] at hf'; omega
      have qb : (((k : Int) + (K : Int)) == (s.size : Int)) = false := by rw [beq_eq_false_iff_ne]; omega
      clear hq hF hf'
      gi_wp2
      refine HR.out.mono ?_
      rintro e W3 (⟨rfl, hJ3, hk3⟩ | ⟨rfl, hJx3⟩)
      · have hc3 := (World.cell?_of_block (a := ⟨By, 0, none⟩) hk3.box).trans hc5
        have hB3 : By < W3.heap.size := Nat.lt_of_lt_of_le hB5 hk3.below.size
        have HJ := Lib.hid hJ3
        clear hJ3 hk3 hc5
        gi_wp2
        go_roundw
        case rel =>
          refine ⟨⟨#[32]⟩, k + K, f', pre ++ [X], rfl, by go_num, by decide, hkK, HJ.out, hc3, hB3, hf2, Lib.hid ?_⟩
          rw [List.map_append, List.map_cons, List.map_nil, HXV.out, HXD.out, ← HP.out, HF.out]
          simp
        case measure => simp [intOf]; omega
      · clear hc5
        gi_wp2
        refine bodyPost_ret (results_none rfl _ _ _) rfl ?_
        exact ⟨⟨_, rfl⟩, .inr ⟨_, trivial, hJx3⟩⟩
set_option maxHeartbeats 1000000 in
theorem pieFn_in (n : Nat) (s : ByteArray) (w : World) :
    CallsIn Fence.wide n Tryz.prog 47 #[.string s] w fun e w' => e = .returned (.func (.func 68) #[] #[.pointer (some ⟨w.heap.size, 0, none⟩)]) ∧ w' = w.alloc (.cells #[.string s] 9) := by
  refine callsIn_of_wp Tryz.func47 rfl trivial ?_ rfl
  simp only [Tryz.ntmps47, List.size_toArray, List.length_cons, List.length_nil, Nat.reduceAdd, Nat.reduceSub, Array.replicate_succ, Array.replicate_zero, List.push_toArray, List.append_toArray, List.nil_append, List.cons_append]
  gi_wp2
  go_ret
  exact ⟨rfl, rfl⟩
theorem pie_stops (n : Nat) (hn : 1 ≤ n) (By n₀ : Nat) (s : ByteArray) (hs : s.size ≤ 1048576) (w : World) (hlt : By < w.heap.size) (hBy : w.cell? ⟨By, 0, none⟩ = some (.string s)) :
    SeqStopsK Fence.wide n Tryz.prog 68 #[.pointer (some ⟨By, 0, none⟩)] encsP (KpL n₀ By) (fun ys => (ys.map fun x => x.1.data.toList) = pieL s.data.toList) (fun _ => True) (pieL s.data.toList).length w := fun l J Jx _W hW hJ _ hY h0 =>
  pie1_in n hn l By n₀ s hs J Jx hJ hY ((hW.cell (p := ⟨By, 0, none⟩) hlt).trans hBy) (Nat.lt_of_lt_of_le hlt hW.size) h0
end Go.Proofs.YtlfhhnjdfpgadaaGreatDoor

/-
  The program's functions of layer 11: a parameter's first value.
-/
namespace Go.Proofs.YtlfhhnjdfpgadaaGreatDoor
open Go.RowKit

set_option maxHeartbeats 1000000 in
theorem cloneT_any (s : ByteArray) (hs : s.size ≤ 16777216) (w : World) :
    Calls Tryz.prog 75 #[.string s] w fun e w' => e = .returned (.string s) ∧ Below w.heap.size w w' := by
  have c := Tryz.stringslite_Clone s w (by omega)
  go_enter Tryz.func75, Tryz.ntmps75
  go_wp2_with fail
  refine c.mono ?_
  rintro e w' ⟨rfl, hb⟩
  go_wp2
  go_ret
  exact ⟨rfl, hb⟩
/-- What is found of a name. -/
def FoundP (l : List PR) (name : ByteArray) (z : Int) : Prop :=
  (z < 0 ∧ prmV l name = (⟨#[]⟩, false)) ∨ ∃ (i : Nat) (r : PR), z = i ∧ l[i]? = some r ∧ prmV l name = (match r.vs with | [] => (⟨#[]⟩, false) | v :: _ => (v, true))
end Go.Proofs.YtlfhhnjdfpgadaaGreatDoor

/-
  The program's iterator over the lines of a text.
-/
namespace Go.Proofs.YtlfhhnjdfpgadaaGreatDoor
open Go.RowKit Go.Shelf
attribute [local go_sem] Oper.semAt_some

/-- The library's own variable is there. -/
def MaxLn (w : World) : Prop := ∃ m, w.cell? ⟨1, 0, none⟩ = some (.int .i64 m)
theorem MaxLn.lt {w : World} (h : MaxLn w) : 1 < w.heap.size := by
  obtain ⟨m, hm⟩ := h
  by_cases h : 1 < w.heap.size
  · exact h
  · simp [World.cell?, Array.getElem?_eq_none (Nat.le_of_not_lt h)] at hm
theorem MaxLn.step {w w' : World} (h : MaxLn w) (hb : Below w.heap.size w w') : MaxLn w' := by
  have hl := h.lt
  obtain ⟨m, hm⟩ := h
  exact ⟨m, (hb.cell (p := ⟨1, 0, none⟩) hl).trans hm⟩
/-- What is handed out: a line as it stands. -/
abbrev Lin := { x : ByteArray // x.size ≤ 8192 }
abbrev encsL (x : Lin) : Array Value := #[.string x.1]
theorem strip_len (a : List UInt8) : (stripL a).length ≤ a.length := by unfold stripL; split <;> simp
theorem rawP_nil (f : Nat) : rawP f [] = [] := by cases f <;> simp [rawP]
theorem rawP_len : ∀ (f : Nat) (l : List UInt8), (rawP f l).length ≤ l.length
  | 0, l => by simp [rawP]
  | f + 1, l => by
    rw [rawP]
    by_cases h : l = []
    · rw [if_pos h]; simp
    · rw [if_neg h]
      have := rawP_len f (l.drop ((l.takeWhile notLf).length + 1))
      have h0 : 0 < l.length := List.length_pos_iff.2 h
      rw [List.length_drop] at this
      rw [List.length_cons]; omega
theorem tw_len {p : UInt8 → Bool} (l : List UInt8) : (l.takeWhile p).length ≤ l.length := (List.takeWhile_sublist _).length_le

set_option maxRecDepth 100000 in
set_option maxHeartbeats 4000000 in
theorem lin1_in {Wb : World} (n : Nat) (hn : 1 ≤ n) (l By n₀ : Nat) (s : ByteArray) (hs : s.size ≤ 8192) (J Jx : List Lin → World → Prop) (hJ : AbidesFrom Wb.heap.size J)
    (hY : ∀ (pre : List Lin) (i : Lin) (W : World), J pre W → pre.length < 8193 → YieldAt Fence.wide (n - 1) Tryz.prog l (encsL i) W fun e W' =>
      (e = .returned (.bool true) ∧ J (pre ++ [i]) W' ∧ KpL n₀ By W W') ∨ (e = .returned (.bool false) ∧ Jx (pre ++ [i]) W'))
    (hBy : Wb.cell? ⟨By, 0, none⟩ = some (.string s)) (hlt : By < Wb.heap.size) (hm : 1 < n₀) (hn₀ : n₀ ≤ Wb.heap.size) (hM : MaxLn Wb) (h0 : J [] Wb) :
    CallsIn Fence.wide n Tryz.prog 72 #[.func (.yield l) #[] #[], .pointer (some ⟨By, 0, none⟩)] Wb fun e W' => (∃ v, e = .returned v) ∧
      ((∃ ys : List Lin, (ys.map fun x => x.1.data.toList) = rawG s.data.toList [] ∧ J ys W') ∨ (∃ pre : List Lin, (∃ post, (pre.map fun x => x.1.data.toList) ++ post = rawG s.data.toList []) ∧ Jx pre W')) := by
  refine callsIn_of_wp Tryz.func72 rfl trivial ?_ rfl
  simp only [Tryz.ntmps72, List.size_toArray, List.length_cons, List.length_nil, Nat.reduceAdd, Nat.reduceSub, Array.replicate_succ, Array.replicate_zero, List.push_toArray, List.append_toArray, List.nil_append, List.cons_append]
  have hlen := Lib.hid (bsize s)
  obtain ⟨m, hmc⟩ := hM
  gi_wp2
  gi_loopw [3] (fun p wr => ∃ (k f : Nat) (pre : List Lin), p = .int .i64 k ∧ k ≤ s.size + 1 ∧ J pre wr ∧ wr.cell? ⟨By, 0, none⟩ = some (.string s) ∧ By < wr.heap.size ∧ Hid (Below n₀ Wb wr) ∧ s.size ≤ k + f ∧ pre.length ≤ k ∧
    Hid ((pre.map fun x => x.1.data.toList) ++ rawP f (s.data.toList.drop k) = rawG s.data.toList [])) (fun p _ => s.size + 1 - (intOf p).toNat)
  case atStart => exact ⟨0, s.size, [], rfl, by omega, h0, hBy, hlt, Lib.hid (Below.refl _ _), by omega, by simp, Lib.hid (by rw [raw_all s.size _ (by rw [← hlen.out]; exact Nat.le_refl _)]; simp)⟩
  case round =>
    obtain ⟨k, f, pre, rfl, hk, hJ1, hc, hBl, HB, hf, hpl, HP⟩ := hrel
    by_cases hlt2 : k < s.size
    · have hxd : (s.extract k s.size).data.toList = s.data.toList.drop k := by
        rw [ByteArray.data_extract]
        simp [List.take_of_length_le]
      have hxs : (s.extract k s.size).size = s.size - k := by rw [bsize, hxd, List.length_drop, ← hlen.out]
      have hmr : wr.cell? ⟨1, 0, none⟩ = some (.int .i64 m) := (HB.out.cell (p := ⟨1, 0, none⟩) hm).trans hmc
      have cc := Tryz.strings_Cut (s.extract k s.size) ⟨#[10]⟩ m wr (by omega) hmr
      rw [hxd, show (⟨#[10]⟩ : ByteArray).data.toList = [10] from rfl] at cc
      obtain ⟨q1, q2⟩ := cut_is (s.data.toList.drop k)
      have htl := tw_len (p := notLf) (s.data.toList.drop k)
      rw [List.length_drop, ← hlen.out] at htl
      have hne : s.data.toList.drop k ≠ [] := by
        intro h; have := congrArg List.length h; rw [List.length_drop, ← hlen.out] at this; simp at this; omega
      obtain ⟨f', rfl⟩ : ∃ f', f = f' + 1 := ⟨f - 1, by omega⟩
      have hstep : rawP (f' + 1) (s.data.toList.drop k) = (if ((s.data.toList.drop k).takeWhile notLf).length < (s.data.toList.drop k).length then stripL ((s.data.toList.drop k).takeWhile notLf) else (s.data.toList.drop k).takeWhile notLf) :: rawP f' (s.data.toList.drop (k + (((s.data.toList.drop k).takeWhile notLf).length + 1))) := by
        rw [rawP, if_neg hne, List.drop_drop]
      rw [List.length_drop, ← hlen.out] at hstep q2
      rw [q1, q2] at cc
      generalize (s.data.toList.drop k).takeWhile notLf = one at *
      obtain ⟨C2, hC2⟩ : ∃ C2 : ByteArray, (⟨(Lib.cut (s.data.toList.drop k) [10]).2.1.toArray⟩ : ByteArray) = C2 := ⟨_, rfl⟩
      rw [hC2] at cc
      have hos : (⟨one.toArray⟩ : ByteArray).size = one.length := mk_sizeL _
      have HO := Lib.hid (show (⟨one.toArray⟩ : ByteArray).data.toList = one from rfl)
      generalize (⟨one.toArray⟩ : ByteArray) = O at *
      have hki : (k : Int) ≤ (s.size : Int) := by omega
      have HST := Lib.hid hstep
      clear hstep q1 q2 hxd hxs hne hC2 hmr
      gi_wp2_with fail
      refine ⟨trivial, (callsIn_wide.2 cc).mono ?_⟩
      rintro e w5 ⟨rfl, q, rfl⟩
      have hbq : Below wr.heap.size wr (wr.drewN q) := below_drewNL (Below.refl _ _) q
      have J5 := hJ pre wr _ none hJ1 (grown_below hbq) (fun r e => by cases e)
      have hc5 := (hbq.cell (p := ⟨By, 0, none⟩) hBl).trans hc
      have HB5 := Lib.hid (HB.out.trans (hbq.mono (Nat.le_trans hn₀ HB.out.size)))
      have hBl5 : By < (wr.drewN q).heap.size := hBl
      clear cc hbq hc hBl HB hJ1
      generalize wr.drewN q = w5 at *
      have hP2 : ∀ X : Lin, X.1.data.toList = (if one.length < s.size - k then stripL one else one) → (((pre ++ [X]).map fun x => x.1.data.toList) ++ rawP f' (s.data.toList.drop (k + (one.length + 1))) = rawG s.data.toList []) := fun X hX => by
        rw [List.map_append, List.map_cons, List.map_nil, hX, List.append_assoc, ← HP.out, HST.out]; rfl
      have HP2 := Lib.hid hP2
      clear hP2 HST HP
      by_cases hfd : one.length < s.size - k
      · rw [decide_eq_true hfd]
        have ct := fun W => Tryz.strings_TrimSuffix O ⟨#[13]⟩ W (by omega)
        rw [HO.out, show (⟨#[13]⟩ : ByteArray).data.toList = [13] from rfl, trim_strip] at ct
        have hsl := strip_len one
        have hss : (⟨(stripL one).toArray⟩ : ByteArray).size = (stripL one).length := mk_sizeL _
        have hsb : (⟨(stripL one).toArray⟩ : ByteArray).size ≤ 8192 := by omega
        obtain ⟨X, hX⟩ : ∃ X : Lin, (⟨(stripL one).toArray⟩ : ByteArray) = X.1 := ⟨⟨_, hsb⟩, rfl⟩
        have HX := Lib.hid (HP2.out X (by rw [← hX, if_pos hfd]))
        rw [hX] at ct hss
        clear hX HP2 hsb
        have cl := fun W => cloneT_any X.1 (by have := X.2; omega) W
        gi_wp2_with fail
        refine ⟨trivial, (callsIn_wide.2 (ct _)).mono ?_⟩
        rintro e w6 ⟨rfl, hw⟩
        subst hw
        gi_wp2_with fail
        refine ⟨trivial, (callsIn_wide.2 (cl _)).mono ?_⟩
        rintro e w7 ⟨rfl, hb7⟩
        have J7 := hJ pre _ w7 none J5 (grown_below hb7) (fun r e => by cases e)
        have hc7 := (hb7.cell (p := ⟨By, 0, none⟩) hBl5).trans hc5
        have HB7 := Lib.hid (HB5.out.trans (hb7.mono (Nat.le_trans hn₀ HB5.out.size)))
        have hBl7 : By < w7.heap.size := Nat.lt_of_lt_of_le hBl5 hb7.size
        clear hb7 J5 hc5 HB5 hBl5 cl
        obtain ⟨fn, tmps, assign, body, hy, hR⟩ := hY pre X w7 J7 (by omega)
        dsimp only [encsL] at hy
        have HR := Lib.hid hR
        clear hR J7
        gi_wp2
        refine HR.out.mono ?_
        rintro e W3 (⟨rfl, hJ3, hk3⟩ | ⟨rfl, hJx3⟩)
        · have hc3 := (World.cell?_of_block (a := ⟨By, 0, none⟩) hk3.box).trans hc7
          have hB3 : By < W3.heap.size := Nat.lt_of_lt_of_le hBl7 hk3.below.size
          have HB8 := Lib.hid (HB7.out.trans hk3.below)
          have HJ := Lib.hid hJ3
          clear hJ3 hk3 hc7 HB7 hBl7
          gi_wp2
          go_roundw
          case rel => exact ⟨k + (one.length + 1), f', pre ++ [X], by go_num, by omega, HJ.out, hc3, hB3, HB8, by omega, by rw [List.length_append, List.length_singleton]; omega, HX⟩
          case measure => simp [intOf]; omega
        · clear hc7
          gi_wp2
          refine bodyPost_ret (results_none rfl _ _ _) rfl ?_
          exact ⟨⟨_, rfl⟩, .inr ⟨_, ⟨_, HX.out⟩, hJx3⟩⟩
      · rw [decide_eq_false hfd]
        have hsb : O.size ≤ 8192 := by omega
        obtain ⟨X, hX⟩ : ∃ X : Lin, O = X.1 := ⟨⟨_, hsb⟩, rfl⟩
        have HX := Lib.hid (HP2.out X (by rw [← hX, HO.out, if_neg hfd]))
        have cl := fun W => cloneT_any X.1 (by have := X.2; omega) W
        subst hX
        clear HP2 hsb
        gi_wp2_with fail
        refine ⟨trivial, (callsIn_wide.2 (cl _)).mono ?_⟩
        rintro e w7 ⟨rfl, hb7⟩
        have J7 := hJ pre _ w7 none J5 (grown_below hb7) (fun r e => by cases e)
        have hc7 := (hb7.cell (p := ⟨By, 0, none⟩) hBl5).trans hc5
        have HB7 := Lib.hid (HB5.out.trans (hb7.mono (Nat.le_trans hn₀ HB5.out.size)))
        have hBl7 : By < w7.heap.size := Nat.lt_of_lt_of_le hBl5 hb7.size
        clear hb7 J5 hc5 HB5 hBl5 cl
        obtain ⟨fn, tmps, assign, body, hy, hR⟩ := hY pre X w7 J7 (by omega)
        dsimp only [encsL] at hy
        have HR := Lib.hid hR
        clear hR J7
        gi_wp2
        refine HR.out.mono ?_
        rintro e W3 (⟨rfl, hJ3, hk3⟩ | ⟨rfl, hJx3⟩)
        · have hc3 := (World.cell?_of_block (a := ⟨By, 0, none⟩) hk3.box).trans hc7
          have hB3 : By < W3.heap.size := Nat.lt_of_lt_of_le hBl7 hk3.below.size
          have HB8 := Lib.hid (HB7.out.trans hk3.below)
          have HJ := Lib.hid hJ3
          clear hJ3 hk3 hc7 HB7 hBl7
          gi_wp2
          go_roundw
          case rel => exact ⟨k + (one.length + 1), f', pre ++ [X], by go_num, by omega, HJ.out, hc3, hB3, HB8, by omega, by rw [List.length_append, List.length_singleton]; omega, HX⟩
          case measure => simp [intOf]; omega
        · clear hc7
          gi_wp2
          refine bodyPost_ret (results_none rfl _ _ _) rfl ?_
          exact ⟨⟨_, rfl⟩, .inr ⟨_, ⟨_, HX.out⟩, hJx3⟩⟩
    · have HE : Hid ((pre.map fun x => x.1.data.toList) = rawG s.data.toList []) := Lib.hid (by
        rw [← HP.out, List.drop_eq_nil_of_le (by rw [← hlen.out]; omega), rawP_nil, List.append_nil])
      have HJ := Lib.hid hJ1
      clear hJ1 HP
      gi_wp2
      go_end0
      exact ⟨⟨_, rfl⟩, .inl ⟨pre, HE.out, HJ.out⟩⟩
set_option maxHeartbeats 1000000 in
theorem linFn_in (n : Nat) (s : ByteArray) (w : World) :
    CallsIn Fence.wide n Tryz.prog 53 #[.string s] w fun e w' => e = .returned (.func (.func 72) #[] #[.pointer (some ⟨w.heap.size, 0, none⟩)]) ∧ w' = w.alloc (.cells #[.string s] 9) := by
  refine callsIn_of_wp Tryz.func53 rfl trivial ?_ rfl
  simp only [Tryz.ntmps53, List.size_toArray, List.length_cons, List.length_nil, Nat.reduceAdd, Nat.reduceSub, Array.replicate_succ, Array.replicate_zero, List.push_toArray, List.append_toArray, List.nil_append, List.cons_append]
  gi_wp2
  go_ret
  exact ⟨rfl, rfl⟩
theorem lin_stops (n : Nat) (hn : 1 ≤ n) (By n₀ : Nat) (s : ByteArray) (hs : s.size ≤ 8192) (w : World) (hlt : By < w.heap.size) (hBy : w.cell? ⟨By, 0, none⟩ = some (.string s)) (hm : 1 < n₀) (hn₀ : n₀ ≤ w.heap.size) (hM : MaxLn w) :
    SeqStopsK Fence.wide n Tryz.prog 72 #[.pointer (some ⟨By, 0, none⟩)] encsL (KpL n₀ By) (fun ys => (ys.map fun x => x.1.data.toList) = rawG s.data.toList []) (fun pre => ∃ post, (pre.map fun x => x.1.data.toList) ++ post = rawG s.data.toList []) 8193 w := fun l J Jx _W hW hJ _ hY h0 =>
  lin1_in n hn l By n₀ s hs J Jx hJ hY ((hW.cell (p := ⟨By, 0, none⟩) hlt).trans hBy) (Nat.lt_of_lt_of_le hlt hW.size) hm (Nat.le_trans hn₀ hW.size) (hM.step hW) h0
end Go.Proofs.YtlfhhnjdfpgadaaGreatDoor
