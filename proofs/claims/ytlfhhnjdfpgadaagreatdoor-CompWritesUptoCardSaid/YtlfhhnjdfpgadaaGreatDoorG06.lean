/-
  Plain mathematics for layer 11 (line): a property's text, piece by piece, and how long it is.
-/
import Derived.Test.YtlfhhnjdfpgadaaGreatDoorG05
import Derived.Lib.IndexMore
import Derived.Deep.LoopGhost
import Derived.Deep.QuietTactic
import Derived.BigQuiet
import Derived.WalkSpells
import Derived.WalkLawsBesides
import Derived.Test.YtlfhhnjdfpgadaaGreatDoorG02
import Derived.Test.YtlfhhnjdfpgadaaGreatDoorG04
import Derived.Deep.RegionHeld3
namespace Go.Proofs.YtlfhhnjdfpgadaaGreatDoor
open Go.RowKit

def parOf (r : PR) : Par := ⟨r.name.data.toList, r.vs.map fun v => v.data.toList⟩
/-- A property that is handed in, as plain lists. -/
def proOf (nm : ByteArray) (l : List PR) (vl : ByteArray) : Pro := ⟨nm.data.toList, l.map parOf, vl.data.toList⟩
theorem valsL_snoc (vs : List (List UInt8)) (v : List UInt8) : valsL (vs ++ [v]) = valsL vs ++ ((if vs = [] then [] else [44]) ++ quoteL v) := by
  cases vs with
  | nil => simp [valsL, moreL]
  | cons x vs => simp [valsL, moreL]
/-- Values as far as k. -/
def valsK (r : PR) (k : Nat) : List UInt8 := valsL ((r.vs.take k).map fun v => v.data.toList)
theorem valsK_zero (r : PR) : valsK r 0 = [] := rfl
theorem valsK_step {r : PR} {k : Nat} {v : ByteArray} (h : r.vs[k]? = some v) : valsK r (k + 1) = valsK r k ++ ((if k = 0 then [] else [44]) ++ quoteL v.data.toList) := by
  obtain ⟨hk, e⟩ := List.getElem?_eq_some_iff.1 h
  unfold valsK
  rw [List.take_succ_eq_append_getElem hk, List.map_append, List.map_cons, List.map_nil, valsL_snoc, e]
  by_cases h0 : k = 0
  · subst h0; simp
  · have h1 : ¬ ((r.vs.take k).map fun v => v.data.toList) = [] := by
      intro hh
      have := congrArg List.length hh
      simp only [List.length_map, List.length_take, List.length_nil] at this
      omega
    rw [if_neg h1, if_neg h0]
theorem valsK_all {r : PR} {k : Nat} (h : r.vs.length ≤ k) : valsK r k = valsL (parOf r).vals := by
  unfold valsK parOf
  rw [List.take_of_length_le h]
/-- A property's text as far as i parameters. -/
def preL (nm : ByteArray) (l : List PR) (i : Nat) : List UInt8 := nm.data.toList ++ ((l.take i).map parOf).flatMap parT
theorem preL_zero (nm : ByteArray) (l : List PR) : preL nm l 0 = nm.data.toList := by simp [preL]
theorem preL_step {nm : ByteArray} {l : List PR} {i : Nat} {r : PR} (h : l[i]? = some r) : preL nm l (i + 1) = preL nm l i ++ (59 :: (r.name.data.toList ++ 61 :: valsL (parOf r).vals)) := by
  obtain ⟨hi, e⟩ := List.getElem?_eq_some_iff.1 h
  unfold preL
  rw [List.take_succ_eq_append_getElem hi, e]
  simp [parT, parOf]
theorem preL_all {nm vl : ByteArray} {l : List PR} {i : Nat} (h : l.length ≤ i) : preL nm l i ++ 58 :: vl.data.toList = textL (proOf nm l vl) := by
  unfold preL textL proOf
  rw [List.take_of_length_le h]
  simp
theorem quoteL_len (v : List UInt8) : (quoteL v).length ≤ v.length + 2 := by
  unfold quoteL
  split <;> simp
theorem valsK_len (r : PR) : ∀ k, (valsK r k).length ≤ 3 * vsize r.vs
  | 0 => by simp [valsK_zero]
  | k + 1 => by
    by_cases hk : k < r.vs.length
    · have hg : r.vs[k]? = some r.vs[k] := List.getElem?_eq_getElem hk
      -- as far as k, the weight is that of the first k
      have key : ∀ j, j ≤ r.vs.length → (valsK r j).length ≤ 3 * vsize (r.vs.take j) := by
        intro j
        induction j with
        | zero => intro _; simp [valsK_zero]
        | succ j ih =>
          intro hj
          have hgj : r.vs[j]? = some r.vs[j] := List.getElem?_eq_getElem (by omega)
          rw [valsK_step hgj]
          have := ih (by omega)
          have hq := quoteL_len r.vs[j].data.toList
          have hs : r.vs[j].data.toList.length = r.vs[j].size := Array.length_toList
          have e : vsize (r.vs.take (j + 1)) = vsize (r.vs.take j) + (r.vs[j].size + 1) := by
            unfold vsize
            rw [List.take_succ_eq_append_getElem (by omega), List.map_append, List.sum_append, List.map_cons, List.map_nil, List.sum_cons, List.sum_nil, Nat.add_zero]
          rw [e]
          simp only [List.length_append]
          split <;> simp <;> omega
      have h1 := key (k + 1) (by omega)
      have h2 : vsize (r.vs.take (k + 1)) ≤ vsize r.vs := by
        conv => rhs; rw [← List.take_append_drop (k + 1) r.vs]
        unfold vsize
        rw [List.map_append, List.sum_append]
        omega
      omega
    · have e : valsK r (k + 1) = valsK r k := by
        unfold valsK
        rw [List.take_of_length_le (by omega), List.take_of_length_le (by omega)]
      rw [e]
      exact valsK_len r k
theorem psize_le {l : List PR} {r : PR} (h : r ∈ l) : psize r ≤ psizes l := by
  induction l with
  | nil => cases h
  | cons x l ih =>
    unfold psizes at *
    rw [List.map_cons, List.sum_cons]
    rcases List.mem_cons.1 h with e | h
    · subst e; omega
    · have := ih h; omega
theorem preL_len (nm : ByteArray) : ∀ (l : List PR) (i : Nat), (preL nm l i).length ≤ nm.size + 5 * psizes l
  | l, 0 => by
    rw [preL_zero, ← bsize]; omega
  | [], i + 1 => by
    have : preL nm [] (i + 1) = nm.data.toList := by simp [preL]
    rw [this, ← bsize]; omega
  | r :: l, i + 1 => by
    have ih := preL_len nm l i
    have e : preL nm (r :: l) (i + 1) = nm.data.toList ++ (parT (parOf r) ++ ((l.take i).map parOf).flatMap parT) := by simp [preL]
    have ep : psizes (r :: l) = psize r + psizes l := by simp [psizes]
    have hv := valsK_len r r.vs.length
    rw [valsK_all (Nat.le_refl _)] at hv
    have hp : (parT (parOf r)).length ≤ 5 * psize r := by
      unfold parT psize
      have hs : (parOf r).name.length = r.name.size := Array.length_toList
      simp only [List.length_cons, List.length_append, hs]
      omega
    unfold preL at ih
    rw [e, ep]
    simp only [List.length_append] at ih ⊢
    omega
/-- Whether a byte stands in a text. -/
theorem idx_has (l : List UInt8) (c : UInt8) : (0 ≤ Lib.index l [c]) ↔ c ∈ l := by
  have hocc : ∀ j, Lib.occAt l [c] j = decide (l[j]? = some c) := by
    intro j
    unfold Lib.occAt
    by_cases hj : j < l.length
    · rw [List.drop_eq_getElem_cons hj, List.getElem?_eq_getElem hj]
      simp only [List.isPrefixOf, Bool.and_true, Option.some.injEq]
      by_cases e : c = l[j]
      · rw [decide_eq_true e.symm, beq_iff_eq]; exact e
      · rw [decide_eq_false (fun h => e h.symm), beq_eq_false_iff_ne]; exact e
    · rw [List.drop_eq_nil_of_le (by omega), List.getElem?_eq_none (by omega)]
      simp [List.isPrefixOf]
  constructor
  · intro h
    by_cases hc : c ∈ l
    · exact hc
    · have : Lib.index l [c] = -1 := Lib.index_none fun j hj => by
        rw [hocc j]
        refine decide_eq_false fun e => hc (List.mem_of_getElem? e)
      omega
  · intro h
    obtain ⟨j, hj, e⟩ := List.getElem_of_mem h
    have hfirst : ∀ n : Nat, (∃ j : Nat, j < n ∧ l[j]? = some c) → ∃ k : Nat, l[k]? = some c ∧ ∀ i : Nat, i < k → ¬ l[i]? = some c := by
      intro n
      induction n with
      | zero => rintro ⟨j, hj, _⟩; omega
      | succ n ih =>
        rintro ⟨j, hj, e⟩
        by_cases hx : ∃ j : Nat, j < n ∧ l[j]? = some c
        · exact ih hx
        · refine ⟨j, e, fun i hi e2 => hx ⟨i, by omega, e2⟩⟩
    obtain ⟨k, hk, hmin⟩ := hfirst (j + 1) ⟨j, by omega, by rw [List.getElem?_eq_getElem hj, e]⟩
    have hkl := (List.getElem?_eq_some_iff.1 hk).1
    have : Lib.index l [c] = k := Lib.index_first (Nat.le_of_lt hkl) (by rw [hocc]; exact decide_eq_true hk) (fun i hi => by rw [hocc]; exact decide_eq_false (hmin i hi))
    omega
theorem sep_44 {v : List UInt8} (h : (44 : UInt8) ∈ v) : hasSep v = true := by unfold hasSep; exact List.any_eq_true.2 ⟨44, h, by decide⟩
theorem sep_59 {v : List UInt8} (h : (59 : UInt8) ∈ v) : hasSep v = true := by unfold hasSep; exact List.any_eq_true.2 ⟨59, h, by decide⟩
theorem sep_58 {v : List UInt8} (h : (58 : UInt8) ∈ v) : hasSep v = true := by unfold hasSep; exact List.any_eq_true.2 ⟨58, h, by decide⟩
theorem sep_no {v : List UInt8} (h1 : (44 : UInt8) ∉ v) (h2 : (59 : UInt8) ∉ v) (h3 : (58 : UInt8) ∉ v) : hasSep v = false := by
  unfold hasSep
  rw [List.any_eq_false]
  intro c hc
  simp only [Bool.or_eq_true, decide_eq_true_eq, not_or]
  refine ⟨⟨fun e => h1 ?_, fun e => h2 ?_⟩, fun e => h3 ?_⟩
  · rwa [show c = 44 from UInt8.toNat_inj.1 e] at hc
  · rwa [show c = 59 from UInt8.toNat_inj.1 e] at hc
  · rwa [show c = 58 from UInt8.toNat_inj.1 e] at hc

end Go.Proofs.YtlfhhnjdfpgadaaGreatDoor

/-
  The document's own answers of layer 11: lists of texts, and properties, that are the same.
-/
namespace Go.Proofs.YtlfhhnjdfpgadaaGreatDoor
open Go.RowKit

theorem strNe (a b : ByteArray) : (a.toList != b.toList) = !decide (a.data.toList = b.data.toList) := by
  unfold bne
  rw [strEqL]

set_option maxRecDepth 100000 in
set_option maxHeartbeats 2000000 in
theorem refTexts8_any (A A' : Option Addr) (n c m c' : Nat) (a b : List ByteArray) (w : World) (ha : Reads w w.heap.size 1 A n (encS a)) (hb : Reads w w.heap.size 1 A' m (encS b)) (hn : n ≤ 9223372036854775807) (hm : m ≤ 9223372036854775807) :
    Calls Tryz.prog 50 #[.slice A n c, .slice A' m c'] w fun e w' => e = .returned (.bool (decide (a = b))) ∧ ∃ q, w' = w.drewN q := by
  have HA := Lib.hid ha
  have HB := Lib.hid hb
  have HL := Lib.hid (And.intro ha.lenS hb.lenS)
  clear ha hb
  by_cases hnm : n = m
  · subst hnm
    have ht : ((n : Int) != (n : Int)) = false := by simp
    obtain ⟨r, hr⟩ : ∃ r, r = decide (a = b) := ⟨_, rfl⟩
    rw [← hr]
    have HR := Lib.hid hr
    clear hr
    go_enter Tryz.func50, Tryz.ntmps50
    go_wp2
    go_loopg [5] n (fun g s5 wr => ∃ i q : Nat, i ≤ n ∧ n - i ≤ g ∧ s5 = .int .i64 i ∧ w.drewN q = wr ∧ Hid (∀ k, k < i → blk a k = blk b k))
    case atStart => exact ⟨0, 0, Nat.zero_le _, by omega, rfl, rfl, Lib.hid fun k hk => absurd hk (Nat.not_lt_zero _)⟩
    case round =>
      obtain ⟨i, q, hi, hg, rfl, rfl, J⟩ := hrel
      by_cases hlt : i < n
      · have hin : (i : Int) < (n : Int) := by omega
        obtain ⟨b1, o1, rfl, _, g1⟩ := HA.out.str hlt
        obtain ⟨b2, o2, rfl, _, g2⟩ := HB.out.str hlt
        have hx := strNe (blk a i) (blk b i)
        have hx2 := strEqL (blk a i) (blk b i)
        by_cases hxy : blk a i = blk b i
        · have JN : Hid (∀ k, k < i + 1 → blk a k = blk b k) := Lib.hid fun k hk => by
            by_cases e : k = i
            · rw [e]; exact hxy
            · exact J.out k (by omega)
          rw [decide_eq_true (by rw [hxy]), Bool.not_true, ← hxy] at hx
          rw [decide_eq_true (by rw [hxy]), ← hxy] at hx2
          rw [← hxy] at g2
          generalize blk a i = x at g1 g2 hx hx2
          clear hxy
          go_wp2_with fail
          go_quiet (fail)
          go_wp2
          go_roundg (n - (i + 1))
          case measure => omega
          case rel => exact ⟨i + 1, q + nq, by omega, by omega, by go_num, rfl, JN⟩
        · have HE : Hid (r = false) := Lib.hid (HR.out.trans (decide_eq_false (fun e => hxy (by rw [e]))))
          rw [decide_eq_false (fun e => hxy (ByteArray.ext (Array.toList_inj.1 e))), Bool.not_false] at hx
          rw [decide_eq_false (fun e => hxy (ByteArray.ext (Array.toList_inj.1 e)))] at hx2
          generalize blk a i = x at g1 hx hx2
          generalize blk b i = y at g2 hx hx2
          clear hxy
          go_wp2_with fail
          go_quiet (fail)
          go_wp2
          go_ret
          rw [HE.out]
          exact ⟨rfl, q + nq, World.drewN_drewN _ _ _⟩
      · have : i = n := by omega
        subst this
        have HE : Hid (r = true) := Lib.hid (HR.out.trans (decide_eq_true (by
          refine List.ext_getElem? fun k => ?_
          by_cases hk : k < i
          · have := J.out k hk
            unfold blk at this
            rw [List.getD_eq_getElem?_getD, List.getD_eq_getElem?_getD] at this
            rw [List.getElem?_eq_getElem (by rw [HL.out.1]; exact hk), List.getElem?_eq_getElem (by rw [HL.out.2]; exact hk)] at this ⊢
            simpa using this
          · rw [List.getElem?_eq_none (by rw [HL.out.1]; omega), List.getElem?_eq_none (by rw [HL.out.2]; omega)])))
        go_wp2
        go_ret
        rw [HE.out]
        exact ⟨rfl, q, rfl⟩
  · have ht : ((n : Int) != (m : Int)) = true := by simp only [bne_iff_ne, ne_eq]; omega
    have HD : Hid (decide (a = b) = false) := Lib.hid (decide_eq_false (fun e => hnm (by rw [← HL.out.1, ← HL.out.2, e])))
    rw [HD.out]
    clear HA HB HL HD
    go_enter Tryz.func50, Tryz.ntmps50
    go_wp2
    go_ret
    exact ⟨rfl, 0, rfl⟩

theorem below_dr {w W : World} (h : Below w.heap.size w W) (q : Nat) : Below w.heap.size w (W.drewN q) := ⟨h.1, h.2, h.3, h.4, h.5⟩
theorem map_ba_inj : ∀ {a b : List ByteArray}, (a.map fun v => v.data.toList) = (b.map fun v => v.data.toList) → a = b
  | [], [], _ => rfl
  | [], _ :: _, h => by simp at h
  | _ :: _, [], h => by simp at h
  | x :: a, y :: b, h => by
    simp only [List.map_cons, List.cons.injEq] at h
    rw [map_ba_inj h.2, ByteArray.ext (Array.toList_inj.1 h.1)]
theorem parOf_eq (r q : PR) : parOf r = parOf q ↔ r.name.data.toList = q.name.data.toList ∧ r.vs = q.vs := by
  unfold parOf
  rw [Par.mk.injEq]
  refine ⟨fun h => ⟨h.1, map_ba_inj h.2⟩, fun h => ⟨h.1, by rw [h.2]⟩⟩
theorem pro_ne {nm nm2 vl vl2 : ByteArray} {l l2 : List PR} (h : nm.data.toList ≠ nm2.data.toList ∨ vl.data.toList ≠ vl2.data.toList ∨ l.length ≠ l2.length ∨ ∃ (i : Nat) (r q : PR), l[i]? = some r ∧ l2[i]? = some q ∧ parOf r ≠ parOf q) :
    decide (proOf nm l vl = proOf nm2 l2 vl2) = false := by
  refine decide_eq_false fun e => ?_
  unfold proOf at e
  rw [Pro.mk.injEq] at e
  rcases h with h | h | h | ⟨i, r, q, h1, h2, h3⟩
  · exact h e.1
  · exact h e.2.2
  · have := congrArg List.length e.2.1
    simp only [List.length_map] at this
    exact h this
  · have := congrArg (·[i]?) e.2.1
    simp only [List.getElem?_map, h1, h2, Option.map_some, Option.some.injEq] at this
    exact h3 this
theorem pro_eq {nm nm2 vl vl2 : ByteArray} {l l2 : List PR} (h1 : nm.data.toList = nm2.data.toList) (h2 : vl.data.toList = vl2.data.toList) (h3 : l.length = l2.length) (h : ∀ (i : Nat) (r q : PR), l[i]? = some r → l2[i]? = some q → parOf r = parOf q) :
    decide (proOf nm l vl = proOf nm2 l2 vl2) = true := by
  refine decide_eq_true ?_
  unfold proOf
  rw [Pro.mk.injEq]
  refine ⟨h1, ?_, h2⟩
  refine List.ext_getElem? fun i => ?_
  rw [List.getElem?_map, List.getElem?_map]
  by_cases hi : i < l.length
  · rw [List.getElem?_eq_getElem hi, List.getElem?_eq_getElem (by omega), Option.map_some, Option.map_some, h i _ _ (List.getElem?_eq_getElem hi) (List.getElem?_eq_getElem (by omega))]
  · rw [List.getElem?_eq_none (by omega), List.getElem?_eq_none (by omega)]

set_option maxRecDepth 100000 in
set_option maxHeartbeats 8000000 in
theorem refSame11_any (nm vl nm2 vl2 : ByteArray) (L L2 : Option Addr) (n c n2 c2 : Nat) (l l2 : List PR) (w : World) (hR : Reads w w.heap.size 2 L n (encP l)) (hP : ∀ r ∈ l, POk w w.heap.size r) (hn : n ≤ c) (hc : c ≤ maxLen)
    (hR2 : Reads w w.heap.size 2 L2 n2 (encP l2)) (hP2 : ∀ r ∈ l2, POk w w.heap.size r) (hn2 : n2 ≤ c2) (hc2 : c2 ≤ maxLen) :
    Calls Tryz.prog 28 #[.agg #[.string nm, .slice L n c, .string vl], .agg #[.string nm2, .slice L2 n2 c2, .string vl2]] w fun e w' => e = .returned (.bool (decide (proOf nm l vl = proOf nm2 l2 vl2))) ∧ Below w.heap.size w w' := by
  have hb1 : Below w.heap.size w (w.alloc (.cells #[.string nm, .slice L n c, .string vl] 30)) := (Below.refl _ w).alloc (Nat.le_refl _) _
  have hb2 := (Below.refl _ (w.alloc (.cells #[.string nm, .slice L n c, .string vl] 30))).alloc (Nat.le_refl _) (.cells #[.string nm2, .slice L2 n2 c2, .string vl2] 30)
  have HA := Lib.hid ((PA.new hR hP hn hc nm vl).step hb2)
  have HA2 := Lib.hid (PA.new (hR2.step hb1) (fun r hr => (hP2 r hr).step hb1) hn2 hc2 nm2 vl2)
  have HB := Lib.hid (bstep hb1 hb2)
  have HL := Lib.hid (And.intro HA.out.len HA2.out.len)
  have hnm : n ≤ 9223372036854775807 := by have := hc; unfold maxLen at this; omega
  have hnm2 : n2 ≤ 9223372036854775807 := by have := hc2; unfold maxLen at this; omega
  clear hR hP hn hc hR2 hP2 hn2 hc2 hb1 hb2
  have e1 := strNe nm nm2
  have e2 := strNe vl vl2
  have f1 := strEqL nm nm2
  have f2 := strEqL vl vl2
  go_enter Tryz.func28, Tryz.ntmps28
  generalize hW : (w.alloc (.cells #[.string nm, .slice L n c, .string vl] 30)).alloc (.cells #[.string nm2, .slice L2 n2 c2, .string vl2] 30) = w1 at HA HA2 HB
  have hsz : (w.alloc (.cells #[.string nm, .slice L n c, .string vl] 30)).heap.size = w.heap.size + 1 := by simp
  rw [hsz] at HA2
  obtain ⟨x0, x1, x2⟩ := HA.out.bx.cells
  obtain ⟨y0, y1, y2⟩ := HA2.out.bx.cells
  by_cases h1 : nm.data.toList = nm2.data.toList
  · rw [decide_eq_true h1, Bool.not_true] at e1
    rw [decide_eq_true h1] at f1
    by_cases h2 : vl.data.toList = vl2.data.toList
    · rw [decide_eq_true h2, Bool.not_true] at e2
      rw [decide_eq_true h2] at f2
      by_cases h3 : n = n2
      · subst h3
        have H12 := Lib.hid (And.intro h1 h2)
        have ht : ((n : Int) != (n : Int)) = false := by simp
        clear h1 h2
        go_wp2
        clear hW hsz x0 x1 x2 y0 y1 y2 e1 e2 f1 f2 ht
        go_loopg [5] n (fun g s5 wr => ∃ i : Nat, i ≤ n ∧ n - i ≤ g ∧ s5 = .int .i64 i ∧ Hid (PA wr w.heap.size nm vl L n c l ∧ PA wr (w.heap.size + 1) nm2 vl2 L2 n c2 l2 ∧ Below w.heap.size w wr) ∧ Hid (∀ (k : Nat) (r q : PR), k < i → l[k]? = some r → l2[k]? = some q → parOf r = parOf q))
        case atStart => exact ⟨0, Nat.zero_le _, by omega, rfl, Lib.hid ⟨HA.out, HA2.out, HB.out⟩, Lib.hid fun k r q hk => absurd hk (Nat.not_lt_zero _)⟩
        case round =>
          clear HA HA2 HB
          obtain ⟨i, hi, hg, rfl, HJ, J⟩ := hrel
          obtain ⟨x0, x1, x2⟩ := HJ.out.1.bx.cells
          obtain ⟨y0, y1, y2⟩ := HJ.out.2.1.bx.cells
          by_cases hlt : i < n
          · obtain ⟨r, hr⟩ : ∃ r, l[i]? = some r := ⟨l[i]'(by have := HL.out.1; omega), List.getElem?_eq_getElem (by have := HL.out.1; omega)⟩
            obtain ⟨q, hq⟩ : ∃ q, l2[i]? = some q := ⟨l2[i]'(by have := HL.out.2; omega), List.getElem?_eq_getElem (by have := HL.out.2; omega)⟩
            obtain ⟨b, o, hLe, p0, p1⟩ := HJ.out.1.at hr
            obtain ⟨b2, o2, hLe2, q0, q1⟩ := HJ.out.2.1.at hq
            have HP1 := Lib.hid (HJ.out.1.vs r (List.mem_of_getElem? hr))
            have HP2 := Lib.hid (HJ.out.2.1.vs q (List.mem_of_getElem? hq))
            have hk1 : r.k ≤ 9223372036854775807 := by have := HP1.out.le; have := HP1.out.cap; unfold maxLen at this; omega
            have hk2 : q.k ≤ 9223372036854775807 := by have := HP2.out.le; have := HP2.out.cap; unfold maxLen at this; omega
            have ct : ∀ k, Calls Tryz.prog 50 #[.slice r.K r.k r.kc, .slice q.K q.k q.kc] (wr.drewN k) fun e w' => e = .returned (.bool (decide (r.vs = q.vs))) ∧ ∃ m, w' = (wr.drewN k).drewN m := fun k =>
              refTexts8_any r.K q.K r.k r.kc q.k q.kc r.vs q.vs (wr.drewN k) (HP1.out.rd.drewN k) (HP2.out.rd.drewN k) hk1 hk2
            have e3 := strNe r.name q.name
            have f3 := strEqL r.name q.name
            have HR := Lib.hid hr
            have HQ := Lib.hid hq
            have HLE := Lib.hid hLe
            have HLE2 := Lib.hid hLe2
            rw [hLe] at x1
            rw [hLe2] at y1
            clear hr hq hk1 hk2 hLe hLe2
            by_cases hnn : r.name.data.toList = q.name.data.toList
            · rw [decide_eq_true hnn, Bool.not_true] at e3
              rw [decide_eq_true hnn] at f3
              by_cases hvv : r.vs = q.vs
              · have J2 : Hid (∀ (k : Nat) (r q : PR), k < i + 1 → l[k]? = some r → l2[k]? = some q → parOf r = parOf q) := Lib.hid fun k r' q' hk h1 h2 => by
                  by_cases e : k = i
                  · subst e
                    have a1 := Option.some.inj (HR.out.symm.trans h1)
                    have a2 := Option.some.inj (HQ.out.symm.trans h2)
                    subst a1 a2
                    exact (parOf_eq _ _).2 ⟨hnn, hvv⟩
                  · exact J.out k r' q' (by omega) h1 h2
                rw [decide_eq_true hvv] at ct
                clear hnn hvv
                go_wp2_with fail
                go_quiet ((go_at_call 50; refine Calls.quiet_of (ct _)))
                have HJ2 := Lib.hid (And.intro (HJ.out.1.step (below_dr (Below.refl _ wr) nq)) (And.intro (HJ.out.2.1.step (below_dr (Below.refl _ wr) nq)) (below_dr HJ.out.2.2 nq)))
                go_wp2
                go_roundg (n - (i + 1))
                case measure => omega
                case rel => exact ⟨i + 1, by omega, by omega, by go_num, HJ2, J2⟩
              · have E := Lib.hid (pro_ne (nm := nm) (nm2 := nm2) (vl := vl) (vl2 := vl2) (l := l) (l2 := l2) (.inr (.inr (.inr ⟨i, r, q, HR.out, HQ.out, fun e => hvv ((parOf_eq _ _).1 e).2⟩))))
                rw [decide_eq_false hvv] at ct
                clear hnn hvv
                go_wp2_with fail
                go_quiet ((go_at_call 50; refine Calls.quiet_of (ct _)))
                go_wp2
                go_ret
                exact ⟨by rw [E.out]; rfl, below_dr HJ.out.2.2 nq⟩
            · have E := Lib.hid (pro_ne (nm := nm) (nm2 := nm2) (vl := vl) (vl2 := vl2) (l := l) (l2 := l2) (.inr (.inr (.inr ⟨i, r, q, HR.out, HQ.out, fun e => hnn ((parOf_eq _ _).1 e).1⟩))))
              rw [decide_eq_false hnn, Bool.not_false] at e3
              rw [decide_eq_false hnn] at f3
              clear hnn ct
              go_wp2_with fail
              go_quiet (fail)
              go_wp2
              go_ret
              exact ⟨by rw [E.out]; rfl, below_dr HJ.out.2.2 nq⟩
          · obtain rfl : i = n := by omega
            have E := Lib.hid (pro_eq (nm := nm) (nm2 := nm2) (vl := vl) (vl2 := vl2) (l := l) (l2 := l2) H12.out.1 H12.out.2 (by rw [HL.out.1, HL.out.2]) (fun k r q h1 h2 => J.out k r q (by have := (List.getElem?_eq_some_iff.1 h1).1; have := HL.out.1; omega) h1 h2))
            go_wp2
            go_ret
            exact ⟨by rw [E.out]; rfl, HJ.out.2.2⟩
      · have E := Lib.hid (pro_ne (nm := nm) (nm2 := nm2) (vl := vl) (vl2 := vl2) (l := l) (l2 := l2) (.inr (.inr (.inl (by rw [HL.out.1, HL.out.2]; exact h3)))))
        have ht : ((n : Int) != (n2 : Int)) = true := by simp only [bne_iff_ne, ne_eq]; omega
        clear h1 h2 h3
        go_wp2
        go_ret
        exact ⟨by rw [E.out]; rfl, HB.out⟩
    · rw [decide_eq_false h2, Bool.not_false] at e2
      rw [decide_eq_false h2] at f2
      have E := Lib.hid (pro_ne (nm := nm) (nm2 := nm2) (vl := vl) (vl2 := vl2) (l := l) (l2 := l2) (.inr (.inl h2)))
      clear h1 h2
      go_wp2
      go_ret
      exact ⟨by rw [E.out]; rfl, HB.out⟩
  · rw [decide_eq_false h1, Bool.not_false] at e1
    rw [decide_eq_false h1] at f1
    have E := Lib.hid (pro_ne (nm := nm) (nm2 := nm2) (vl := vl) (vl2 := vl2) (l := l) (l2 := l2) (.inl h1))
    clear h1
    go_wp2
    go_ret
    exact ⟨by rw [E.out]; rfl, HB.out⟩

end Go.Proofs.YtlfhhnjdfpgadaaGreatDoor

/-
  A text with small letters, as the program and as the document make it.
-/
namespace Go.Proofs.YtlfhhnjdfpgadaaGreatDoor
open Go.RowKit

/-- The first k with small letters. -/
def lowK (l : List UInt8) (k : Nat) : List UInt8 := lowL (l.take k) ++ l.drop k
theorem lowK_zero (l : List UInt8) : lowK l 0 = l := by simp [lowK, lowL]
theorem lowK_all {l : List UInt8} {k : Nat} (h : l.length ≤ k) : lowK l k = lowL l := by simp [lowK, List.take_of_length_le h, List.drop_eq_nil_of_le h]
theorem lowK_length (l : List UInt8) (k : Nat) : (lowK l k).length = l.length := by simp [lowK, lowL]; omega
theorem lowK_get {l : List UInt8} {k : Nat} : (lowK l k).getD k 0 = l.getD k 0 := by
  unfold lowK
  rw [List.getD_eq_getElem?_getD, List.getD_eq_getElem?_getD]
  by_cases hk : k < l.length
  · rw [List.getElem?_append_right (by simp [lowL]; omega)]
    simp [lowL, Nat.min_eq_left (Nat.le_of_lt hk)]
  · rw [List.getElem?_eq_none (by simp [lowL]; omega), List.getElem?_eq_none (by omega)]
theorem lowK_set {l : List UInt8} {k : Nat} (hk : k < l.length) : (lowK l k).set k (lowC (l.getD k 0)) = lowK l (k + 1) := by
  unfold lowK
  have e1 : (lowL (l.take k)).length = k := by simp [lowL]; omega
  rw [List.set_append_right k _ (by omega), e1, Nat.sub_self, List.drop_eq_getElem_cons hk, List.set_cons_zero, List.take_succ_eq_append_getElem hk, lowL_append]
  simp [lowL, List.getD_eq_getElem?_getD, hk]

end Go.Proofs.YtlfhhnjdfpgadaaGreatDoor

/-
  The document's reader of lines, its small steps: an error that is kept, what comes next.
-/
namespace Go.Proofs.YtlfhhnjdfpgadaaGreatDoor
open Go.RowKit

/-- The first error is kept. -/
def keepE (e k : Int) : Int := if e = 0 then k else e
theorem keepE_zero (k : Int) : keepE 0 k = k := rfl
theorem keepE_ne {e : Int} (h : e ≠ 0) (k : Int) : keepE e k = e := by unfold keepE; rw [if_neg h]
theorem eoE_end {s : ByteArray} {p : Nat} (h : s.size ≤ p) : eoE (s.data.toList.drop p) = 11 := by
  unfold eoE
  rw [if_pos (by rw [List.drop_eq_nil_iff, ← bsize]; exact h)]
theorem eoE_on {s : ByteArray} {p : Nat} (h : ¬ s.size ≤ p) : eoE (s.data.toList.drop p) = 10 := by
  unfold eoE
  rw [if_neg (by rw [List.drop_eq_nil_iff, ← bsize]; exact h)]
theorem head_drop {s : ByteArray} {p : Nat} (h : p < s.size) : (s.data.toList.drop p).head? = some s[p] := by
  have h' : p < s.data.size := h
  rw [List.head?_drop, Array.getElem?_toList, Array.getElem?_eq_getElem h']; rfl
theorem head_none {s : ByteArray} {p : Nat} (h : ¬ p < s.size) : (s.data.toList.drop p).head? = none := by
  rw [List.head?_drop, Array.getElem?_toList, Array.getElem?_eq_none (by have : s.data.size = s.size := rfl; omega)]

/-- Whether a byte comes next, with no error. -/
def isV (s : ByteArray) (p : Nat) (e : Int) (c : UInt8) : Bool := decide (e = 0) && decide ((s.data.toList.drop p).head? = some c)
theorem isV_err {s : ByteArray} {p : Nat} {e : Int} (he : e ≠ 0) (c : UInt8) : isV s p e c = false := by unfold isV; simp [he]
theorem isV_end {s : ByteArray} {p : Nat} (hp : ¬ p < s.size) (e : Int) (c : UInt8) : isV s p e c = false := by unfold isV; rw [head_none hp]; simp
theorem isV_here {s : ByteArray} {p : Nat} (hp : p < s.size) (c : UInt8) : isV s p 0 c = decide (s[p] = c) := by
  unfold isV
  rw [head_drop hp]
  simp
theorem isV_iff {s : ByteArray} {p : Nat} {e : Int} {c : UInt8} : isV s p e c = true ↔ e = 0 ∧ (s.data.toList.drop p).head? = some c := by
  unfold isV
  simp
theorem isV_lt {s : ByteArray} {p : Nat} {e : Int} {c : UInt8} (h : isV s p e c = true) : e = 0 ∧ p < s.size := by
  have h2 := isV_iff.1 h
  refine ⟨h2.1, ?_⟩
  by_cases hp : p < s.size
  · exact hp
  · rw [head_none hp] at h2; cases h2.2

end Go.Proofs.YtlfhhnjdfpgadaaGreatDoor

/-
  The document's reader of lines: a name.
-/
namespace Go.Proofs.YtlfhhnjdfpgadaaGreatDoor
open Go.RowKit

/-- The bytes of a name at a place, how many. -/
def nlen (s : ByteArray) (p : Nat) : Nat := ((s.data.toList.drop p).takeWhile nbC).length
theorem nlen_le (s : ByteArray) (p : Nat) : nlen s p ≤ s.size - p := by
  have := takeWhile_len (p := nbC) (s.data.toList.drop p)
  rw [List.length_drop, ← bsize] at this
  exact this
theorem tw_get {f : UInt8 → Bool} : ∀ {l : List UInt8} {i : Nat} {c : UInt8}, l[i]? = some c → ((i < (l.takeWhile f).length → f c = true) ∧ (i = (l.takeWhile f).length → f c = false))
  | [], i, c, h => by simp at h
  | x :: l, 0, c, h => by
    simp only [List.getElem?_cons_zero, Option.some.injEq] at h
    subst h
    cases hx : f x
    · simp [hx]
    · simp [hx]
  | x :: l, i + 1, c, h => by
    simp only [List.getElem?_cons_succ] at h
    have ih := tw_get (f := f) h
    cases hx : f x
    · simp [hx]
    · simp only [List.takeWhile_cons, hx, if_true, List.length_cons]
      exact ⟨fun h => ih.1 (by omega), fun h => ih.2 (by omega)⟩
theorem drop_get {s : ByteArray} {p i : Nat} (h : p + i < s.size) : (s.data.toList.drop p)[i]? = some s[p + i] := by
  have h' : p + i < s.data.size := h
  rw [List.getElem?_drop, Array.getElem?_toList, Array.getElem?_eq_getElem h']; rfl
theorem nlen_in {s : ByteArray} {p i : Nat} (h : p + i < s.size) : (i < nlen s p → nbN s[p + i].toNat = true) ∧ (i = nlen s p → nbN s[p + i].toNat = false) := tw_get (f := nbC) (drop_get h)
theorem cut_take (s : ByteArray) (p q : Nat) : (s.extract p q).data.toList = (s.data.toList.drop p).take (q - p) := by
  rw [ByteArray.data_extract, Array.toList_extract, List.extract_eq_take_drop]
theorem tw_take {f : UInt8 → Bool} : ∀ (l : List UInt8), l.take (l.takeWhile f).length = l.takeWhile f
  | [] => rfl
  | x :: l => by
    cases hx : f x
    · simp [hx]
    · simp [hx, tw_take l]
/-- What a name's reading leaves. -/
def NameSays (s : ByteArray) (p : Nat) (e : Int) (n : ByteArray) (q : Nat) (e2 : Int) : Prop :=
  (e ≠ 0 → e2 = e) ∧ (e = 0 → (match rdName (s.data.toList.drop p) with | .ok a r => e2 = 0 ∧ n = ⟨a.toArray⟩ ∧ s.data.toList.drop q = r | .bad k => e2 = k))
theorem says_ok {s : ByteArray} {p k : Nat} (hk : k = p + nlen s p) (h0 : 0 < nlen s p) (h64 : nlen s p ≤ 64) : NameSays s p 0 ⟨(upL (s.extract p k).data.toList).toArray⟩ k 0 := by
  refine ⟨fun h => absurd rfl h, fun _ => ?_⟩
  have e : rdName (s.data.toList.drop p) = .ok (upL ((s.data.toList.drop p).takeWhile nbC)) ((s.data.toList.drop p).drop (nlen s p)) := by
    unfold rdName
    have h1 : ((s.data.toList.drop p).takeWhile nbC).length = nlen s p := rfl
    rw [if_neg (by omega), if_neg (by intro h; rw [h] at h1; simp at h1; omega)]
    rfl
  rw [e]
  refine ⟨rfl, ?_, by rw [List.drop_drop, hk]⟩
  rw [cut_take, hk, Nat.add_sub_cancel_left]
  unfold nlen
  rw [tw_take]
theorem says_none {s : ByteArray} {p : Nat} (h0 : nlen s p = 0) (n : ByteArray) : NameSays s p 0 n p (eoE (s.data.toList.drop p)) := by
  refine ⟨fun h => absurd rfl h, fun _ => ?_⟩
  have e : rdName (s.data.toList.drop p) = .bad (eoE (s.data.toList.drop p)) := by
    unfold rdName
    have h1 : ((s.data.toList.drop p).takeWhile nbC).length = nlen s p := rfl
    rw [if_neg (by omega), if_pos (List.eq_nil_of_length_eq_zero (by omega))]
  rw [e]
theorem says_long {s : ByteArray} {p : Nat} (h : 65 ≤ nlen s p) (n : ByteArray) (q : Nat) : NameSays s p 0 n q 12 := by
  refine ⟨fun h => absurd rfl h, fun _ => ?_⟩
  have e : rdName (s.data.toList.drop p) = .bad 12 := by
    unfold rdName
    have h1 : ((s.data.toList.drop p).takeWhile nbC).length = nlen s p := rfl
    rw [if_pos (by omega)]
  rw [e]
theorem says_err {s : ByteArray} {p : Nat} {e : Int} (h : e ≠ 0) (n : ByteArray) (q : Nat) : NameSays s p e n q e := ⟨fun _ => rfl, fun h2 => absurd h2 h⟩

/-- The same with a condition on the world, that draws and calls keep. -/
theorem region_heldL {P : Program} {id : Nat} {Q : Exit → Act → World → Prop} {a : Act} {w : World} {l : List Oper} {C : World → Prop} (hm : P.follows .mixedOrders = true) (hB : Region.lexB .any l.toArray = true) (hC : C w.drew)
    (h : wpQuiet P l.toArray C (fun a' => ∀ w', C w' → Q .normal a' w') l a) : (Code.region id l.toArray true).wp P Q a w :=
  wp_region_quiet (C := C) hm hB hC (by simpa using h)
theorem cell_keep {w w' : World} {p : Addr} {v : Value} (h : w.cell? p = some v) (hb : Below w.heap.size w w') : w'.cell? p = some v := by
  refine (hb.cell ?_).trans h
  unfold World.cell? at h
  by_cases h' : p.block < w.heap.size
  · exact h'
  · rw [Array.getElem?_eq_none (by simpa using h')] at h
    cases h
/-- A reader's text and place, and what lay before. -/
structure Hold2 (w1 : World) (g : Nat) (a b : Value) (w' : World) : Prop where
  c0 : w'.cell? ⟨g, 0, none⟩ = some a
  c1 : w'.cell? ⟨g, 1, none⟩ = some b
  below : Below w1.heap.size w1 w'
theorem keepR {w1 w2 w3 : World} {g : Nat} {a b : Value} (h : Hold2 w1 g a b w2) (hb : Below w2.heap.size w2 w3) : Hold2 w1 g a b w3 := ⟨cell_keep h.c0 hb, cell_keep h.c1 hb, bstep h.below hb⟩

end Go.Proofs.YtlfhhnjdfpgadaaGreatDoor

/-
  Properties, the same one by one.
-/
namespace Go.Proofs.YtlfhhnjdfpgadaaGreatDoor
open Go.RowKit

def proQ (q : QR) : Pro := proOf q.name q.ps q.vl
theorem rows_ne {α β : Type} [DecidableEq β] {f : α → β} {l l2 : List α} (h : l.length ≠ l2.length ∨ ∃ (i : Nat) (r q : α), l[i]? = some r ∧ l2[i]? = some q ∧ f r ≠ f q) : decide (l.map f = l2.map f) = false := by
  refine decide_eq_false fun e => ?_
  rcases h with h | ⟨i, r, q, h1, h2, h3⟩
  · have := congrArg List.length e
    simp only [List.length_map] at this
    exact h this
  · have := congrArg (·[i]?) e
    simp only [List.getElem?_map, h1, h2, Option.map_some, Option.some.injEq] at this
    exact h3 this
theorem map_ext {α β : Type} {f : α → β} {l l2 : List α} (h3 : l.length = l2.length) (h : ∀ (i : Nat) (r q : α), l[i]? = some r → l2[i]? = some q → f r = f q) : l.map f = l2.map f := by
  refine List.ext_getElem? fun i => ?_
  rw [List.getElem?_map, List.getElem?_map]
  by_cases hi : i < l.length
  · rw [List.getElem?_eq_getElem hi, List.getElem?_eq_getElem (by omega), Option.map_some, Option.map_some, h i _ _ (List.getElem?_eq_getElem hi) (List.getElem?_eq_getElem (by omega))]
  · rw [List.getElem?_eq_none (by omega), List.getElem?_eq_none (by omega)]

set_option maxRecDepth 100000 in
set_option maxHeartbeats 4000000 in
theorem rows_any (A A' : Option Addr) (n c m c' : Nat) (qs qs' : List QR) (w : World) (hR : Reads w w.heap.size 3 A n (enc3 fQ qs)) (hQ : ∀ q ∈ qs, QOk w w.heap.size q) (hR' : Reads w w.heap.size 3 A' m (enc3 fQ qs')) (hQ' : ∀ q ∈ qs', QOk w w.heap.size q)
    (hn : n ≤ 9223372036854775807) (hm : m ≤ 9223372036854775807) :
    Calls Tryz.prog 15 #[.slice A n c, .slice A' m c'] w fun e w' => e = .returned (.bool (decide (qs.map proQ = qs'.map proQ))) ∧ Below w.heap.size w w' := by
  have HL := Lib.hid (And.intro hR.len3 hR'.len3)
  have HJ := Lib.hid (And.intro (And.intro hR hQ) (And.intro (And.intro hR' hQ') (Below.refl w.heap.size w)))
  clear hR hQ hR' hQ'
  have hmx : Tryz.prog.follows .mixedOrders = true := by kernel_rfl
  obtain ⟨rb, hrb⟩ : ∃ rb, decide (qs.map proQ = qs'.map proQ) = rb := ⟨_, rfl⟩
  rw [hrb]
  have HRB := Lib.hid hrb
  clear hrb
  by_cases h3 : n = m
  · subst h3
    have ht : ((n : Int) != (n : Int)) = false := by simp
    go_enter Tryz.func15, Tryz.ntmps15
    go_wp2
    clear ht
    go_loopw [5] (fun s5 wr => ∃ i : Nat, s5 = .int .i64 i ∧ i ≤ n ∧ Hid ((Reads wr wr.heap.size 3 A n (enc3 fQ qs) ∧ ∀ q ∈ qs, QOk wr wr.heap.size q) ∧ (Reads wr wr.heap.size 3 A' n (enc3 fQ qs') ∧ ∀ q ∈ qs', QOk wr wr.heap.size q) ∧ Below w.heap.size w wr) ∧ Hid (∀ (k : Nat) (r q : QR), k < i → qs[k]? = some r → qs'[k]? = some q → proQ r = proQ q)) (fun s5 _ => n - (intOf s5).toNat)
    case atStart => exact ⟨0, rfl, Nat.zero_le _, HJ, Lib.hid fun k r q hk => absurd hk (Nat.not_lt_zero _)⟩
    case round =>
      clear HJ
      obtain ⟨i, rfl, hi, HJ, J⟩ := hrel
      by_cases hlt : i < n
      · obtain ⟨r, hr⟩ : ∃ r, qs[i]? = some r := ⟨qs[i]'(by have := HL.out.1; omega), List.getElem?_eq_getElem (by have := HL.out.1; omega)⟩
        obtain ⟨q, hq⟩ : ∃ q, qs'[i]? = some q := ⟨qs'[i]'(by have := HL.out.2; omega), List.getElem?_eq_getElem (by have := HL.out.2; omega)⟩
        obtain ⟨b, o, hAe, _, p0, p1, p2⟩ := HJ.out.1.1.tri hr
        obtain ⟨b2, o2, hAe2, _, q0, q1, q2⟩ := HJ.out.2.1.1.tri hq
        have HP1 := Lib.hid (HJ.out.1.2 r (List.mem_of_getElem? hr))
        have HP2 := Lib.hid (HJ.out.2.1.2 q (List.mem_of_getElem? hq))
        have HR := Lib.hid hr
        have HQ := Lib.hid hq
        have P0 := Lib.hid (And.intro p0 (And.intro p1 p2))
        have Q0 := Lib.hid (And.intro q0 (And.intro q1 q2))
        clear hr hq
        subst hAe hAe2
        go_wp2_with fail
        obtain ⟨sb, hsb⟩ : ∃ sb, decide (proQ r = proQ q) = sb := ⟨_, rfl⟩
        have HSB := Lib.hid hsb
        have cs := fun (w5 : World) (hw5 : Below wr.heap.size wr w5) => refSame11_any r.name r.vl q.name q.vl r.L q.L r.n r.c q.n q.c r.ps q.ps w5 (HP1.out.step hw5).rd (HP1.out.step hw5).vs (HP1.out.step hw5).le (HP1.out.step hw5).cap (HP2.out.step hw5).rd (HP2.out.step hw5).vs (HP2.out.step hw5).le (HP2.out.step hw5).cap
        have hsb2 : decide (proOf r.name r.ps r.vl = proOf q.name q.ps q.vl) = sb := hsb
        simp only [hsb2] at cs
        have CS := Lib.hid cs
        clear cs hsb hsb2 p0 p1 p2 q0 q1 q2
        refine region_heldL (C := fun w5 => Below wr.heap.size wr w5) hmx (by kernel_rfl) ((Below.refl _ _).drew) ?_
        repeat (first
          | go_big_quiet_skip
          | (go_big_quiet_want; go_big_quiet_op; first
              | go_big_quiet_on
              | (refine ⟨_, fun _ _ => rfl, ?_⟩; go_big_quiet_on)
              | (apply Exists.intro
                 refine ⟨fun w5 hw5 => ?_, ?_⟩
                 · have z0 := cell_keep P0.out.1 hw5
                   have z1 := cell_keep P0.out.2.1 hw5
                   have z2 := cell_keep P0.out.2.2 hw5
                   simp only [fQ] at z0 z1 z2
                   simp only [z0, z1, z2, Result.andThen_ok]
                   first | exact ⟨trivial, rfl⟩ | exact ⟨rfl, rfl⟩
                 go_big_quiet_on)
              | (apply Exists.intro
                 refine ⟨fun w5 hw5 => ?_, ?_⟩
                 · have z0 := cell_keep Q0.out.1 hw5
                   have z1 := cell_keep Q0.out.2.1 hw5
                   have z2 := cell_keep Q0.out.2.2 hw5
                   simp only [fQ] at z0 z1 z2
                   simp only [z0, z1, z2, Result.andThen_ok]
                   first | exact ⟨trivial, rfl⟩ | exact ⟨rfl, rfl⟩
                 go_big_quiet_on)
              | (apply Exists.intro
                 refine ⟨fun w5 hw5 => ?_, ?_⟩
                 · (with_reducible refine (CS.out w5 hw5).mono ?_); rintro e w6 ⟨rfl, hbx⟩; exact ⟨rfl, bstep hw5 hbx⟩
                 go_big_quiet_on)))
        refine wpQuiet_nil ?_
        intro w7 hw7
        cases sb
        · have E : Hid (rb = false) := Lib.hid (HRB.out.symm.trans (rows_ne (.inr ⟨i, r, q, HR.out, HQ.out, of_decide_eq_false HSB.out⟩)))
          go_wp2
          go_ret
          exact ⟨by rw [E.out]; rfl, bstep HJ.out.2.2 hw7⟩
        · have J2 : Hid (∀ (k : Nat) (r q : QR), k < i + 1 → qs[k]? = some r → qs'[k]? = some q → proQ r = proQ q) := Lib.hid fun k r' q' hk h1 h2 => by
            by_cases e : k = i
            · subst e
              have a1 := Option.some.inj (HR.out.symm.trans h1)
              have a2 := Option.some.inj (HQ.out.symm.trans h2)
              subst a1 a2
              exact of_decide_eq_true HSB.out
            · exact J.out k r' q' (by omega) h1 h2
          have HJ2 := Lib.hid (And.intro (And.intro (HJ.out.1.1.step hw7) (fun q hq => (HJ.out.1.2 q hq).step hw7)) (And.intro (And.intro (HJ.out.2.1.1.step hw7) (fun q hq => (HJ.out.2.1.2 q hq).step hw7)) (bstep HJ.out.2.2 hw7)))
          clear hw7 HJ
          go_wp2
          go_round
          case rel => exact ⟨i + 1, by go_num, by omega, HJ2, J2⟩
          case measure => simp [intOf]; omega
      · obtain rfl : i = n := by omega
        have E : Hid (rb = true) := Lib.hid (HRB.out.symm.trans (decide_eq_true (map_ext (by rw [HL.out.1, HL.out.2]) (fun k r q h1 h2 => J.out k r q (by have := (List.getElem?_eq_some_iff.1 h1).1; have := HL.out.1; omega) h1 h2))))
        go_wp2
        go_ret
        exact ⟨by rw [E.out]; rfl, HJ.out.2.2⟩
  · have E : Hid (rb = false) := Lib.hid (HRB.out.symm.trans (rows_ne (.inl (by rw [HL.out.1, HL.out.2]; exact h3))))
    have ht : ((n : Int) != (m : Int)) = true := by simp only [bne_iff_ne, ne_eq]; omega
    clear h3
    go_enter Tryz.func15, Tryz.ntmps15
    go_wp2
    go_ret
    exact ⟨by rw [E.out]; rfl, Below.refl _ _⟩

end Go.Proofs.YtlfhhnjdfpgadaaGreatDoor
