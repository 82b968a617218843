/-
  The program's functions of layer 11: strings.ContainsAny at the marks, at any text; values as they are written; names.
-/
import Derived.Test.YtipmeooldopkmaaDoorL17
import Derived.Test.YtipmeooldopkmaaDoorL07
import Derived.Test.YtipmeooldopkmaaDoorL13
import Derived.Lib.OthersKept
namespace Go.Proofs.YtipmeooldopkmaaDoor
open Go.RowKit

theorem sep_any (l : List UInt8) : hasSep l = l.any fun c => mkN c.toNat := rfl
theorem sep_ix : ∀ l : List UInt8, decide (0 ≤ Lib.indexAny l [44, 59, 58]) = hasSep l
  | [] => rfl
  | b :: l => by
    have ih := sep_ix l
    have hb : ([44, 59, 58] : List UInt8).contains b = mkN b.toNat := by
      have : ∀ x : Fin 256, ([44, 59, 58] : List UInt8).contains (UInt8.ofNat x.val) = mkN x.val := by decide +kernel
      have h2 := this ⟨b.toNat, b.toNat_lt⟩
      simpa using h2
    unfold Lib.indexAny
    rw [hb, sep_any, List.any_cons]
    rw [sep_any] at ih
    cases mkN b.toNat
    · rw [if_neg (by decide), Bool.false_or, ← ih]
      have hge := Lib.indexAny_ge [44, 59, 58] l
      by_cases h : Lib.indexAny l [44, 59, 58] = -1
      · rw [h]; rfl
      · have hne : (Lib.indexAny l [44, 59, 58] == -1) = false := by simpa using h
        rw [hne, if_neg (by decide), decide_eq_true (show (0 : Int) ≤ Lib.indexAny l [44, 59, 58] + 1 by omega), decide_eq_true (show (0 : Int) ≤ Lib.indexAny l [44, 59, 58] by omega)]
    · rfl
theorem rune_conts (l : List UInt8) (i : Nat) (h0 : 0 < i) (h : i < runeL l) : 128 ≤ byt l i := by
  unfold runeL at h
  simp only [cont_iff] at h
  repeat' split at h
  all_goals first
    | omega
    | (obtain rfl | rfl | rfl : i = 1 ∨ i = 2 ∨ i = 3 := by omega
       all_goals first | omega | (rename_i hc; omega))
theorem sep_step (l : List UInt8) (h : 128 ≤ byt l 0) : hasSep l = hasSep (l.drop (stepL l)) := by
  have e : l.take (stepL l) ++ l.drop (stepL l) = l := List.take_append_drop _ _
  conv => lhs; rw [← e]
  rw [sep_any, sep_any, List.any_append]
  have : (l.take (stepL l)).any (fun c => mkN c.toNat) = false := by
    rw [List.any_eq_false]
    intro c hc
    obtain ⟨i, hi, rfl⟩ := List.getElem_of_mem hc
    have hi2 : i < stepL l := by have := hi; rw [List.length_take] at this; omega
    have hil : i < l.length := by have := hi; rw [List.length_take] at this; omega
    have hb : 128 ≤ byt l i := by
      by_cases h0 : i = 0
      · rw [h0]; exact h
      · exact rune_conts l i (by omega) (by unfold stepL at hi2; omega)
    rw [List.getElem_take]
    unfold byt at hb
    rw [List.getD_eq_getElem?_getD, List.getElem?_eq_getElem hil] at hb
    simp only [Option.getD_some] at hb
    unfold mkN
    simp only [Bool.or_eq_true, decide_eq_true_eq]
    omega
  rw [this, Bool.false_or]
theorem asciiZero (w : World) : (zeroValue 107).run Tryd.prog w = .ok (.agg (Array.replicate 256 (.bool false))) w :=
  (zero_of_info (show (Tryd.prog.info? 107).map (fun i => (i.zero, i.size)) = some (some (.agg (Array.replicate 256 (.bool false))), 256) by kernel_rfl)).1 w

set_option maxRecDepth 1000000 in
set_option maxHeartbeats 4000000 in
theorem idxAny_short (v : ByteArray) (h8 : v.size ≤ 8) (w : World) :
    Calls Tryd.prog 88 #[.string v, .string ⟨#[44, 59, 58]⟩] w fun e w' => (∃ z : Int, e = .returned (.int .i64 z) ∧ decide (0 ≤ z) = hasSep v.data.toList) ∧ Below w.heap.size w w' := by
  have hemp : (⟨#[44, 59, 58]⟩ : ByteArray).toList.isEmpty = false := by rw [Lib.toList_data]; rfl
  have h8z : decide ((8 : Int) < (v.size : Int)) = false := decide_eq_false (by omega)
  have hlen := Lib.hid (bsize v)
  have cu := fun W => Tryd.strings_shouldUseASCIISet (v.size : Int) W
  rw [h8z] at cu
  go_enter Tryd.func88, Tryd.ntmps88
  go_wp2_with (go_at_call 96; ((with_reducible refine (cu _).mono ?_); rintro e w' ⟨rfl, hw⟩; subst w'))
  clear cu
  go_loopg [] v.size (fun g wx => ∃ pos : Nat, pos ≤ v.size ∧ v.size ≤ pos + g ∧ Hid (wx.heap[w.heap.size]? = some (.stringIter v pos)) ∧ Hid (Below w.heap.size w wx) ∧ Hid (hasSep v.data.toList = hasSep (v.data.toList.drop pos)))
  case atStart => exact ⟨0, by omega, by omega, Lib.hid (World.iter_heap w v 0), Lib.hid (below_iter _ _ _), Lib.hid (by simp)⟩
  case round =>
    obtain ⟨pos, hp, hg, HI, HB, HS⟩ := hrel
    by_cases hlt : pos < v.size
    · have hne : v.data.toList.drop pos ≠ [] := by
        intro h; have := congrArg List.length h; rw [List.length_drop, ← hlen.out] at this; simp at this; omega
      have hwd := dec_step v pos
      have hp1 := stepL_pos (v.data.toList.drop pos)
      have hp2 := stepL_le hne
      rw [List.length_drop, ← hlen.out] at hp2
      have hb0 : byt (v.data.toList.drop pos) 0 = byt v.data.toList pos := by rw [byt_drop2]; rfl
      have hnx := fun ty => Lib.run_next_any_at (P := Tryd.prog) wr w.heap.size v pos ty HI.out hlt
      by_cases ha : byt v.data.toList pos < 128
      · have hd := dec_asc v pos ha
        rw [hd] at hnx hwd
        have hs1 : stepL (v.data.toList.drop pos) = 1 := hwd.symm
        have HI2 := Lib.hid (Lib.iterAt_heap wr w.heap.size v pos (pos + 1) HI.out)
        have HB2 := Lib.hid (Lib.below_iterAt HB.out (k := w.heap.size) (Nat.le_refl _) v (pos + 1))
        have hcons : v.data.toList.drop pos = v[pos] :: v.data.toList.drop (pos + 1) := by
          rw [List.drop_eq_getElem_cons (by rw [← hlen.out]; exact hlt)]; rfl
        have hbx : byt v.data.toList pos = v[pos].toNat := by rw [← hb0, hcons]; rfl
        have HS2 := HS.out
        rw [hcons, sep_any (_ :: _), List.any_cons, ← hbx, ← sep_any] at HS2
        have hm := (marks_ix (byt v.data.toList pos) (by omega)).2
        have ci := fun W => Tryd.strings_IndexRune_ascii ⟨#[44, 59, 58]⟩ (byt v.data.toList pos : Int) W (by omega) (by omega)
        rw [show ((byt v.data.toList pos : Nat) : Int).toNat.toUInt8 = UInt8.ofNat (byt v.data.toList pos) from by simp, show (⟨#[44, 59, 58]⟩ : ByteArray).data.toList = [44, 59, 58] from rfl] at ci
        clear hd hwd hs1 hcons hbx hb0 hp1 hp2 hne HS HI HB
        generalize byt v.data.toList pos = b at *
        generalize wr.iterAt w.heap.size v (pos + 1) = w2 at *
        generalize Lib.indexByte [44, 59, 58] (UInt8.ofNat b) = ix at *
        cases hk : mkN b
        · rw [hk] at hm HS2
          rw [Bool.false_or] at HS2
          have HS3 := Lib.hid HS2
          clear HS2 hk
          go_wp2_with (go_at_call 95; ((with_reducible refine (ci _).mono ?_); rintro e w' ⟨rfl, hw⟩; subst w'))
          go_roundg (v.size - (pos + 1))
          case measure => omega
          case rel => exact ⟨pos + 1, by omega, by omega, HI2, HB2, HS3⟩
        · rw [hk] at hm HS2
          rw [Bool.true_or] at HS2
          have HS3 := Lib.hid HS2
          clear HS2 hk
          go_wp2_with (go_at_call 95; ((with_reducible refine (ci _).mono ?_); rintro e w' ⟨rfl, hw⟩; subst w'))
          go_ret
          exact ⟨⟨pos, rfl, by rw [HS3.out]; exact decide_eq_true (by omega)⟩, HB2.out⟩
      · have hr1 := (dec_high v pos (by omega)).1
        have hr2 := dec_valid v pos (by omega)
        have HS2 := HS.out
        rw [sep_step (v.data.toList.drop pos) (by rw [hb0]; omega), List.drop_drop] at HS2
        rw [hwd] at hnx
        have HI2 := Lib.iterAt_heap wr w.heap.size v pos (pos + stepL (v.data.toList.drop pos)) HI.out
        have HB2 := Lib.below_iterAt HB.out (k := w.heap.size) (Nat.le_refl _) v (pos + stepL (v.data.toList.drop pos))
        have ci := fun W => idxRune_high (Utf8.decode v pos).1 hr1 hr2 W
        have HS3 := Lib.hid HS2
        clear HS2 HS HI HB hwd hb0 ha hne hr1 hr2
        generalize stepL (v.data.toList.drop pos) = k at *
        generalize (Utf8.decode v pos).1 = r at *
        have HI3 := Lib.hid HI2
        have HB3 := Lib.hid HB2
        clear HI2 HB2
        generalize wr.iterAt w.heap.size v (pos + k) = w2 at *
        go_wp2_with fail
        refine (ci _).mono ?_
        rintro e w3 ⟨rfl, hb3⟩
        have hsz : w.heap.size < w2.heap.size := (Array.getElem?_eq_some_iff.1 HI3.out).1
        have HI4 := Lib.hid ((hb3.block _ hsz).trans HI3.out)
        have HB4 := Lib.hid (bstep HB3.out hb3)
        clear hb3 hsz
        go_wp2
        go_roundg (v.size - (pos + k))
        case measure => omega
        case rel => exact ⟨pos + k, by omega, by omega, HI4, HB4, HS3⟩
    · have hnx := fun ty => Lib.run_next_end_at (P := Tryd.prog) wr w.heap.size v pos ty HI.out hlt
      have HE : Hid (hasSep v.data.toList = false) := Lib.hid (by rw [HS.out, List.drop_eq_nil_of_le (by rw [← hlen.out]; omega)]; rfl)
      go_wp2
      go_ret
      exact ⟨⟨-1, rfl, by rw [HE.out]; rfl⟩, HB.out⟩
set_option maxRecDepth 100000 in
set_option maxHeartbeats 2000000 in
theorem hasAny_any (v : ByteArray) (hs : v.size ≤ 16777216) (w : World) :
    Calls Tryd.prog 77 #[.string v, .string ⟨#[44, 59, 58]⟩] w fun e w' => e = .returned (.bool (hasSep v.data.toList)) ∧ Below w.heap.size w w' := by
  have c : Calls Tryd.prog 88 #[.string v, .string ⟨#[44, 59, 58]⟩] w fun e w' => (∃ z : Int, e = .returned (.int .i64 z) ∧ decide (0 ≤ z) = hasSep v.data.toList) ∧ Below w.heap.size w w' := by
    by_cases h8 : v.size ≤ 8
    · exact idxAny_short v h8 w
    · refine (Tryd.strings_IndexAny_long asciiZero v ⟨#[44, 59, 58]⟩ w (by decide) (by omega) (by omega) (by decide) (fun j b h => ?_)).mono fun e w' h => ⟨⟨_, h.1, sep_ix _⟩, ?_⟩
      · have hm := List.mem_of_getElem? h
        simp at hm
        rcases hm with rfl | rfl | rfl <;> decide
      · rw [h.2]
        exact ((Below.refl _ _).alloc (Nat.le_refl _) _).alloc (by simp) _
  generalize hasSep v.data.toList = q at *
  go_enter Tryd.func77, Tryd.ntmps77
  go_wp2_with fail
  refine c.mono ?_
  rintro e w' ⟨⟨z, rfl, hz⟩, hb⟩
  have HB := Lib.hid hb
  clear c hb
  go_wp2
  go_ret
  exact ⟨rfl, HB.out⟩
set_option maxHeartbeats 1000000 in
theorem quoted_any (v : ByteArray) (hs : v.size ≤ 16777216) (w : World) :
    Calls Tryd.prog 61 #[.string v] w fun e w' => e = .returned (.string ⟨(quoteL v.data.toList).toArray⟩) ∧ Below w.heap.size w w' := by
  have c := hasAny_any v hs w
  cases hq : hasSep v.data.toList
  · have E := Lib.hid (show quoteL v.data.toList = v.data.toList by unfold quoteL; rw [hq]; rfl)
    rw [hq] at c
    go_enter Tryd.func61, Tryd.ntmps61
    go_wp2_with fail
    refine c.mono ?_
    rintro e w' ⟨rfl, hb⟩
    go_wp2
    go_ret
    exact ⟨by rw [E.out, mk_toList]; rfl, hb⟩
  · have E := Lib.hid (show quoteL v.data.toList = 34 :: (v.data.toList ++ [34]) by unfold quoteL; rw [hq]; rfl)
    rw [hq] at c
    go_enter Tryd.func61, Tryd.ntmps61
    go_wp2_with fail
    refine c.mono ?_
    rintro e w' ⟨rfl, hb⟩
    go_wp2
    go_ret
    refine ⟨?_, hb⟩
    rw [E.out]
    congr 2
theorem gr_name (l : List UInt8) : (l.all fun c => grN c.toNat) = (l.all nbC && decide (upL l = l)) := by
  induction l with
  | nil => rfl
  | cons c l ih =>
    have hc : grN c.toNat = (nbC c && decide (upC c = c)) := by
      have : ∀ x : Fin 256, grN (UInt8.ofNat x.val).toNat = (nbC (UInt8.ofNat x.val) && decide (upC (UInt8.ofNat x.val) = UInt8.ofNat x.val)) := by decide +kernel
      have h2 := this ⟨c.toNat, c.toNat_lt⟩
      simpa using h2
    rw [List.all_cons, List.all_cons, ih, hc]
    unfold upL
    simp only [List.map_cons, List.cons.injEq]
    rw [Bool.decide_and]
    cases nbC c <;> cases decide (upC c = c) <;> simp
set_option maxRecDepth 100000 in
set_option maxHeartbeats 1000000 in
theorem isName_any (s : ByteArray) (hs : s.size ≤ 16777216) (w : World) :
    Calls Tryd.prog 37 #[.string s] w fun e w' => e = .returned (.bool (nameB s.data.toList)) ∧ w' = w := by
  have hlen := bsize s
  have eg : ∀ args W, (callFunc 60 args).run Tryd.prog W = .ok (.enter 60 args) W := enters_of Tryd.func60 (by kernel_rfl) rfl
  have c := fun W => hasOnly_any 60 (fun c => grN c.toNat) eg (fun c W => pGreat_any c.toNat c.toNat_lt W) s hs W
  have E : nameB s.data.toList = ((decide (0 < s.size) && decide (s.size ≤ 64)) && s.data.toList.all fun c => grN c.toNat) := by
    rw [gr_name]
    unfold nameB
    rw [show decide (s.data.toList ≠ []) = decide (0 < s.size) from decide_eq_decide.2 (by rw [hlen]; exact (List.length_pos_iff (l := s.data.toList)).symm), ← hlen]
    cases decide (0 < s.size) <;> cases decide (s.size ≤ 64) <;> cases s.data.toList.all nbC <;> simp
  generalize (s.data.toList.all fun c => grN c.toNat) = q at *
  rw [E]
  clear E hlen eg
  by_cases h1 : 0 < s.size
  · by_cases h2 : s.size ≤ 64
    · cases q
      all_goals
        (go_enter Tryd.func37, Tryd.ntmps37
         go_wp2_with (go_at_call 38; ((with_reducible refine (c _).mono ?_); rintro e w' ⟨rfl, hw⟩; subst w'))
         go_ret
         refine ⟨?_, rfl⟩
         simp [h1, h2])
    · go_enter Tryd.func37, Tryd.ntmps37
      go_wp2
      go_ret
      refine ⟨?_, rfl⟩
      simp []
  · have h0 : s.size = 0 := by omega
    go_enter Tryd.func37, Tryd.ntmps37
    go_wp2
    go_ret
    refine ⟨?_, rfl⟩
    first | done | simp [h0]
end Go.Proofs.YtipmeooldopkmaaDoor

/-
  The program's functions of layer 11: a property as it is written, by a strings.Builder.
-/
namespace Go.Proofs.YtipmeooldopkmaaDoor
open Go.RowKit Go.Shelf

/-- A Builder at the block b holds l; its rows lie at B or behind. -/
abbrev IsBw (B b : Nat) (l : List UInt8) (W : World) : Prop := Lib.IsBuilderF 67 5 B b (Lib.byteCells l) W
theorem isBw_below {B b : Nat} {l : List UInt8} {W W' : World} (h : IsBw B b l W) (hbl : Below W.heap.size W W') : IsBw B b l W' := by
  have hk : ∀ (k : Nat) (o : Obj), W.heap[k]? = some o → W'.heap[k]? = some o := fun k _o hk => (hbl.block k (Array.getElem?_eq_some_iff.1 hk).1).trans hk
  have key : ∀ p, Lib.BuilderAtF 67 5 B b p (Lib.byteCells l) W → Lib.BuilderAtF 67 5 B b p (Lib.byteCells l) W' := by
    rintro p ⟨hB, v, hb, ho, hne⟩
    refine ⟨hB, v, hk _ _ hb, ⟨ho.1, ?_⟩, hne⟩
    rcases ho.2 with h0 | ⟨g, cap, cur, fz, e, h1, h2, h3⟩
    · exact .inl h0
    · exact .inr ⟨g, cap, cur, fz, e, h1, hk _ _ h2, h3⟩
  exact h.elim (fun x => .inl (key _ x)) (fun x => .inr (key _ x))
theorem isBw_new (w : World) : IsBw w.heap.size w.heap.size [] (w.alloc (.cells #[.pointer none, .slice none 0 0] 67)) := Lib.IsBuilderF.of (Lib.fresh_isBuilder 67 5 w)
theorem wrS {B b : Nat} {acc : List UInt8} {w : World} (s : ByteArray) (h : IsBw B b acc w) (hl : acc.length + s.size ≤ 140737488355328) (hB : B ≤ w.heap.size) :
    Calls Tryd.prog 48 #[.pointer (some ⟨b, 0, none⟩), .string s] w fun e w' => e = .returned (.tuple #[.int .i64 s.size, .nilIface]) ∧ IsBw B b (acc ++ s.data.toList) w' ∧ Below B w w' ∧ Lib.OthersKept 5 (some b) w w' :=
  (Tryd.Builder_WriteString_k B b _ s w h (by rw [Lib.byteCells_length]; exact hl) hB).mono fun e w' ⟨h1, h2, h3, h4⟩ => ⟨h1, by
    show Lib.IsBuilderF _ _ _ _ _ _
    rw [Lib.byteCells_append, ← Lib.strCells_eq]
    exact Or.inr h2, h3, h4⟩
/-- While a property is written: the Builder, the property's variable. -/
structure Wr (nm vl : ByteArray) (L : Option Addr) (n c : Nat) (w wr : World) (acc : List UInt8) : Prop where
  isB : IsBw (w.heap.size + 1) (w.heap.size + 1) acc wr
  px : P3 wr w.heap.size nm vl L n c
  bel : Below w.heap.size w wr
  sz : w.heap.size + 1 < wr.heap.size
section
variable {nm vl : ByteArray} {L : Option Addr} {n c : Nat} {w wr w' : World} {acc acc' : List UInt8}
theorem Wr.below (h : Wr nm vl L n c w wr acc) (hb : Below wr.heap.size wr w') : Wr nm vl L n c w w' acc :=
  ⟨isBw_below h.isB hb, h.px.step hb, bstep h.bel hb, by have := hb.size; have := h.sz; omega⟩
theorem Wr.write (h : Wr nm vl L n c w wr acc) (hI : IsBw (w.heap.size + 1) (w.heap.size + 1) acc' w') (hb : Below (w.heap.size + 1) wr w') (hk : Lib.OthersKept 5 (some (w.heap.size + 1)) wr w') : Wr nm vl L n c w w' acc' :=
  ⟨hI, hk _ _ h.px (by simp) (fun c fz e => by injection e with _ e _; exact absurd e (by decide)), h.bel.trans (hb.mono (by omega)), by have := hb.size; have := h.sz; omega⟩
theorem X2.kept {g b : Nat} {r : PR} (h : X2 wr g r) (hk : Lib.OthersKept 5 (some b) wr w') (hne : g ≠ b) : X2 w' g r := hk _ _ h (by simpa using hne) (fun c fz e => by injection e with _ e _; exact absurd e (by decide))
end
/-- What stands behind a parameter's name, with the first k values. -/
def midK (r : PR) (k : Nat) : List UInt8 := if k = 0 then [] else 61 :: valsK r k
def btwK (k : Nat) : List UInt8 := if k = 0 then [61] else [44]
theorem midK_step {r : PR} {k : Nat} {v : ByteArray} (h : r.vs[k]? = some v) : midK r (k + 1) = midK r k ++ (btwK k ++ quoteL v.data.toList) := by
  unfold midK btwK
  rw [if_neg (by omega), valsK_step h]
  by_cases h0 : k = 0
  · rw [if_pos h0, if_pos h0, if_pos h0, h0, valsK_zero]; rfl
  · rw [if_neg h0, if_neg h0, if_neg h0]; rfl
theorem midK_len (r : PR) (k : Nat) : (midK r k).length ≤ 3 * vsize r.vs + 1 := by
  unfold midK
  have := valsK_len r k
  split
  · simp
  · simp; omega

set_option maxRecDepth 100000 in
set_option maxHeartbeats 8000000 in
theorem written_any (nm vl : ByteArray) (L : Option Addr) (n c : Nat) (l : List PR) (w : World) (hR : Reads w w.heap.size 2 L n (encP l)) (hP : ∀ r ∈ l, POk w w.heap.size r) (hn : n ≤ c) (hc : c ≤ maxLen) (hsz : nm.size + psizes l + vl.size ≤ 1048576) (hne : ∀ r ∈ l, r.vs ≠ []) :
    Calls Tryd.prog 41 #[.agg #[.string nm, .slice L n c, .string vl]] w fun e w' => e = .returned (.string ⟨(textL (proOf nm l vl)).toArray⟩) ∧ Below w.heap.size w w' := by
  have HR := Lib.hid hR
  have HP := Lib.hid hP
  have HNE := Lib.hid hne
  have hnm : n ≤ 9223372036854775807 := by have := hc; unfold maxLen at this; omega
  have HL : Hid (l.length = n) := Lib.hid (by have := hR.1; rw [encP_length] at this; omega)
  have HPL : Hid (∀ i, (preL nm l i).length ≤ 5242880) := Lib.hid fun i => by have := preL_len nm l i; omega
  have HPS : Hid (∀ r, r ∈ l → (∀ k, (midK r k).length ≤ 3145729) ∧ r.name.size ≤ 1048576 ∧ ∀ v ∈ r.vs, v.size ≤ 1048576) := Lib.hid fun r hr => by
    have h1 := psize_le hr
    unfold psize at h1
    refine ⟨fun k => by have := midK_len r k; omega, by omega, fun v hv => ?_⟩
    have : v.size + 1 ≤ vsize r.vs := vsize_le hv
    omega
  have hvl : vl.size ≤ 1048576 := by omega
  have hnl : nm.size ≤ 1048576 := by omega
  have hb1 : Below w.heap.size w (w.alloc (.cells #[.string nm, .slice L n c, .string vl] 24)) := (Below.refl _ w).alloc (Nat.le_refl _) _
  have hI0 := isBw_new (w.alloc (.cells #[.string nm, .slice L n c, .string vl] 24))
  rw [World.size_alloc] at hI0
  have hb2 := (Below.refl _ (w.alloc (.cells #[.string nm, .slice L n c, .string vl] 24))).alloc (Nat.le_refl _) (.cells #[.pointer none, .slice none 0 0] 67)
  have W0 : Hid (Wr nm vl L n c w ((w.alloc (.cells #[.string nm, .slice L n c, .string vl] 24)).alloc (.cells #[.pointer none, .slice none 0 0] 67)) []) := Lib.hid ⟨hI0, (P3.new w nm vl L n c).step hb2, bstep hb1 hb2, by simp⟩
  clear hR hP hn hc hsz hne hb1 hb2 hI0
  go_enter Tryd.func41, Tryd.ntmps41
  go_wp2_with fail
  refine (wrS nm W0.out.isB (by simp; omega) (by have := W0.out.sz; omega)).mono ?_
  rintro e w2 ⟨rfl, hI, hb, hk⟩
  have W1 := Lib.hid (W0.out.write hI hb hk)
  rw [List.nil_append] at W1
  clear W0 hI hb hk
  obtain ⟨x0, x1, x2⟩ := W1.out.px.cells
  go_wp2
  clear x0 x1 x2
  go_loopg [15] n (fun g s4 wr => ∃ i : Nat, s4 = .int .i64 i ∧ i ≤ n ∧ n - i ≤ g ∧ Hid (Wr nm vl L n c w wr (preL nm l i)))
  case atStart => exact ⟨0, rfl, Nat.zero_le _, by omega, Lib.hid (by rw [preL_zero]; exact W1.out)⟩
  case round =>
    clear W1
    obtain ⟨i, rfl, hi, hg, W2⟩ := hrel
    by_cases hlt : i < n
    · obtain ⟨r, hr⟩ : ∃ r, l[i]? = some r := ⟨l[i]'(by have := HL.out; omega), List.getElem?_eq_getElem (by have := HL.out; omega)⟩
      obtain ⟨b, o, rfl, _, q0, q1⟩ := (HR.out.step W2.out.bel).par hr
      have hmem := List.mem_of_getElem? hr
      have HPO := Lib.hid ((HP.out r hmem).step W2.out.bel)
      obtain ⟨hvk, hrn, hvv⟩ := HPS.out r hmem
      have HVK := Lib.hid hvk
      have HVV := Lib.hid hvv
      have HST := Lib.hid (preL_step (nm := nm) hr)
      have HKL := Lib.hid HPO.out.len
      have hkm : r.k ≤ 9223372036854775807 := by have := HPO.out.le; have := HPO.out.cap; unfold maxLen at this; omega
      have HK0 : Hid (r.k ≠ 0) := Lib.hid (by
        intro h0
        have := HNE.out r hmem
        exact this (List.eq_nil_of_length_eq_zero (by rw [HKL.out]; exact h0)))
      have hs0 := HPL.out i
      have hba : Below wr.heap.size wr (wr.alloc (.cells #[.string r.name, .slice r.K r.k r.kc] 57)) := (Below.refl _ wr).alloc (Nat.le_refl _) _
      have W3 := Lib.hid (W2.out.below hba)
      have HX3 := Lib.hid (X2.new wr r)
      have HPO3 := Lib.hid (HPO.out.step hba)
      have HXN : Hid (wr.heap.size ≠ w.heap.size + 1) := Lib.hid (by have := W2.out.sz; omega)
      have HM := Lib.hid hmem
      clear hr hmem hvk hvv hba HPO W2
      have no1 : ¬ 9223372036854775807 < (⟨#[59]⟩ : ByteArray).size + r.name.size := by rw [show (⟨#[59]⟩ : ByteArray).size = 1 from rfl]; omega
      go_wp2_with fail
      refine (wrS ((⟨#[59]⟩ : ByteArray) ++ r.name) W3.out.isB (by rw [ByteArray.size_append, show (⟨#[59]⟩ : ByteArray).size = 1 from rfl]; omega) (by have := W3.out.sz; omega)).mono ?_
      rintro e w4 ⟨rfl, hI, hb, hk⟩
      have W4 := W3.out.write hI hb hk
      rw [show ((⟨#[59]⟩ : ByteArray) ++ r.name).data.toList = 59 :: r.name.data.toList from by simp] at W4
      have HX4 := Lib.hid (HX3.out.kept hk HXN.out)
      have W5 := Lib.hid W4
      generalize hpx : wr.heap.size = X at *
      clear W3 W4 HX3 hI hb hk no1 q0 q1 hpx
      obtain ⟨z0, z1⟩ := HX4.out.cells
      obtain ⟨rK, hrK⟩ : ∃ rK, r.K = rK := ⟨_, rfl⟩
      rw [hrK] at z1
      have HRK := Lib.hid hrK
      clear hrK
      go_wp2
      clear z0 z1
      go_loopg [6, 26] r.k (fun g2 s6 s5 wr2 => ∃ (k : Nat) (bt : ByteArray), s6 = .string bt ∧ s5 = .int .i64 k ∧ k ≤ r.k ∧ r.k - k ≤ g2 ∧ bt.size = 1 ∧ Hid (bt.data.toList = btwK k) ∧ Hid (Wr nm vl (some ⟨b, o, none⟩) n c w wr2 (preL nm l i ++ (59 :: r.name.data.toList ++ midK r k))))
      case atStart => exact ⟨0, ⟨#[61]⟩, rfl, rfl, Nat.zero_le _, by omega, rfl, Lib.hid rfl, Lib.hid (by simpa [midK] using W5.out)⟩
      case round =>
        clear W5
        obtain ⟨k, bt, rfl, rfl, hk, hg2, hbs, HBT, W6⟩ := hrel
        by_cases hlt2 : k < r.k
        · obtain ⟨v, hv⟩ : ∃ v, r.vs[k]? = some v := ⟨r.vs[k]'(by have := HKL.out; omega), List.getElem?_eq_getElem (by have := HKL.out; omega)⟩
          obtain ⟨b2, o2, hKe, q2⟩ := ((HP.out r HM.out).step W6.out.bel).at hv
          have hvs := HVV.out v (List.mem_of_getElem? hv)
          have HSP := Lib.hid (midK_step hv)
          have cq := fun W => quoted_any v (by omega) W
          have hql := quoteL_len v.data.toList
          rw [← bsize] at hql
          have hmk := HVK.out k
          have hs0 := HPL.out i
          have HAC : Hid ((preL nm l i ++ (59 :: r.name.data.toList ++ midK r k)).length ≤ 10000000) := Lib.hid (by
            have := bsize r.name
            simp only [List.length_append, List.length_cons]
            omega)
          have HQ := Lib.hid (show (⟨(quoteL v.data.toList).toArray⟩ : ByteArray).data.toList = quoteL v.data.toList from rfl)
          have hqs : (⟨(quoteL v.data.toList).toArray⟩ : ByteArray).size ≤ 1048578 := by rw [mk_sizeL]; omega
          generalize (⟨(quoteL v.data.toList).toArray⟩ : ByteArray) = Q at *
          have no1 : ¬ 9223372036854775807 < bt.size + Q.size := by omega
          have hK2 := HRK.out.symm.trans hKe
          subst hK2
          clear hv hKe hmk hql hvs hs0
          go_wp2_with fail
          refine (cq _).mono ?_
          rintro e w7 ⟨rfl, hb7⟩
          have W7 := Lib.hid (W6.out.below hb7)
          clear W6 hb7 q2 cq
          go_wp2_with fail
          refine (wrS (bt ++ Q) W7.out.isB (by rw [ByteArray.size_append]; have := HAC.out; omega) (by have := W7.out.sz; omega)).mono ?_
          rintro e w8 ⟨rfl, hI, hb, hk8⟩
          have W8 := W7.out.write hI hb hk8
          rw [show preL nm l i ++ (59 :: r.name.data.toList ++ midK r k) ++ (bt ++ Q).data.toList = preL nm l i ++ (59 :: r.name.data.toList ++ midK r (k + 1)) from by
            rw [HSP.out, ← HBT.out, ← HQ.out]; simp] at W8
          have W9 := Lib.hid W8
          clear W7 W8 hI hb hk8 no1
          go_wp2
          go_roundg (r.k - (k + 1))
          case measure => omega
          case rel => exact ⟨k + 1, ⟨#[44]⟩, rfl, by go_num, by omega, by omega, rfl, Lib.hid (by unfold btwK; rw [if_neg (by omega)]), W9⟩
        · obtain rfl : k = r.k := by omega
          have W7 := Lib.hid (show Wr nm vl (some ⟨b, o, none⟩) n c w _ (preL nm l (i + 1)) by
            rw [HST.out]
            have e : midK r r.k = 61 :: valsL (parOf r).vals := by
              unfold midK
              rw [if_neg HK0.out, valsK_all (by rw [HKL.out]; exact Nat.le_refl _)]
            have := W6.out
            rw [e] at this
            simpa using this)
          clear W6
          go_wp2
          go_roundg (n - (i + 1))
          case measure => omega
          case rel => exact ⟨i + 1, by go_num, by omega, by omega, W7⟩
    · obtain rfl : i = n := by omega
      have no1 : ¬ 9223372036854775807 < (⟨#[58]⟩ : ByteArray).size + vl.size := by rw [show (⟨#[58]⟩ : ByteArray).size = 1 from rfl]; omega
      obtain ⟨x0, x1, x2⟩ := W2.out.px.cells
      have hpl := HPL.out i
      go_wp2_with fail
      refine (wrS ((⟨#[58]⟩ : ByteArray) ++ vl) W2.out.isB (by rw [ByteArray.size_append, show (⟨#[58]⟩ : ByteArray).size = 1 from rfl]; omega) (by have := W2.out.sz; omega)).mono ?_
      rintro e w8 ⟨rfl, hI, hb, hk8⟩
      have W8 := W2.out.write hI hb hk8
      rw [show preL nm l i ++ ((⟨#[58]⟩ : ByteArray) ++ vl).data.toList = textL (proOf nm l vl) from by
        rw [← preL_all (by rw [HL.out]; exact Nat.le_refl _)]; simp] at W8
      have W9 := Lib.hid W8
      clear W2 W8 hI hb hk8 no1 x0 x1 x2
      go_wp2_with fail
      refine (Tryd.Builder_String_any_k _ _ _ _ W9.out.isB (by have := W9.out.sz; omega)).mono ?_
      rintro e wz ⟨rfl, _, hbz, _⟩
      have HBZ := Lib.hid (W9.out.bel.trans (hbz.mono (by omega)))
      clear W9 hbz
      go_wp2
      go_ret
      exact ⟨rfl, HBZ.out⟩
end Go.Proofs.YtipmeooldopkmaaDoor
