/-
  The program's iterator over a duration's parts.
-/
import Derived.RangeFuncNested
import Derived.RangeFuncBound
import Derived.RangeFuncCalls
import Derived.RangeFuncLeaves
import Derived.RangeFuncBox
import Derived.Shelf.Abstract
import Derived.Shelf.RegionOpen
import Derived.OwnWalkIn
import Derived.TacticsInMore
import Derived.RegionIn
import Derived.LoopNIn
import Derived.LoopIn
import Derived.Maps.AppendAt
import Derived.Lib.IndexAny
import Derived.Test.YtdilnofolnabdaaGreatDoorG11
namespace Go.Proofs.YtdilnofolnabdaaGreatDoor
open Go.RowKit Go.Shelf
attribute [local go_sem] Oper.semAt_some

/-- What is handed out: a letter and the digits ahead of it. -/
abbrev Part := { x : UInt8 × ByteArray // x.2.size ≤ 1048576 }
abbrev encsU (x : Part) : Array Value := #[.int .u8 (x.1.1.toNat : Int), .string x.1.2]
def prt (x : Part) : UInt8 × List UInt8 := (x.1.1, x.1.2.data.toList)
theorem listB (s : ByteArray) : s.data.toList.length = s.size := (bsize s).symm
theorem getB {s : ByteArray} {k : Nat} (h : k < s.size) : s.data.toList[k]? = some s[k] := by
  have h' : k < s.data.size := h
  rw [Array.getElem?_toList, Array.getElem?_eq_getElem h']
  rfl
theorem dropB {s : ByteArray} {k : Nat} (h : k < s.size) : s.data.toList.drop k = s[k] :: s.data.toList.drop (k + 1) := by
  have hl : k < s.data.toList.length := by rw [listB]; exact h
  rw [List.drop_eq_getElem_cons hl]
  first | rfl | (congr 1; exact Option.some.inj ((List.getElem?_eq_getElem hl).symm.trans (getB h)))
theorem takeB {s : ByteArray} {f k : Nat} (hf : f ≤ k) (h : k < s.size) : (s.data.toList.drop f).take (k + 1 - f) = (s.data.toList.drop f).take (k - f) ++ [s[k]] := by
  rw [show k + 1 - f = (k - f) + 1 by omega, List.take_add_one, List.getElem?_drop, show f + (k - f) = k by omega, getB h]
  first | done | rfl
theorem pieceB (s : ByteArray) (a b : Nat) : (s.extract a b).data.toList = (s.data.toList.drop a).take (b - a) := by
  rw [ByteArray.data_extract, Array.toList_extract, List.extract_eq_take_drop]
theorem pieceB_size (s : ByteArray) (a b : Nat) : (s.extract a b).size ≤ s.size := by
  rw [← listB, pieceB, List.length_take, List.length_drop, listB]; omega
theorem dig_index (c : UInt8) : (0 ≤ Lib.indexByte [48, 49, 50, 51, 52, 53, 54, 55, 56, 57] c) ↔ digN c.toNat = true := by
  have h : ∀ n : Fin 256, (0 ≤ Lib.indexByte [48, 49, 50, 51, 52, 53, 54, 55, 56, 57] (UInt8.ofNat n.val)) ↔ digN (UInt8.ofNat n.val).toNat = true := by decide +kernel
  have := h ⟨c.toNat, c.toNat_lt⟩
  simpa only [UInt8.ofNat_toNat] using this
/-- What a round keeps: what lay below n₀, and the box of the text. -/
structure KpV (n₀ By : Nat) (A B : World) : Prop where
  below : Below n₀ A B
  box : B.heap[By]? = A.heap[By]?
theorem KpV.trans {n₀ By : Nat} {A B C : World} (h : KpV n₀ By A B) (k : KpV n₀ By B C) : KpV n₀ By A C := ⟨h.below.trans k.below, k.box.trans h.box⟩
theorem belowV_put {n₀ z l : Nat} (hn : n₀ ≤ z) (hl : z ≤ l) (W : World) (o o' : Obj) (ho : W.heap[l]? = some o) (_hc : o.isCells = false) : Below n₀ W (W.putObj l o') :=
  (Below.refl n₀ W).grown (grownBy_putObj' W l o') (by have := (Array.getElem?_eq_some_iff.1 ho).1; omega) fun j ej => by cases ej; omega
theorem kpV_put {n₀ By z : Nat} (hn : n₀ ≤ z) (hs : By < z) (W : World) (l : Nat) (o o' : Obj) (hl : z ≤ l) (ho : W.heap[l]? = some o) (hc : o.isCells = false) (_hw : o.isWalk = false) : KpV n₀ By W (W.putObj l o') :=
  ⟨(Below.refl n₀ W).trans (belowV_put hn hl W o o' ho hc), World.putObj_heap_other (by omega)⟩
theorem grownV_below {W W' : World} (h : Below W.heap.size W W') : W.grownBy W' none := ⟨h.os, h.tape, h.output, h.size, fun k hk _ => h.block k hk⟩
theorem yv {e : Ending} {A B : Prop} (h : (e = .returned (.bool true) ∧ A) ∨ (e = .returned (.bool false) ∧ B)) : ∃ b, e = .returned (.bool b) ∧ (b = true → A) ∧ (b = false → B) := by
  rcases h with ⟨h, a⟩ | ⟨h, a⟩
  · exact ⟨true, h, fun _ => a, fun h => by cases h⟩
  · exact ⟨false, h, fun h => (by cases h), fun _ => a⟩
def OnlyV (Q : Act → World → Prop) : Exit → Act → World → Prop
  | .normal, a, w => Q a w
  | _, _, _ => False
theorem wpIn_normalV {F : Fence} {n : Nat} {P : Program} {c : Code} {Q : Exit → Act → World → Prop} {a : Act} {w : World} (h : c.wpIn F n P (OnlyV (Q .normal)) a w) : c.wpIn F n P Q a w := wpIn_mono h (fun e a w h => by cases e <;> first | exact h | exact h.elim)

set_option maxRecDepth 100000 in
set_option maxHeartbeats 4000000 in
theorem parts1_in {Wb : World} (n : Nat) (hn : 1 ≤ n) (l By n₀ : Nat) (s : ByteArray) (hs : s.size ≤ 1048576) (J Jx : List Part → World → Prop) (hJa : AbidesFrom Wb.heap.size J)
    (hY : ∀ (pre : List Part) (i : Part) (W : World), J pre W → pre.length < (partsA [] s.data.toList).length → YieldAt Fence.wide (n - 1) Tryz.prog l (encsU i) W fun e W' =>
      (e = .returned (.bool true) ∧ J (pre ++ [i]) W' ∧ KpV n₀ By W W') ∨ (e = .returned (.bool false) ∧ Jx (pre ++ [i]) W'))
    (hBy : Wb.cell? ⟨By, 0, none⟩ = some (.string s)) (h0 : J [] Wb) :
    CallsIn Fence.wide n Tryz.prog 73 #[.func (.yield l) #[] #[], .pointer (some ⟨By, 0, none⟩)] Wb fun e W' => (∃ v, e = .returned v) ∧
      ((∃ ys : List Part, ys.map prt = partsA [] s.data.toList ∧ J ys W') ∨ (∃ pre : List Part, pre.map prt <+: partsA [] s.data.toList ∧ Jx pre W')) := by
  have hmx : Tryz.prog.follows .mixedOrders = true := by kernel_rfl
  refine callsIn_of_wp Tryz.func73 rfl trivial ?_ rfl
  simp only [Tryz.ntmps73, List.size_toArray, List.length_cons, List.length_nil, Nat.reduceAdd, Nat.reduceSub, Array.replicate_succ, Array.replicate_zero, List.push_toArray, List.append_toArray, List.nil_append, List.cons_append]
  gi_wp2
  gi_loopw [3, 7] (fun a p wr => ∃ (f k : Nat) (pre : List Part), a = .int .i64 f ∧ p = .int .i64 k ∧ f ≤ k ∧ k ≤ s.size ∧ J pre wr ∧ wr.cell? ⟨By, 0, none⟩ = some (.string s) ∧
    Hid (pre.map prt ++ partsA ((s.data.toList.drop f).take (k - f)) (s.data.toList.drop k) = partsA [] s.data.toList)) (fun _ p _ => s.size - (intOf p).toNat)
  case atStart => exact ⟨0, 0, [], rfl, rfl, Nat.le_refl _, Nat.zero_le _, h0, hBy, Lib.hid (by simp)⟩
  case round =>
    obtain ⟨f, k, pre, rfl, rfl, hf, hk, hJ, hc, HP⟩ := hrel
    by_cases hlt : k < s.size
    · have hd : (k : Int) < (s.size : Int) := by omega
      have cx := fun w => Tryz.strings_IndexByte ⟨#[48, 49, 50, 51, 52, 53, 54, 55, 56, 57]⟩ ((s[k].toNat : Nat) : Int) w
      have he : ((s[k].toNat : Nat) : Int).toNat.toUInt8 = s[k] := by rw [Int.toNat_natCast]; exact UInt8.ofNat_toNat
      rw [he] at cx
      have HDR := Lib.hid (dropB hlt)
      have HTK := Lib.hid (takeB hf hlt)
      have hdg := dig_index s[k]
      change ∀ w, Calls _ _ _ w fun e w' => e = .returned (.int .i64 (Lib.indexByte [48, 49, 50, 51, 52, 53, 54, 55, 56, 57] s[k])) ∧ w' = w at cx
      by_cases hg : digN s[k].toNat = true
      · have h1 := hdg.2 hg
        have HG := Lib.hid hg
        generalize Lib.indexByte [48, 49, 50, 51, 52, 53, 54, 55, 56, 57] s[k] = X at cx h1
        have HJ := Lib.hid hJ
        clear hg hdg hJ
        gi_wp2_with (refine ⟨trivial, ?_⟩; gi_at_call 74; refine (callsIn_wide.2 (cx _)).mono ?_; rintro e w' ⟨rfl, hw⟩; subst w')
        go_roundw
        case rel =>
          refine ⟨f, k + 1, pre, rfl, by go_num, by omega, by omega, HJ.out, hc, Lib.hid ?_⟩
          rw [HTK.out, ← HP.out, HDR.out, partsA, if_pos HG.out]
        case measure => simp [intOf]; omega
      · have h1 : ¬ 0 ≤ Lib.indexByte [48, 49, 50, 51, 52, 53, 54, 55, 56, 57] s[k] := fun h => hg (hdg.1 h)
        have HG := Lib.hid hg
        generalize Lib.indexByte [48, 49, 50, 51, 52, 53, 54, 55, 56, 57] s[k] = X at cx h1
        have HST := Lib.hid (show partsA ((s.data.toList.drop f).take (k - f)) (s.data.toList.drop k) = (s[k], (s.data.toList.drop f).take (k - f)) :: partsA [] (s.data.toList.drop (k + 1)) by rw [HDR.out, partsA, if_neg HG.out])
        have hN : pre.length < (partsA [] s.data.toList).length := by
          rw [← HP.out, List.length_append, List.length_map, HST.out, List.length_cons]; omega
        obtain ⟨fn, tmps, assign, body, hy, hR⟩ := hY pre ⟨(s[k], s.extract f k), Nat.le_trans (pieceB_size s f k) hs⟩ wr.drew (hJa pre wr wr.drew none hJ (grownV_below ((Below.refl _ _).drew)) (fun r e => by cases e)) hN
        dsimp only [encsU] at hy
        have HR := Lib.hid hR
        have HEX := Lib.hid (pieceB s f k)
        clear hg hdg hJ hR hN
        have hfi : (f : Int) ≤ (k : Int) := by omega
        gi_wp2_with (refine ⟨trivial, ?_⟩; gi_at_call 74; refine (callsIn_wide.2 (cx _)).mono ?_; rintro e w' ⟨rfl, hw⟩; subst w')
        refine wpIn_normalV ?_
        gi_region_with_o (
            (refine HR.out.mono ?_
             rintro e W3 hh
             obtain ⟨bv, rfl, hb1, hb2⟩ := yv hh
             have HB1 := Lib.hid (And.intro hb1 hb2)
             clear hh hb1 hb2))
        all_goals unfold OnlyV
        all_goals
          cases bv
          · have HJ3 := Lib.hid (HB1.out.2 rfl)
            clear HB1
            gi_wp2
            refine bodyPost_ret (results_none rfl _ _ _) rfl ?_
            refine ⟨⟨_, rfl⟩, .inr ⟨_, ?_, HJ3.out⟩⟩
            rw [List.map_append, List.map_cons, List.map_nil, ← HP.out, HST.out, prt, HEX.out]
            exact ⟨_, by rw [List.append_assoc]; rfl⟩
          · obtain ⟨hJ3, hk3⟩ := HB1.out.1 rfl
            have hc3 := (World.cell?_of_block (a := ⟨By, 0, none⟩) hk3.box).trans hc
            have HJ3 := Lib.hid hJ3
            clear HB1 hJ3 hk3 hc
            gi_wp2
            go_roundw
            case rel =>
              refine ⟨k + 1, k + 1, _, by go_num, by go_num, by omega, by omega, HJ3.out, hc3, Lib.hid ?_⟩
              rw [List.map_append, List.map_cons, List.map_nil, ← HP.out, HST.out, prt, HEX.out]
              simp
            case measure => simp [intOf]; omega
    · obtain rfl : k = s.size := by omega
      have hnd : s.data.toList.drop s.size = [] := List.drop_of_length_le (by rw [listB]; exact Nat.le_refl _)
      by_cases hfe : f < s.size
      · have hfi : (f : Int) < (s.size : Int) := by omega
        have HST := Lib.hid (show partsA ((s.data.toList.drop f).take (s.size - f)) (s.data.toList.drop s.size) = [(0, (s.data.toList.drop f).take (s.size - f))] by
          rw [hnd, partsA, if_neg]
          intro h0
          have := congrArg List.length h0
          rw [List.length_take, List.length_drop, listB] at this
          simp at this
          omega)
        have hN : pre.length < (partsA [] s.data.toList).length := by
          rw [← HP.out, List.length_append, List.length_map, HST.out]; simp
        obtain ⟨fn, tmps, assign, body, hy, hR⟩ := hY pre ⟨(0, s.extract f s.size), Nat.le_trans (pieceB_size s f s.size) hs⟩ wr hJ hN
        dsimp only [encsU] at hy
        have HR := Lib.hid hR
        have HEX := Lib.hid (pieceB s f s.size)
        clear hR hN hJ hnd
        have hfl : (f : Int) ≤ (s.size : Int) := by omega
        have hz : (((0 : UInt8).toNat : Nat) : Int) = 0 := rfl
        rw [hz] at hy
        gi_wp2
        refine HR.out.mono ?_
        rintro e W3 (⟨rfl, hJ3, hk3⟩ | ⟨rfl, hJx3⟩)
        · have HJ3 := Lib.hid hJ3
          clear hJ3 hk3 hc
          gi_wp2
          go_end0
          refine ⟨⟨_, rfl⟩, .inl ⟨_, ?_, HJ3.out⟩⟩
          rw [List.map_append, List.map_cons, List.map_nil, ← HP.out, HST.out, prt, HEX.out]
        · have HJ3 := Lib.hid hJx3
          clear hJx3 hc
          gi_wp2
          go_end0
          refine ⟨⟨_, rfl⟩, .inr ⟨_, ?_, HJ3.out⟩⟩
          rw [List.map_append, List.map_cons, List.map_nil, ← HP.out, HST.out, prt, HEX.out]
          exact List.prefix_rfl
      · obtain rfl : f = s.size := by omega
        have hH := Lib.hid (And.intro HP.out hJ)
        have HN := Lib.hid hnd
        clear HP hJ hnd
        gi_wp2
        go_end0
        refine ⟨⟨_, rfl⟩, .inl ⟨pre, ?_, hH.out.2⟩⟩
        have := hH.out.1
        rw [HN.out] at this
        simpa [partsA] using this
set_option maxHeartbeats 1000000 in
theorem partsFn_in (n : Nat) (s : ByteArray) (w : World) :
    CallsIn Fence.wide n Tryz.prog 51 #[.string s] w fun e w' => e = .returned (.func (.func 73) #[] #[.pointer (some ⟨w.heap.size, 0, none⟩)]) ∧ w' = w.alloc (.cells #[.string s] 9) := by
  refine callsIn_of_wp Tryz.func51 rfl trivial ?_ rfl
  simp only [Tryz.ntmps51, List.size_toArray, List.length_cons, List.length_nil, Nat.reduceAdd, Nat.reduceSub, Array.replicate_succ, Array.replicate_zero, List.push_toArray, List.append_toArray, List.nil_append, List.cons_append]
  gi_wp2
  go_ret
  exact ⟨rfl, rfl⟩
theorem parts_stops (n : Nat) (hn : 1 ≤ n) (By n₀ : Nat) (s : ByteArray) (hs : s.size ≤ 1048576) (w : World) (hlt : By < w.heap.size) (hBy : w.cell? ⟨By, 0, none⟩ = some (.string s)) :
    SeqStopsK Fence.wide n Tryz.prog 73 #[.pointer (some ⟨By, 0, none⟩)] encsU (KpV n₀ By) (fun ys => ys.map prt = partsA [] s.data.toList) (fun pre => pre.map prt <+: partsA [] s.data.toList) (partsA [] s.data.toList).length w := fun l J Jx _W hW hJ _ hY h0 =>
  parts1_in n hn l By n₀ s hs J Jx hJ hY ((hW.cell (p := ⟨By, 0, none⟩) hlt).trans hBy) h0
end Go.Proofs.YtdilnofolnabdaaGreatDoor

/-
  The program's own functions of layer 13: signs, counts of parts, and which part may follow which.
-/
namespace Go.Proofs.YtdilnofolnabdaaGreatDoor
open Go.RowKit

theorem mk_listV (l : List UInt8) : (⟨l.toArray⟩ : ByteArray).data.toList = l := by simp
theorem list_mk (s : ByteArray) : (⟨s.data.toList.toArray⟩ : ByteArray) = s := by apply ByteArray.ext; simp
/-- A sign and what stands behind it. -/
def cutS (l : List UInt8) : Int × List UInt8 :=
  match l with
  | 43 :: r => (1, r)
  | 45 :: r => (-1, r)
  | _ => (0, l)
theorem dropOne (s : ByteArray) {c : UInt8} {r : List UInt8} (h : s.data.toList = c :: r) : s.extract 1 s.size = ⟨r.toArray⟩ ∧ 1 ≤ s.size := by
  have hl := listB s
  rw [h, List.length_cons] at hl
  refine ⟨?_, by omega⟩
  apply ByteArray.ext
  rw [← Array.toList_inj, pieceB, h, List.drop_one, List.tail_cons]
  simp only
  rw [List.take_of_length_le (by omega)]
set_option maxRecDepth 100000 in
set_option maxHeartbeats 2000000 in
theorem cutSign_any (s : ByteArray) (hs : s.size ≤ 1048576) (w : World) :
    Calls Tryz.prog 48 #[.string s] w fun e w' => e = .returned (.tuple #[.int .i64 (cutS s.data.toList).1, .string ⟨(cutS s.data.toList).2.toArray⟩]) ∧ Below w.heap.size w w' := by
  have c1 := fun w => Tryz.strings_HasPrefix s ⟨#[43]⟩ w
  have c2 := fun w => Tryz.strings_HasPrefix s ⟨#[45]⟩ w
  have hmx : Tryz.prog.follows .mixedOrders = true := by kernel_rfl
  rcases hl : s.data.toList with _ | ⟨c, r⟩
  · have E : Hid ((cutS ([] : List UInt8)) = (0, [])) := Lib.hid rfl
    have HS : Hid (s = ⟨#[]⟩) := Lib.hid (by rw [← list_mk s, hl])
    rw [hl] at c1 c2
    change ∀ w, Calls _ _ _ w fun e w' => e = .returned (.bool false) ∧ w' = w at c1
    change ∀ w, Calls _ _ _ w fun e w' => e = .returned (.bool false) ∧ w' = w at c2
    clear hl
    go_enter Tryz.func48, Tryz.ntmps48
    go_wp2_with (first
      | (go_at_call 71; refine (c1 _).mono ?_; rintro e w' ⟨rfl, hw⟩; subst w'; clear c1)
      | (go_at_call 71; refine (c2 _).mono ?_; rintro e w' ⟨rfl, hw⟩; subst w'; clear c2))
    go_ret2
    exact ⟨by rw [E.out, HS.out]; rfl, Below.refl _ _⟩
  · obtain ⟨hex, h1⟩ := dropOne s hl
    rw [hl] at c1 c2
    have e1 : Lib.hasPrefix (c :: r) (⟨#[43]⟩ : ByteArray).data.toList = (43 == c) := by simp [Lib.hasPrefix, List.isPrefixOf]
    have e2 : Lib.hasPrefix (c :: r) (⟨#[45]⟩ : ByteArray).data.toList = (45 == c) := by simp [Lib.hasPrefix, List.isPrefixOf]
    simp only [e1] at c1
    simp only [e2] at c2
    have hi : (1 : Int) ≤ (s.size : Int) := by omega
    by_cases h43 : c = 43
    · subst h43
      have E : Hid (cutS (43 :: r) = (1, r)) := Lib.hid rfl
      have HX := Lib.hid hex
      have c1' : ∀ w, Calls Tryz.prog 71 #[.string s, .string ⟨#[43]⟩] w fun e w' => e = .returned (.bool true) ∧ w' = w := c1
      clear c1 c2 e1 e2 hl hex
      go_enter Tryz.func48, Tryz.ntmps48
      go_wp2_with (go_at_call 71; refine (c1' _).mono ?_; rintro e w' ⟨rfl, hw⟩; subst w')
      go_region
      go_wp2
      go_ret2
      exact ⟨by rw [E.out, ← HX.out]; rfl, (Below.refl _ _).drew⟩
    · by_cases h45 : c = 45
      · subst h45
        have E : Hid (cutS (45 :: r) = (-1, r)) := Lib.hid rfl
        have HX := Lib.hid hex
        have c1' : ∀ w, Calls Tryz.prog 71 #[.string s, .string ⟨#[43]⟩] w fun e w' => e = .returned (.bool false) ∧ w' = w := c1
        have c2' : ∀ w, Calls Tryz.prog 71 #[.string s, .string ⟨#[45]⟩] w fun e w' => e = .returned (.bool true) ∧ w' = w := c2
        clear c1 c2 e1 e2 hl hex h43
        go_enter Tryz.func48, Tryz.ntmps48
        go_wp2_with (first
          | (go_at_call 71; refine (c1' _).mono ?_; rintro e w' ⟨rfl, hw⟩; subst w')
          | (go_at_call 71; refine (c2' _).mono ?_; rintro e w' ⟨rfl, hw⟩; subst w'))
        go_region
        go_wp2
        go_ret2
        exact ⟨by rw [E.out, ← HX.out]; rfl, (Below.refl _ _).drew⟩
      · have E : Hid (cutS (c :: r) = (0, c :: r)) := Lib.hid (by unfold cutS; split <;> simp_all)
        have HS : Hid ((⟨(c :: r).toArray⟩ : ByteArray) = s) := Lib.hid (by rw [← hl, list_mk])
        have f1 : (43 == c) = false := by rw [beq_eq_false_iff_ne]; exact fun h => h43 h.symm
        have f2 : (45 == c) = false := by rw [beq_eq_false_iff_ne]; exact fun h => h45 h.symm
        simp only [f1] at c1
        simp only [f2] at c2
        clear e1 e2 hl hex f1 f2 h43 h45
        go_enter Tryz.func48, Tryz.ntmps48
        go_wp2_with (first
          | (go_at_call 71; refine (c1 _).mono ?_; rintro e w' ⟨rfl, hw⟩; subst w'; clear c1)
          | (go_at_call 71; refine (c2 _).mono ?_; rintro e w' ⟨rfl, hw⟩; subst w'; clear c2))
        go_ret2
        exact ⟨by rw [E.out, HS.out]; rfl, Below.refl _ _⟩
theorem let0_lt (c : UInt8) : (let0 c).toNat < 256 := (let0 c).toNat_lt
theorem beh_index (c d : UInt8) : (0 ≤ Lib.indexByte (behP c) d) ↔ d ∈ behP c := by
  have := Lib.contains_iff_indexByte (behP c) d
  rw [← decide_eq_true_iff (p := 0 ≤ Lib.indexByte (behP c) d), ← this]
  simp
set_option maxRecDepth 100000 in
set_option maxHeartbeats 2000000 in
theorem follow_any (c d : UInt8) (w : World) :
    Calls Tryz.prog 53 #[partV c, partV d] w fun e w' => e = .returned (.bool (decide (let0 d ∈ behP c))) ∧ Below w.heap.size w w' := by
  have cx := fun w => Tryz.strings_IndexByte (behB c) (((let0 d).toNat : Nat) : Int) w
  have he : (((let0 d).toNat : Nat) : Int).toNat.toUInt8 = let0 d := by rw [Int.toNat_natCast]; exact UInt8.ofNat_toNat
  rw [he] at cx
  change ∀ w, Calls _ _ _ w fun e w' => e = .returned (.int .i64 (Lib.indexByte (behB c).data.toList (let0 d))) ∧ w' = w at cx
  rw [show (behB c).data.toList = behP c by unfold behB; simp] at cx
  have E := Lib.hid (beh_index c (let0 d))
  generalize Lib.indexByte (behP c) (let0 d) = X at cx E
  have ha : Below w.heap.size w (w.alloc (.cells #[.int .u8 ((let0 c).toNat : Int), .string (behB c), .int .i64 (unitP c)] 67)) := (Below.refl _ w).alloc (Nat.le_refl _) _
  have hb := Lib.hid (bstep ha ((Below.refl _ (w.alloc (.cells #[.int .u8 ((let0 c).toNat : Int), .string (behB c), .int .i64 (unitP c)] 67))).alloc (Nat.le_refl _) (.cells #[.int .u8 ((let0 d).toNat : Int), .string (behB d), .int .i64 (unitP d)] 67)))
  clear ha he
  unfold partV
  go_enter Tryz.func53, Tryz.ntmps53
  go_wp2_with (go_at_call 74; refine (cx _).mono ?_; rintro e w' ⟨rfl, hw⟩; subst w')
  go_ret
  refine ⟨?_, hb.out⟩
  have : decide (0 ≤ X) = decide (let0 d ∈ behP c) := by simp only [decide_eq_decide]; exact E.out
  rw [← this]; rfl
set_option maxRecDepth 100000 in
set_option maxHeartbeats 2000000 in
theorem count_any (c : UInt8) (ah : ByteArray) (hs : ah.size ≤ 1048576) (w : World) :
    Calls Tryz.prog 52 #[partV c, .string ah] w fun e w' => e = .returned (.tuple #[.int .i64 (cntP c ah.data.toList).1, .bool (cntP c ah.data.toList).2]) ∧ Below w.heap.size w w' := by
  have ha := Lib.hid (show Below w.heap.size w (w.alloc (.cells #[.int .u8 ((let0 c).toNat : Int), .string (behB c), .int .i64 (unitP c)] 67)) from (Below.refl _ w).alloc (Nat.le_refl _) _)
  by_cases h0 : unitP c = 0
  · have E : Hid (cntP c ah.data.toList = (0, decide (ah.data.toList = []))) := Lib.hid (by unfold cntP; rw [if_pos h0])
    have hb : (unitP c == 0) = true := by rw [h0]; rfl
    have HQ : Hid (ah.toList.isEmpty = decide (ah.data.toList = [])) := Lib.hid (by
      rw [ByteArray.toList_eq]
      cases ah.data.toList <;> rfl)
    clear h0
    unfold partV
    generalize unitP c = U at *
    go_enter Tryz.func52, Tryz.ntmps52
    go_wp2
    go_ret2
    refine ⟨?_, ha.out⟩
    rw [E.out, ← HQ.out]
    rfl
  · have E : Hid (cntP c ah.data.toList = ((numV ah.data.toList 9223372036854775807).1, (numV ah.data.toList 9223372036854775807).2 && decide (ah.data.toList.length ≤ 7))) := Lib.hid (by unfold cntP; rw [if_neg h0])
    have hb : (unitP c == 0) = false := by rw [beq_eq_false_iff_ne]; exact h0
    have cn := fun W => number_any ah (by omega) 9223372036854775807 W
    have HL := Lib.hid (listB ah)
    clear h0
    unfold partV
    generalize unitP c = U at *
    generalize (numV ah.data.toList 9223372036854775807).1 = V1 at *
    generalize (numV ah.data.toList 9223372036854775807).2 = V2 at *
    cases V2
    · go_enter Tryz.func52, Tryz.ntmps52
      go_wp2_with (go_at_call 61; refine (cn _).mono ?_; rintro e w' ⟨rfl, hw⟩; subst w')
      go_ret2
      exact ⟨by rw [E.out]; rfl, ha.out⟩
    · go_enter Tryz.func52, Tryz.ntmps52
      go_wp2_with (go_at_call 61; refine (cn _).mono ?_; rintro e w' ⟨rfl, hw⟩; subst w')
      go_ret2
      exact ⟨by rw [E.out, HL.out]; simp; omega, ha.out⟩
end Go.Proofs.YtdilnofolnabdaaGreatDoor
