/-
  The program's iterator over the lines of a text.
-/
import Derived.RangeFuncNested
import Derived.RangeFuncBound
import Derived.RangeFuncCalls
import Derived.RangeFuncLeaves
import Derived.RangeFuncBox
import Derived.Shelf.Abstract
import Derived.Shelf.RegionOpen
import Derived.OwnWalkIn
import Derived.TacticsInMore
import Derived.RegionIn
import Derived.LoopNIn
import Derived.LoopIn
import Derived.Maps.AppendAt
import Derived.Test.YtipmeooldopkmaaDoorL19
import Derived.Test.YtipmeooldopkmaaDoorL20
import Derived.Test.YtipmeooldopkmaaDoorL15
import Derived.Test.YtipmeooldopkmaaDoorL01
import Derived.OrdersIn
import Derived.CallsIn
import Derived.Test.YtipmeooldopkmaaDoorL03
namespace Go.Proofs.YtipmeooldopkmaaDoor
open Go.RowKit Go.Shelf
attribute [local go_sem] Oper.semAt_some

/-- The library's own variable is there. -/
def MaxLn (w : World) : Prop := ∃ m, w.cell? ⟨1, 0, none⟩ = some (.int .i64 m)
theorem MaxLn.lt {w : World} (h : MaxLn w) : 1 < w.heap.size := by
  obtain ⟨m, hm⟩ := h
  by_cases h : 1 < w.heap.size
  · exact h
  · simp [World.cell?, Array.getElem?_eq_none (Nat.le_of_not_lt h)] at hm
theorem MaxLn.step {w w' : World} (h : MaxLn w) (hb : Below w.heap.size w w') : MaxLn w' := by
  have hl := h.lt
  obtain ⟨m, hm⟩ := h
  exact ⟨m, (hb.cell (p := ⟨1, 0, none⟩) hl).trans hm⟩
/-- What is handed out: a line as it stands. -/
abbrev Lin := { x : ByteArray // x.size ≤ 8192 }
abbrev encsL (x : Lin) : Array Value := #[.string x.1]
theorem strip_len (a : List UInt8) : (stripL a).length ≤ a.length := by unfold stripL; split <;> simp
theorem rawP_nil (f : Nat) : rawP f [] = [] := by cases f <;> simp [rawP]
theorem rawP_len : ∀ (f : Nat) (l : List UInt8), (rawP f l).length ≤ l.length
  | 0, l => by simp [rawP]
  | f + 1, l => by
    rw [rawP]
    by_cases h : l = []
    · rw [if_pos h]; simp
    · rw [if_neg h]
      have := rawP_len f (l.drop ((l.takeWhile notLf).length + 1))
      have h0 : 0 < l.length := List.length_pos_iff.2 h
      rw [List.length_drop] at this
      rw [List.length_cons]; omega
theorem tw_len {p : UInt8 → Bool} (l : List UInt8) : (l.takeWhile p).length ≤ l.length := (List.takeWhile_sublist _).length_le

set_option maxRecDepth 100000 in
set_option maxHeartbeats 4000000 in
theorem lin1_in {Wb : World} (n : Nat) (hn : 1 ≤ n) (l By n₀ : Nat) (s : ByteArray) (hs : s.size ≤ 8192) (J Jx : List Lin → World → Prop) (hJ : AbidesFrom Wb.heap.size J)
    (hY : ∀ (pre : List Lin) (i : Lin) (W : World), J pre W → pre.length < 8193 → YieldAt Fence.wide (n - 1) Tryd.prog l (encsL i) W fun e W' =>
      (e = .returned (.bool true) ∧ J (pre ++ [i]) W' ∧ KpL n₀ By W W') ∨ (e = .returned (.bool false) ∧ Jx (pre ++ [i]) W'))
    (hBy : Wb.cell? ⟨By, 0, none⟩ = some (.string s)) (hlt : By < Wb.heap.size) (hm : 1 < n₀) (hn₀ : n₀ ≤ Wb.heap.size) (hM : MaxLn Wb) (h0 : J [] Wb) :
    CallsIn Fence.wide n Tryd.prog 66 #[.func (.yield l) #[] #[], .pointer (some ⟨By, 0, none⟩)] Wb fun e W' => (∃ v, e = .returned v) ∧
      ((∃ ys : List Lin, (ys.map fun x => x.1.data.toList) = rawG s.data.toList [] ∧ J ys W') ∨ (∃ pre : List Lin, (∃ post, (pre.map fun x => x.1.data.toList) ++ post = rawG s.data.toList []) ∧ Jx pre W')) := by
  refine callsIn_of_wp Tryd.func66 rfl trivial ?_ rfl
  simp only [Tryd.ntmps66, List.size_toArray, List.length_cons, List.length_nil, Nat.reduceAdd, Nat.reduceSub, Array.replicate_succ, Array.replicate_zero, List.push_toArray, List.append_toArray, List.nil_append, List.cons_append]
  have hlen := Lib.hid (bsize s)
  obtain ⟨m, hmc⟩ := hM
  gi_wp2
  gi_loopw [3] (fun p wr => ∃ (k f : Nat) (pre : List Lin), p = .int .i64 k ∧ k ≤ s.size + 1 ∧ J pre wr ∧ wr.cell? ⟨By, 0, none⟩ = some (.string s) ∧ By < wr.heap.size ∧ Hid (Below n₀ Wb wr) ∧ s.size ≤ k + f ∧ pre.length ≤ k ∧
    Hid ((pre.map fun x => x.1.data.toList) ++ rawP f (s.data.toList.drop k) = rawG s.data.toList [])) (fun p _ => s.size + 1 - (intOf p).toNat)
  case atStart => exact ⟨0, s.size, [], rfl, by omega, h0, hBy, hlt, Lib.hid (Below.refl _ _), by omega, by simp, Lib.hid (by rw [raw_all s.size _ (by rw [← hlen.out]; exact Nat.le_refl _)]; simp)⟩
  case round =>
    obtain ⟨k, f, pre, rfl, hk, hJ1, hc, hBl, HB, hf, hpl, HP⟩ := hrel
    by_cases hlt2 : k < s.size
    · have hxd : (s.extract k s.size).data.toList = s.data.toList.drop k := by
        rw [ByteArray.data_extract]
        simp [List.take_of_length_le]
      have hxs : (s.extract k s.size).size = s.size - k := by rw [bsize, hxd, List.length_drop, ← hlen.out]
      have hmr : wr.cell? ⟨1, 0, none⟩ = some (.int .i64 m) := (HB.out.cell (p := ⟨1, 0, none⟩) hm).trans hmc
      have cc := Tryd.strings_Cut (s.extract k s.size) ⟨#[10]⟩ m wr (by omega) hmr
      rw [hxd, show (⟨#[10]⟩ : ByteArray).data.toList = [10] from rfl] at cc
      obtain ⟨q1, q2⟩ := cut_is (s.data.toList.drop k)
      have htl := tw_len (p := notLf) (s.data.toList.drop k)
      rw [List.length_drop, ← hlen.out] at htl
      have hne : s.data.toList.drop k ≠ [] := by
        intro h; have := congrArg List.length h; rw [List.length_drop, ← hlen.out] at this; simp at this; omega
      obtain ⟨f', rfl⟩ : ∃ f', f = f' + 1 := ⟨f - 1, by omega⟩
      have hstep : rawP (f' + 1) (s.data.toList.drop k) = (if ((s.data.toList.drop k).takeWhile notLf).length < (s.data.toList.drop k).length then stripL ((s.data.toList.drop k).takeWhile notLf) else (s.data.toList.drop k).takeWhile notLf) :: rawP f' (s.data.toList.drop (k + (((s.data.toList.drop k).takeWhile notLf).length + 1))) := by
        rw [rawP, if_neg hne, List.drop_drop]
      rw [List.length_drop, ← hlen.out] at hstep q2
      rw [q1, q2] at cc
      generalize (s.data.toList.drop k).takeWhile notLf = one at *
      obtain ⟨C2, hC2⟩ : ∃ C2 : ByteArray, (⟨(Lib.cut (s.data.toList.drop k) [10]).2.1.toArray⟩ : ByteArray) = C2 := ⟨_, rfl⟩
      rw [hC2] at cc
      have hos : (⟨one.toArray⟩ : ByteArray).size = one.length := mk_sizeL _
      have HO := Lib.hid (show (⟨one.toArray⟩ : ByteArray).data.toList = one from rfl)
      generalize (⟨one.toArray⟩ : ByteArray) = O at *
      have hki : (k : Int) ≤ (s.size : Int) := by omega
      have HST := Lib.hid hstep
      clear hstep q1 q2 hxd hxs hne hC2 hmr
      gi_wp2_with fail
      refine ⟨trivial, (callsIn_wide.2 cc).mono ?_⟩
      rintro e w5 ⟨rfl, q, rfl⟩
      have hbq : Below wr.heap.size wr (wr.drewN q) := below_drewNL (Below.refl _ _) q
      have J5 := hJ pre wr _ none hJ1 (grown_below hbq) (fun r e => by cases e)
      have hc5 := (hbq.cell (p := ⟨By, 0, none⟩) hBl).trans hc
      have HB5 := Lib.hid (HB.out.trans (hbq.mono (Nat.le_trans hn₀ HB.out.size)))
      have hBl5 : By < (wr.drewN q).heap.size := hBl
      clear cc hbq hc hBl HB hJ1
      generalize wr.drewN q = w5 at *
      have hP2 : ∀ X : Lin, X.1.data.toList = (if one.length < s.size - k then stripL one else one) → (((pre ++ [X]).map fun x => x.1.data.toList) ++ rawP f' (s.data.toList.drop (k + (one.length + 1))) = rawG s.data.toList []) := fun X hX => by
        rw [List.map_append, List.map_cons, List.map_nil, hX, List.append_assoc, ← HP.out, HST.out]; rfl
      have HP2 := Lib.hid hP2
      clear hP2 HST HP
      by_cases hfd : one.length < s.size - k
      · rw [decide_eq_true hfd]
        have ct := fun W => Tryd.strings_TrimSuffix O ⟨#[13]⟩ W (by omega)
        rw [HO.out, show (⟨#[13]⟩ : ByteArray).data.toList = [13] from rfl, trim_strip] at ct
        have hsl := strip_len one
        have hss : (⟨(stripL one).toArray⟩ : ByteArray).size = (stripL one).length := mk_sizeL _
        have hsb : (⟨(stripL one).toArray⟩ : ByteArray).size ≤ 8192 := by omega
        obtain ⟨X, hX⟩ : ∃ X : Lin, (⟨(stripL one).toArray⟩ : ByteArray) = X.1 := ⟨⟨_, hsb⟩, rfl⟩
        have HX := Lib.hid (HP2.out X (by rw [← hX, if_pos hfd]))
        rw [hX] at ct hss
        clear hX HP2 hsb
        have cl := fun W => cloneT_any X.1 (by have := X.2; omega) W
        gi_wp2_with fail
        refine ⟨trivial, (callsIn_wide.2 (ct _)).mono ?_⟩
        rintro e w6 ⟨rfl, hw⟩
        subst hw
        gi_wp2_with fail
        refine ⟨trivial, (callsIn_wide.2 (cl _)).mono ?_⟩
        rintro e w7 ⟨rfl, hb7⟩
        have J7 := hJ pre _ w7 none J5 (grown_below hb7) (fun r e => by cases e)
        have hc7 := (hb7.cell (p := ⟨By, 0, none⟩) hBl5).trans hc5
        have HB7 := Lib.hid (HB5.out.trans (hb7.mono (Nat.le_trans hn₀ HB5.out.size)))
        have hBl7 : By < w7.heap.size := Nat.lt_of_lt_of_le hBl5 hb7.size
        clear hb7 J5 hc5 HB5 hBl5 cl
        obtain ⟨fn, tmps, assign, body, hy, hR⟩ := hY pre X w7 J7 (by omega)
        dsimp only [encsL] at hy
        have HR := Lib.hid hR
        clear hR J7
        gi_wp2
        refine HR.out.mono ?_
        rintro e W3 (⟨rfl, hJ3, hk3⟩ | ⟨rfl, hJx3⟩)
        · have hc3 := (World.cell?_of_block (a := ⟨By, 0, none⟩) hk3.box).trans hc7
          have hB3 : By < W3.heap.size := Nat.lt_of_lt_of_le hBl7 hk3.below.size
          have HB8 := Lib.hid (HB7.out.trans hk3.below)
          have HJ := Lib.hid hJ3
          clear hJ3 hk3 hc7 HB7 hBl7
          gi_wp2
          go_roundw
          case rel => exact ⟨k + (one.length + 1), f', pre ++ [X], by go_num, by omega, HJ.out, hc3, hB3, HB8, by omega, by rw [List.length_append, List.length_singleton]; omega, HX⟩
          case measure => simp [intOf]; omega
        · clear hc7
          gi_wp2
          refine bodyPost_ret (results_none rfl _ _ _) rfl ?_
          exact ⟨⟨_, rfl⟩, .inr ⟨_, ⟨_, HX.out⟩, hJx3⟩⟩
      · rw [decide_eq_false hfd]
        have hsb : O.size ≤ 8192 := by omega
        obtain ⟨X, hX⟩ : ∃ X : Lin, O = X.1 := ⟨⟨_, hsb⟩, rfl⟩
        have HX := Lib.hid (HP2.out X (by rw [← hX, HO.out, if_neg hfd]))
        have cl := fun W => cloneT_any X.1 (by have := X.2; omega) W
        subst hX
        clear HP2 hsb
        gi_wp2_with fail
        refine ⟨trivial, (callsIn_wide.2 (cl _)).mono ?_⟩
        rintro e w7 ⟨rfl, hb7⟩
        have J7 := hJ pre _ w7 none J5 (grown_below hb7) (fun r e => by cases e)
        have hc7 := (hb7.cell (p := ⟨By, 0, none⟩) hBl5).trans hc5
        have HB7 := Lib.hid (HB5.out.trans (hb7.mono (Nat.le_trans hn₀ HB5.out.size)))
        have hBl7 : By < w7.heap.size := Nat.lt_of_lt_of_le hBl5 hb7.size
        clear hb7 J5 hc5 HB5 hBl5 cl
        obtain ⟨fn, tmps, assign, body, hy, hR⟩ := hY pre X w7 J7 (by omega)
        dsimp only [encsL] at hy
        have HR := Lib.hid hR
        clear hR J7
        gi_wp2
        refine HR.out.mono ?_
        rintro e W3 (⟨rfl, hJ3, hk3⟩ | ⟨rfl, hJx3⟩)
        · have hc3 := (World.cell?_of_block (a := ⟨By, 0, none⟩) hk3.box).trans hc7
          have hB3 : By < W3.heap.size := Nat.lt_of_lt_of_le hBl7 hk3.below.size
          have HB8 := Lib.hid (HB7.out.trans hk3.below)
          have HJ := Lib.hid hJ3
          clear hJ3 hk3 hc7 HB7 hBl7
          gi_wp2
          go_roundw
          case rel => exact ⟨k + (one.length + 1), f', pre ++ [X], by go_num, by omega, HJ.out, hc3, hB3, HB8, by omega, by rw [List.length_append, List.length_singleton]; omega, HX⟩
          case measure => simp [intOf]; omega
        · clear hc7
          gi_wp2
          refine bodyPost_ret (results_none rfl _ _ _) rfl ?_
          exact ⟨⟨_, rfl⟩, .inr ⟨_, ⟨_, HX.out⟩, hJx3⟩⟩
    · have HE : Hid ((pre.map fun x => x.1.data.toList) = rawG s.data.toList []) := Lib.hid (by
        rw [← HP.out, List.drop_eq_nil_of_le (by rw [← hlen.out]; omega), rawP_nil, List.append_nil])
      have HJ := Lib.hid hJ1
      clear hJ1 HP
      gi_wp2
      go_end0
      exact ⟨⟨_, rfl⟩, .inl ⟨pre, HE.out, HJ.out⟩⟩
set_option maxHeartbeats 1000000 in
theorem linFn_in (n : Nat) (s : ByteArray) (w : World) :
    CallsIn Fence.wide n Tryd.prog 50 #[.string s] w fun e w' => e = .returned (.func (.func 66) #[] #[.pointer (some ⟨w.heap.size, 0, none⟩)]) ∧ w' = w.alloc (.cells #[.string s] 9) := by
  refine callsIn_of_wp Tryd.func50 rfl trivial ?_ rfl
  simp only [Tryd.ntmps50, List.size_toArray, List.length_cons, List.length_nil, Nat.reduceAdd, Nat.reduceSub, Array.replicate_succ, Array.replicate_zero, List.push_toArray, List.append_toArray, List.nil_append, List.cons_append]
  gi_wp2
  go_ret
  exact ⟨rfl, rfl⟩
theorem lin_stops (n : Nat) (hn : 1 ≤ n) (By n₀ : Nat) (s : ByteArray) (hs : s.size ≤ 8192) (w : World) (hlt : By < w.heap.size) (hBy : w.cell? ⟨By, 0, none⟩ = some (.string s)) (hm : 1 < n₀) (hn₀ : n₀ ≤ w.heap.size) (hM : MaxLn w) :
    SeqStopsK Fence.wide n Tryd.prog 66 #[.pointer (some ⟨By, 0, none⟩)] encsL (KpL n₀ By) (fun ys => (ys.map fun x => x.1.data.toList) = rawG s.data.toList []) (fun pre => ∃ post, (pre.map fun x => x.1.data.toList) ++ post = rawG s.data.toList []) 8193 w := fun l J Jx _W hW hJ _ hY h0 =>
  lin1_in n hn l By n₀ s hs J Jx hJ hY ((hW.cell (p := ⟨By, 0, none⟩) hlt).trans hBy) (Nat.lt_of_lt_of_le hlt hW.size) hm (Nat.le_trans hn₀ hW.size) (hM.step hW) h0
end Go.Proofs.YtipmeooldopkmaaDoor

/-
  A region that draws its order, inside a round of a range over a function: what is shown outside holds there.
-/
namespace Go.Proofs.YtipmeooldopkmaaDoor
open Go.RowKit

section
variable {P : Program} {ops : Array Oper} {Q : Exit → Act → World → Prop} {md : Region.Mode} {l n : Nat}

theorem rows_in {row : String} {args : Array Value} {w : World} {R : Value → World → Prop} (h : Rows P row args w R) : RowsIn (Fence.wide.inRound l) n P row args w R := fun c cs _ =>
  let ⟨v, w', r, s⟩ := h c cs; ⟨v, w', r, stepsIn_wide.2 s⟩
theorem op_round {o : Oper} {a : Act} {w : World} {K : Act → World → Prop} (hd : ∀ c, o.op ≠ .defer c) (h : Oper.wp P o a w K Q) : Oper.wpIn (Fence.wide.inRound l) n P o a w K Q := by
  refine ⟨fun _ _ => trivial, ?_⟩
  rw [Oper.semAt_eq _ _ _ hd]
  unfold Oper.wp at h
  generalize (execOp a.eval o).run P w = r at h ⊢
  cases r with
  | ok x w' =>
    cases x with
    | value v => exact h
    | skip => exact h
    | defer d => exact h
    | enter f args => exact ⟨fun hh => (by cases hh), CallsIn.inRound l (callsIn_wide.2 (Calls.mono h fun e w'' he => (by cases e <;> exact he)))⟩
    | row r args => exact ⟨fun hh => (by cases hh), rows_in h⟩
    | _ => exact h.elim
  | halt x w' => cases x <;> exact h

/-- No operation of the region puts off a call. -/
def noDefer (ops : Array Oper) : Bool := ops.all fun o => match o.op with
  | .defer _ => false
  | _ => true
theorem noDefer_spec (h : noDefer ops = true) {i : Nat} {o : Oper} (ho : ops[i]? = some o) : ∀ c, o.op ≠ .defer c := fun c e => by
  unfold noDefer at h
  rw [Array.all_eq_true] at h
  obtain ⟨hi, e2⟩ := Array.getElem?_eq_some_iff.1 ho
  have := h i hi
  rw [e2, e] at this
  cases this
theorem any_round (hd : noDefer ops = true) (hQ : ¬ LetsOut Q) : ∀ (f : Nat) (listed : Array Bool) (a : Act) (w : World), wpAny P md ops Q f listed a w → wpAnyIn (Fence.wide.inRound l) n P md ops Q f listed a w
  | 0, _, _, _, h => h
  | f + 1, listed, a, w, h => ⟨h.1, fun i hi => by
    have h2 := h.2 i hi
    unfold wpOp at h2
    unfold wpOpIn
    cases ho : ops[i]? with
    | none => rw [ho] at h2; exact any_round hd hQ f _ a w h2
    | some o =>
      rw [ho] at h2
      dsimp only at h2 ⊢
      by_cases hw : Region.wanted o (yielded ops a.tmps) = true
      · rw [if_pos hw] at h2 ⊢
        rcases h2 with h2 | h2
        · exact Oper.wpIn_mono (fun a' w' => any_round hd hQ f _ a' w') (op_round (noDefer_spec hd ho) h2)
        · exact absurd h2.2 hQ
      · rw [if_neg hw] at h2 ⊢
        exact ⟨fun _ _ => trivial, any_round hd hQ f _ _ w h2⟩⟩
theorem wpIn_region_till (S : World → Prop) (k q : Nat) {id : Nat} {a : Act} {w : World} (hm : P.follows .mixedOrders = true) (hd : noDefer ops = true) (hQ : ¬ LetsOut Q) (hn : ops.size = q)
    (h : TillC P .any ops Q S k q (Array.replicate q false) a w.drew) : (Code.region id ops true).wpIn (Fence.wide.inRound l) n P Q a w := by
  subst hn
  exact wpIn_region_any hm (any_round hd hQ _ _ _ _ (wpAny_of_till _ _ _ _ (h (closed_none _))))
end

end Go.Proofs.YtipmeooldopkmaaDoor
