/-
  An inode made as long as that.
-/
import Derived.Test.YtpdfkakhahfcjaaGreatG26
import Derived.Test.YtpdfkakhahfcjaaGreatG09
import Derived.OrdersIn
import Derived.ControlIn
import Derived.Test.YtpdfkakhahfcjaaGreatG15
import Derived.Deep.DeepCutAuto
namespace Go.Proofs.YtpdfkakhahfcjaaGreat
open Go.RowKit

theorem truncI_any (A : Option Addr) (n c : Nat) (img : List ByteArray) (i x : Int) (w : World) (h : Reads w w.heap.size 1 A n (encS img)) (hf : MapP img) (hx0 : -9223372036854775808 ≤ x) (hx1 : x ≤ 9223372036854775807) :
    Calls Tryz.prog 14 #[.slice A n c, .int .i64 i, .int .i64 x] w fun e w' => ImgsO w w' (truncI img i x).1 (truncI img i x).2 e :=
  truncI_of A n c img i x w h hf hx0 hx1 (fun r size W hr h1 h2 hR => growI_any A n c img r size W hr h1 h2 hf hR) (fun r size W hr h1 h2 hR => shrinkI_any A n c img r size W hr h1 h2 hf hR)

end Go.Proofs.YtpdfkakhahfcjaaGreat

/-
  The law for drawn regions (RegRel), in the body of a range over a function.
-/
namespace Go.Proofs.YtpdfkakhahfcjaaGreat

section
variable {P : Program} {ops : Array Oper} {Q : Exit → Act → World → Prop} {l n : Nat}

def Oper.isDefer (o : Oper) : Bool := match o.op with | .defer .. => true | _ => false
def noDefer (ops : Array Oper) : Bool := ops.all fun o => !Oper.isDefer o
theorem noDefer_spec (h : noDefer ops = true) {i : Nat} {o : Oper} (hi : ops[i]? = some o) : ∀ c, o.op ≠ .defer c := by
  intro c e
  have := Array.all_eq_true_iff_forall_mem.1 h o (Array.mem_of_getElem? hi)
  simp [Oper.isDefer, e] at this
theorem opIn_of {o : Oper} {a : Act} {w : World} {K : Act → World → Prop} (hnd : ∀ c, o.op ≠ .defer c) (h : o.wp P a w K (fun _ _ _ => False)) : o.wpIn (Fence.wide.inRound l) n P a w K Q := by
  refine ⟨fun _ _ => trivial, ?_⟩
  show o.uponIn _ n P a K Q ((Oper.semAt (some l) a.eval o).run P w)
  rw [Oper.semAt_eq _ _ _ hnd]
  unfold Oper.wp at h
  generalize (execOp a.eval o).run P w = r at h ⊢
  cases r with
  | ok x w' =>
    cases x with
    | value v => exact h
    | skip => exact h
    | defer d => exact h
    | enter f args =>
      exact ⟨fun hd => (by cases hd), (callsIn_wide.2 h).mono fun e w'' he => by
        cases e with
        | returned v => exact he
        | panicked c => exact he.elim
        | outgrown => obtain ⟨_, _, hf⟩ := he; exact hf.elim⟩
    | row row args => exact ⟨fun hd => (by cases hd), fun c cs _ => let ⟨v, w2, r, s⟩ := h c cs; ⟨v, w2, r, stepsIn_wide.2 s⟩⟩
    | _ => exact h.elim
  | halt x w' => cases x <;> exact h.elim
theorem Gives.atIn {o : Oper} {a b : Act} {w : World} {T : Value → World → Prop} (hnd : ∀ c, o.op ≠ .defer c) (hdef : a.defers = b.defers) (hd : ∀ d, o.dst = some d → d < b.tmps.size) (he : execOp a.eval o = execOp b.eval o)
    (h : Gives P o b w T) {K : Act → World → Prop} (hK : ∀ v w', T v w' → K (a.put o.dst v) w') : o.wpIn (Fence.wide.inRound l) n P a w K Q := opIn_of hnd (Gives.at_ hdef hd he h hK)
/-- THE LAW. C: what every world of the region meets, by what has been carried out; St i: what operation i may do to the world; R i: what i's value and the world meet from i on. -/
theorem wpIn_region_rel2 (C : (Nat → Bool) → World → Prop) (St : Nat → World → World → Prop) (R : Nat → Value → World → Prop) {id : Nat} {a0 : Act} {w : World} (hm : P.follows .mixedOrders = true) (hok : relOk ops a0.tmps.size = true) (hnd : noDefer ops = true) (hC0 : C (fun _ => false) w.drew)
    (hC : ∀ i L w w', L i = false → C L w → St i w w' → C (fun j => if j = i then true else L j) w') (hR : ∀ i j v w w', i ≠ j → St i w w' → R j v w → R j v w')
    (hops : RelL (fun i o => ∀ (V : Nat → Value) (L : Nat → Bool) (w : World), L i = false → C L w → AllL (fun j => R j (V j) w) (waitsL o.after.toList) →
      Gives P o (laidL V ops.toList 0 a0) w (fun v w' => St i w w' ∧ R i v w')) ops.toList 0)
    (hend : ∀ (V : Nat → Value) (L : Nat → Bool) (w : World), (∀ i, i < ops.size → L i = true) → C L w → (∀ i, i < ops.size → R i (V i) w) → Q .normal (laidL V ops.toList 0 a0) w) : (Code.region id ops true).wpIn (Fence.wide.inRound l) n P Q a0 w := by
  refine wpIn_region_any hm ?_
  have key : ∀ (f : Nat) (listed : Array Bool) (a : Act) (w : World), listed.size = ops.size → (listed.toList.filter (! ·)).length ≤ f →
      (∃ V : Nat → Value, a.defers = a0.defers ∧ a.tmps.size = a0.tmps.size ∧ (∀ i o d, ops[i]? = some o → o.dst = some d → listed.getD i false = true → a.tmps[d]? = some (V i)) ∧
        (∀ t, (∀ i o, ops[i]? = some o → listed.getD i false = true → o.dst ≠ some t) → a.tmps[t]? = a0.tmps[t]?) ∧ C (fun j => listed.getD j false) w ∧ ∀ i, listed.getD i false = true → R i (V i) w) → wpAnyIn (Fence.wide.inRound l) n P .any ops Q f listed a w := by
    intro f
    induction f with
    | zero =>
      intro listed a w hsz hf ⟨V, hdef, hsza, hin, hout, hCw, hRw⟩
      have hall : ∀ i, i < ops.size → listed.getD i false = true := fun i hi => by
        have hnil : listed.toList.filter (! ·) = [] := List.eq_nil_of_length_eq_zero (by omega)
        rw [List.filter_eq_nil_iff] at hnil
        have hi' : i < listed.size := by omega
        have := hnil listed[i] (by simp)
        simpa [Array.getD, hi'] using this
      have hready : Region.ready .any ops listed = [] := by
        rw [List.eq_nil_iff_forall_not_mem]
        intro j hj
        obtain ⟨h1, oj, hoj, _⟩ := mem_ready.1 hj
        have hjlt : j < ops.size := (Array.getElem?_eq_some_iff.1 hoj).1
        have := hall j hjlt
        simp [Array.getD, show j < listed.size by omega] at this h1
        rw [this] at h1; cases h1
      refine ⟨hready, ?_⟩
      have hend' := hend V _ w hall hCw (fun i hi => hRw i (hall i hi))
      have e : a = laidL V ops.toList 0 a0 := by
        have h1 : a.tmps = (laidL V ops.toList 0 a0).tmps := Array.ext_getElem? fun t => by
          by_cases ht : ∃ (i : Nat) (o : Oper), ops[i]? = some o ∧ o.dst = some t
          · obtain ⟨i, o, hi, hd⟩ := ht
            have hlt : i < ops.size := (Array.getElem?_eq_some_iff.1 hi).1
            rw [hin i o t hi hd (hall i hlt), laidL_in V t ops.toList 0 a0 i o (by simpa using hi) hd ((relOk_spec hok hi).2.2.2.1 t hd) (fun j o' hj hji => by
              have := ((relOk_spec hok (i := j) (o := o') (by simpa using hj)).2.2.2.2 i o t hi hd).1
              exact this (Ne.symm hji))]
            rw [Nat.zero_add]
          · rw [hout t (fun i o hi _ hd => ht ⟨i, o, hi, hd⟩), laidL_out V t ops.toList 0 a0 (fun o ho hd => by
              obtain ⟨i, hi⟩ := List.getElem?_of_mem ho
              exact ht ⟨i, o, by simpa using hi, hd⟩)]
        have h2 : a.defers = (laidL V ops.toList 0 a0).defers := by rw [laidL_defers, hdef]
        generalize laidL V ops.toList 0 a0 = b at h1 h2
        cases a; cases b
        simp only at h1 h2
        rw [h1, h2]
      rw [e]
      exact hend'
    | succ f ih =>
      intro listed a w hsz hf ⟨V, hdef, hsza, hin, hout, hCw, hRw⟩
      refine ⟨fun hr => ?_, fun i hi => ?_⟩
      · have hall : ∀ i, i < ops.size → listed.getD i false = true := by
          intro i
          induction i using Nat.strongRecOn with
          | _ i ihi =>
            intro hi
            have ho : ops[i]? = some ops[i] := Array.getElem?_eq_getElem hi
            cases hl : listed.getD i false with
            | true => rfl
            | false =>
              have : i ∈ Region.ready .any ops listed := mem_ready.2 ⟨by simpa [Array.getD, show i < listed.size by omega] using hl, _, ho, fun e he hbd => by
                have hlt := (relOk_spec hok ho).1 e he hbd
                exact ihi _ hlt (by omega)⟩
              rw [hr] at this
              cases this
        have h0 := ih listed a w hsz (by
          have : listed.toList.filter (! ·) = [] := by
            rw [List.filter_eq_nil_iff]
            intro x hx
            obtain ⟨i, hi, rfl⟩ := List.mem_iff_getElem.1 hx
            have hi' : i < listed.size := by simpa using hi
            have := hall i (by omega)
            simpa [Array.getD, hi'] using this
          rw [this]; simp) ⟨V, hdef, hsza, hin, hout, hCw, hRw⟩
        cases f with
        | zero => exact h0.2
        | succ f => exact h0.1 hr
      · obtain ⟨hun, o, ho, hall⟩ := mem_ready.1 hi
        have hlt : i < ops.size := (Array.getElem?_eq_some_iff.1 ho).1
        obtain ⟨_, hg, hsel, hdn, hdeps⟩ := relOk_spec hok ho
        have hdep : ∀ j ∈ waitsL o.after.toList, listed.getD j false = true := fun j hj => by
          obtain ⟨e, he, hon, hb⟩ := waitsL_mem hj
          have := hall e (by simpa using he) hb
          rwa [hon] at this
        have hgv := RelL.get hops i o (by simpa using ho) V (fun j => listed.getD j false) w (by simpa [Array.getD, show i < listed.size by omega] using hun) (by simpa using hCw) (AllL.mk fun j hj => hRw j (hdep j hj))
        rw [Nat.zero_add] at hgv
        unfold wpOpIn
        simp only [ho]
        have hw : Region.wanted o (yielded ops a.tmps) = true := by simp [Region.wanted, hg]
        rw [if_pos hw]
        refine Gives.atIn (noDefer_spec hnd ho) (b := laidL V ops.toList 0 a0) (by rw [laidL_defers]; exact hdef) (fun d hd => by rw [laidL_size]; exact hdn d hd) (execOp_congr o hsel fun x hx => eval_slots fun t e => ?_) hgv fun v w' hT => ?_
        · subst e
          have hread : t ∈ Oper.reads o := List.mem_filterMap.2 ⟨.tmp t, by simpa using hx, rfl⟩
          by_cases ht : ∃ (j : Nat) (oj : Oper), ops[j]? = some oj ∧ oj.dst = some t
          · obtain ⟨j, oj, hj, hd⟩ := ht
            obtain ⟨e, he, hon, hb⟩ := (hdeps j oj t hj hd).2 hread
            have hlj : listed.getD j false = true := by have := hall e he hb; rwa [hon] at this
            rw [hin j oj t hj hd hlj, laidL_in V t ops.toList 0 a0 j oj (by simpa using hj) hd ((relOk_spec hok hj).2.2.2.1 t hd) (fun k o' hk hkj => by
              have := ((relOk_spec hok (i := k) (o := o') (by simpa using hk)).2.2.2.2 j oj t hj hd).1
              exact this (Ne.symm hkj)), Nat.zero_add]
          · rw [hout t (fun k o' hk _ hd => ht ⟨k, o', hk, hd⟩), laidL_out V t ops.toList 0 a0 (fun o' ho' hd => by
              obtain ⟨k, hk⟩ := List.getElem?_of_mem ho'
              exact ht ⟨k, o', by simpa using hk, hd⟩)]
        · have hils : i < listed.size := by omega
          refine ih _ _ _ (by simpa using hsz) ?_ ⟨fun k => if k = i then v else V k, by rw [put_defers]; exact hdef, by rw [put_size]; exact hsza, fun j oj d hj hd hl => ?_, fun t ht => ?_, by
            have h := hC i _ w w' (by simpa [Array.getD, show i < listed.size by omega] using hun) hCw hT.1
            have e : (fun j => (listed.setIfInBounds i true).getD j false) = fun j => if j = i then true else listed.getD j false := funext fun j => by
              by_cases hji : j = i
              · subst hji; rw [if_pos rfl]; simp [Array.getD, hils]
              · rw [getD_set_ne false (Ne.symm hji), if_neg hji]
            rw [e]; exact h, fun j hl => ?_⟩
          · have := unlisted_set listed.toList i (by rw [Array.getElem?_toList, Array.getElem?_eq_getElem hils]; simpa [Array.getD, hils] using hun)
            rw [Array.toList_setIfInBounds]; omega
          · by_cases hji : j = i
            · subst hji
              obtain rfl : o = oj := Option.some.inj (ho.symm.trans hj)
              show (a.put o.dst v).tmps[d]? = some (if j = j then v else V j)
              rw [hd, if_pos rfl]
              simp [Act.put, Array.getElem?_setIfInBounds_self_of_lt (show d < a.tmps.size by rw [hsza]; exact hdn d hd)]
            · rw [getD_set_ne false (Ne.symm hji)] at hl
              show (a.put o.dst v).tmps[d]? = some (if j = i then v else V j)
              rw [if_neg hji, ← hin j oj d hj hd hl]
              have hne := (hdeps j oj d hj hd).1 hji
              cases hdo : o.dst with
              | none => rfl
              | some d' =>
                have : d' ≠ d := fun e => hne (by rw [hdo, e])
                simp [Act.put, Array.getElem?_setIfInBounds_ne this]
          · have hne : o.dst ≠ some t := ht i o ho (by simp [Array.getD, hils])
            rw [← hout t (fun k ok hk hl => ht k ok hk (getD_set_true hl))]
            cases hdo : o.dst with
            | none => rfl
            | some d' =>
              have : d' ≠ t := fun e => hne (by rw [hdo, e])
              simp [Act.put, Array.getElem?_setIfInBounds_ne this]
          · by_cases hji : j = i
            · subst hji
              show R j (if j = j then v else V j) w'
              rw [if_pos rfl]; exact hT.2
            · rw [getD_set_ne false (Ne.symm hji)] at hl
              show R j (if j = i then v else V j) w'
              rw [if_neg hji]
              exact hR i j _ w w' (Ne.symm hji) hT.1 (hRw j hl)
  refine key ops.size _ a0 _ (by simp) (by simp) ⟨fun _ => undef, rfl, rfl, fun i o d _ _ hl => ?_, fun t _ => rfl, by
    have e : (fun j => (Array.replicate ops.size false).getD j false) = fun _ => false := funext fun j => by
      rw [Array.getD_eq_getD_getElem?, Array.getElem?_replicate]; split <;> rfl
    rw [e]; exact hC0, fun i hl => ?_⟩
  · rw [Array.getD_eq_getD_getElem?, Array.getElem?_replicate] at hl; split at hl <;> cases hl
  · rw [Array.getD_eq_getD_getElem?, Array.getElem?_replicate] at hl; split at hl <;> cases hl
end
end Go.Proofs.YtpdfkakhahfcjaaGreat

/-
  Bytes written into an inode's blocks, as plain lists; the variables of the program's function.
-/
namespace Go.Proofs.YtpdfkakhahfcjaaGreat
open Go.RowKit Go.Shelf
attribute [local go_sem] Oper.semAt_some

/-- What one block of an inode takes of the bytes. -/
def putW (at_ en : Nat) (data : ByteArray) (img : List ByteArray) (p : Nat × Nat) : List ByteArray :=
  if max (at_ : Int) (IntKind.i64.wrap (128 * (p.1 : Int))) < min (en : Int) (IntKind.i64.wrap (IntKind.i64.wrap (128 * (p.1 : Int)) + 128)) then
    putI img p.2 (max (at_ : Int) (IntKind.i64.wrap (128 * (p.1 : Int))) - IntKind.i64.wrap (128 * (p.1 : Int))).toNat
      (data.extract (max (at_ : Int) (IntKind.i64.wrap (128 * (p.1 : Int))) - at_).toNat (min (en : Int) (IntKind.i64.wrap (IntKind.i64.wrap (128 * (p.1 : Int)) + 128)) - at_).toNat)
  else img
theorem putW_length (at_ en : Nat) (data : ByteArray) (img : List ByteArray) (p : Nat × Nat) : (putW at_ en data img p).length = img.length := by unfold putW; split <;> simp [putI_length]
def laidW (at_ : Nat) (data : ByteArray) (img : List ByteArray) (r : RecI) : List ByteArray := (pairsR r (lenR r)).foldl (putW at_ (at_ + data.size) data) img
def writeI (img : List ByteArray) (i at_ : Int) (data : ByteArray) : List ByteArray × Int :=
  if (heldI img i).2 ≠ 0 then (img, (heldI img i).2) else if at_ < 0 then (img, 13) else if 8704 < at_ ∨ 8704 - at_ < (data.size : Int) then (img, 12) else
    if ((heldI img i).1.size : Int) < at_ + data.size then
      if (truncI img i (at_ + data.size)).2 ≠ 0 then truncI img i (at_ + data.size) else (laidW at_.toNat data (truncI img i (at_ + data.size)).1 (recI (truncI img i (at_ + data.size)).1 i.toNat), 0)
    else (laidW at_.toNat data img (heldI img i).1, 0)

/-- The variables of the program's function. -/
structure VarsW (w W : World) (gA gD gE gO g n c at_ en : Nat) (data : ByteArray) : Prop where
  atB : W.heap[gA]? = some (.cells #[.int .i64 (at_ : Int)] 3 (0, 0))
  dataB : W.heap[gD]? = some (.cells #[.string data] 9 (0, 0))
  endB : W.heap[gE]? = some (.cells #[.int .i64 (en : Int)] 3 (0, 0))
  outB : W.heap[gO]? = some (.cells #[.slice (some ⟨g, 0, none⟩) n c] 22 (0, 0))
  ne : gA ≠ g ∧ gD ≠ g ∧ gE ≠ g ∧ gO ≠ g
  below : Below w.heap.size w W
section
variable {w W W' : World} {gA gD gE gO g n c at_ en : Nat} {data : ByteArray}
theorem VarsW.keep (h : VarsW w W gA gD gE gO g n c at_ en data) (hb : Below w.heap.size w W') (hk : ∀ k o, W.heap[k]? = some o → o.isCells = true → k ≠ g → W'.heap[k]? = some o) : VarsW w W' gA gD gE gO g n c at_ en data :=
  ⟨hk _ _ h.atB rfl h.ne.1, hk _ _ h.dataB rfl h.ne.2.1, hk _ _ h.endB rfl h.ne.2.2.1, hk _ _ h.outB rfl h.ne.2.2.2, h.ne, hb⟩
theorem VarsW.but (h : VarsW w W gA gD gE gO g n c at_ en data) (hg : w.heap.size ≤ g) (hb : But g W W') : VarsW w W' gA gD gE gO g n c at_ en data :=
  h.keep (h.below.trans (hb.to_below hg h.below.size)) fun k _o ho _ hne => (hb.block k (Array.getElem?_eq_some_iff.1 ho).1 hne).trans ho
theorem VarsW.at (h : VarsW w W gA gD gE gO g n c at_ en data) : W.cell? ⟨gA, 0, none⟩ = some (.int .i64 (at_ : Int)) := by simp [World.cell?, h.atB]
theorem VarsW.data_ (h : VarsW w W gA gD gE gO g n c at_ en data) : W.cell? ⟨gD, 0, none⟩ = some (.string data) := by simp [World.cell?, h.dataB]
theorem VarsW.end_ (h : VarsW w W gA gD gE gO g n c at_ en data) : W.cell? ⟨gE, 0, none⟩ = some (.int .i64 (en : Int)) := by simp [World.cell?, h.endB]
theorem VarsW.out (h : VarsW w W gA gD gE gO g n c at_ en data) : W.cell? ⟨gO, 0, none⟩ = some (.slice (some ⟨g, 0, none⟩) n c) := by simp [World.cell?, h.outB]
end
theorem box_set {W : World} {T : Nat} {v : Value} {e : TypeId} (h : W.heap[T]? = some (.cells #[v] e (0, 0))) (v' : Value) : (W.setCell ⟨T, 0, none⟩ v').heap[T]? = some (.cells #[v'] e (0, 0)) := by
  simp [World.setCell, Array.getElem?_modify, h]
/-- The variables ahead of the end's. -/
structure PreW (w W : World) (gO gR g n c : Nat) (at_ : Int) (data : ByteArray) (img : List ByteArray) (r : RecI) : Prop where
  atB : W.heap[w.heap.size]? = some (.cells #[.int .i64 at_] 3 (0, 0))
  dataB : W.heap[w.heap.size + 1]? = some (.cells #[.string data] 9 (0, 0))
  outB : W.heap[gO]? = some (.cells #[.slice (some ⟨g, 0, none⟩) n c] 22 (0, 0))
  recB : BR W gR r
  own : OwI W w.heap.size g n c img
  below : Below w.heap.size w W
  ne : gO ≠ g ∧ gR ≠ g ∧ w.heap.size ≠ g ∧ w.heap.size + 1 ≠ g ∧ gO ≠ gR
  ge : w.heap.size + 1 < gO ∧ w.heap.size + 1 < gR
section
variable {w W W' : World} {gO gR g n c : Nat} {at_ : Int} {data : ByteArray} {img : List ByteArray} {r : RecI}
theorem PreW.at (h : PreW w W gO gR g n c at_ data img r) : W.cell? ⟨w.heap.size, 0, none⟩ = some (.int .i64 at_) := by simp [World.cell?, h.atB]
theorem PreW.data_ (h : PreW w W gO gR g n c at_ data img r) : W.cell? ⟨w.heap.size + 1, 0, none⟩ = some (.string data) := by simp [World.cell?, h.dataB]
theorem PreW.out (h : PreW w W gO gR g n c at_ data img r) : W.cell? ⟨gO, 0, none⟩ = some (.slice (some ⟨g, 0, none⟩) n c) := by simp [World.cell?, h.outB]
theorem PreW.step (h : PreW w W gO gR g n c at_ data img r) (hb : Below W.heap.size W W') : PreW w W' gO gR g n c at_ data img r :=
  ⟨(hb.block _ (Array.getElem?_eq_some_iff.1 h.atB).1).trans h.atB, (hb.block _ (Array.getElem?_eq_some_iff.1 h.dataB).1).trans h.dataB, (hb.block _ (Array.getElem?_eq_some_iff.1 h.outB).1).trans h.outB, h.recB.step hb, h.own.step hb, bstep h.below hb, h.ne, h.ge⟩
end
theorem own_but {w w' : World} {base g n c k : Nat} {img : List ByteArray} (h : OwI w base g n c img) (hb : But k w w') (hne : k ≠ g) : OwI w' base g n c img := by
  have hlt := h.lt
  refine ⟨⟨h.own.1, ?_⟩, h.pos⟩
  rcases h.own.2 with h0 | ⟨g', cap, cur, e, h1, hh, h3⟩
  · exact .inl h0
  · refine .inr ⟨g', cap, cur, e, h1, ?_, h3⟩
    injection e with e1 e2 e3
    injection e1 with e1
    injection e1 with e1
    subst e1
    exact (hb.block g hlt (Ne.symm hne)).trans hh
/-- The image's block alone is written. -/
def MineW (g : Nat) (_ : World) (k : Nat) : Prop := k = g
theorem kpW_put {g n₀ z : Nat} (hn : n₀ ≤ z) (W : World) (l : Nat) (o o' : Obj) (hl : z ≤ l) (ho : W.heap[l]? = some o) (hc : o.isCells = false) (_hw : o.isWalk = false) : KpG (MineW g) n₀ W (W.putObj l o') :=
  ⟨belowF_put hn hl W o o' ho hc, fun k o2 h2 hc2 _ => by
    have hne : k ≠ l := fun e => by subst e; rw [ho] at h2; injection h2 with h2; subst h2; rw [hc] at hc2; cases hc2
    rw [World.putObj_heap_other hne]; exact h2, fun k h => .inl h⟩
theorem kpW_but {g n₀ : Nat} {W W' : World} (h : But g W W') (hg : n₀ ≤ g) (hn : n₀ ≤ W.heap.size) : KpG (MineW g) n₀ W W' :=
  ⟨h.to_below hg hn, fun k _o ho _ hne => (h.block k (Array.getElem?_eq_some_iff.1 ho).1 hne).trans ho, fun _k hk => .inl hk⟩
theorem keeps_but {g base n c : Nat} {img : List ByteArray} {W W' : World} (h : But g W W') (hO : OwI W base g n c img) : KeepsOthers W W' :=
  ⟨h.size, fun k o hk hc => by
    have hlt := (Array.getElem?_eq_some_iff.1 hk).1
    by_cases e : k = g
    · subst e
      rcases hO.own.2 with ⟨e, _⟩ | ⟨g', _, cur, e, _, hh, _⟩
      · cases e
      · injection e with e; injection e with e; injection e with e
        subst e
        rw [hh] at hk; injection hk with hk; subst hk; cases hc
    · exact (h.block k hlt e).trans hk⟩
/-- Between two rounds. -/
structure InvW (w w4 : World) (gA gD gE gO g n c at_ en : Nat) (data : ByteArray) (img : List ByteArray) (pre : List (Nat × Nat)) (W : World) : Prop where
  own : OwI W w.heap.size g n c (pre.foldl (putW at_ en data) img)
  vars : VarsW w W gA gD gE gO g n c at_ en data
  kp : KpG (MineW g) w.heap.size w4 W
theorem invW_own {w w4 : World} {gA gD gE gO g n c at_ en : Nat} {data : ByteArray} {img : List ByteArray} (hw : w.heap.size ≤ w4.heap.size) : OwnFrom w4.heap.size (InvW w w4 gA gD gE gO g n c at_ en data img) := by
  rintro pre X Y row ⟨h1, h2, h3⟩ hg hr
  have hcell : ∀ (k : Nat) (o : Obj), X.heap[k]? = some o → o.isCells = true → Y.heap[k]? = some o := fun k o ho hc => by
    refine (hg.block k (Array.getElem?_eq_some_iff.1 ho).1 (fun e => ?_)).trans ho
    obtain ⟨_, o', ho', hc'⟩ := hr k e.symm
    rw [ho] at ho'
    injection ho' with ho'
    subst ho'
    rw [hc] at hc'
    cases hc'
  have hbY : Below w.heap.size w Y := ownFrom_below (β := Unit) (n₀ := w.heap.size) (w₀ := w) (Nat.le_refl _) hw () X Y row h2.below hg hr
  refine ⟨⟨⟨h1.own.1, ?_⟩, h1.pos⟩, h2.keep hbY fun k o ho hc _ => hcell k o ho hc, ⟨ownFrom_below (β := Unit) (n₀ := w.heap.size) (w₀ := w4) hw hw () X Y row h3.below hg hr, fun k o ho hc hne => hcell k o (h3.keep k o ho hc hne) hc, fun k hk => .inl hk⟩⟩
  rcases h1.own.2 with h0 | ⟨g', cap, cur, e, q1, hh, q3⟩
  · exact .inl h0
  · exact .inr ⟨g', cap, cur, e, q1, hcell _ _ hh rfl, q3⟩
def NoW (_ : Code) (_ : List (Nat × Nat)) (_ : World) : Prop := False
end Go.Proofs.YtpdfkakhahfcjaaGreat
