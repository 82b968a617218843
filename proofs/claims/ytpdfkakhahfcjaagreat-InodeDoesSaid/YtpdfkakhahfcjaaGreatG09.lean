/-
  A region that draws its order, shown operation by operation: what each one's value is may hang on the order (where a new row lies), but a relation of value and world that the others keep does not.
-/
import Derived.Deep.RegionHeld
import Derived.Deep.QuietTactic
import Derived.Test.YtpdfkakhahfcjaaGreatG08
namespace Go.Proofs.YtpdfkakhahfcjaaGreat

section
variable {P : Program} {ops : Array Oper} {Q : Exit → Act → World → Prop}

/-- Carried out from here, o's value and its world meet T. -/
def Gives (P : Program) (o : Oper) (a : Act) (w : World) (T : Value → World → Prop) : Prop :=
  ∀ K : Act → World → Prop, (∀ v w', T v w' → K (a.put o.dst v) w') → o.wp P a w K (fun _ _ _ => False)

def likeA (a b : Act) (dst : Option Tmp) : Act :=
  match dst with
  | some d => { tmps := a.tmps.setIfInBounds d (b.tmps.getD d undef), defers := b.defers }
  | none => { tmps := a.tmps, defers := b.defers }
theorem likeA_put {a b : Act} (hdef : a.defers = b.defers) {dst : Option Tmp} (hd : ∀ d, dst = some d → d < b.tmps.size) (v : Value) : likeA a (b.put dst v) dst = a.put dst v := by
  cases dst with
  | none => cases a; cases b; simp only [likeA, Act.put] at *; rw [hdef]
  | some d =>
    have := hd d rfl
    cases a; cases b
    simp only [likeA, Act.put] at *
    subst hdef
    simp [Array.getD_eq_getD_getElem?, Array.getElem?_setIfInBounds_self_of_lt this]
theorem likeA_defer {a b : Act} (hdef : a.defers = b.defers) {dst : Option Tmp} (hd : ∀ d, dst = some d → d < b.tmps.size) (x : Deferred) :
    likeA a (({ b with defers := x :: b.defers } : Act).put dst undef) dst = ({ a with defers := x :: a.defers } : Act).put dst undef :=
  likeA_put (a := { a with defers := x :: a.defers }) (b := { b with defers := x :: b.defers }) (by simp [hdef]) hd undef
theorem Gives.at_ {o : Oper} {a b : Act} {w : World} {T : Value → World → Prop} (hdef : a.defers = b.defers) (hd : ∀ d, o.dst = some d → d < b.tmps.size) (he : execOp a.eval o = execOp b.eval o)
    (h : Gives P o b w T) {K : Act → World → Prop} (hK : ∀ v w', T v w' → K (a.put o.dst v) w') : o.wp P a w K Q := by
  have h1 := h (fun b' w' => K (likeA a b' o.dst) w') (fun v w' ht => by
    show K (likeA a (b.put o.dst v) o.dst) w'
    rw [likeA_put hdef hd]; exact hK v w' ht)
  unfold Oper.wp at h1 ⊢
  rw [he]
  generalize (execOp b.eval o).run P w = r at h1 ⊢
  cases r with
  | ok n w' =>
    cases n with
    | value v => simp only [Oper.upon] at h1 ⊢; rwa [likeA_put hdef hd] at h1
    | skip => simp only [Oper.upon] at h1 ⊢; rwa [likeA_put hdef hd] at h1
    | defer x => simp only [Oper.upon] at h1 ⊢; rwa [likeA_defer hdef hd] at h1
    | enter f args =>
      simp only [Oper.upon] at h1 ⊢
      refine Calls.mono h1 fun e w'' hh => ?_
      cases e with
      | returned v => simp only at hh ⊢; rwa [likeA_put hdef hd] at hh
      | panicked c => exact hh.elim
      | outgrown => obtain ⟨_, _, hf⟩ := hh; exact hf.elim
    | row row args =>
      simp only [Oper.upon] at h1 ⊢
      exact Rows.mono h1 fun v w'' hh => by rwa [likeA_put hdef hd] at hh
    | _ => exact h1.elim
  | halt x w' =>
    cases x <;> exact h1.elim

/-- All values laid, in the order of the text. -/
def laidL (V : Nat → Value) : List Oper → Nat → Act → Act
  | [], _, a => a
  | o :: r, i, a => laidL V r (i + 1) (a.put o.dst (V i))
theorem put_size (a : Act) (d : Option Tmp) (v : Value) : (a.put d v).tmps.size = a.tmps.size := by cases d <;> simp [Act.put]
theorem put_defers (a : Act) (d : Option Tmp) (v : Value) : (a.put d v).defers = a.defers := by cases d <;> rfl
theorem laidL_size (V : Nat → Value) : ∀ (l : List Oper) (i : Nat) (a : Act), (laidL V l i a).tmps.size = a.tmps.size
  | [], _, _ => rfl
  | o :: r, i, a => by rw [laidL, laidL_size V r, put_size]
theorem laidL_defers (V : Nat → Value) : ∀ (l : List Oper) (i : Nat) (a : Act), (laidL V l i a).defers = a.defers
  | [], _, _ => rfl
  | o :: r, i, a => by rw [laidL, laidL_defers V r, put_defers]
theorem laidL_out (V : Nat → Value) (t : Nat) : ∀ (l : List Oper) (i : Nat) (a : Act), (∀ o ∈ l, o.dst ≠ some t) → (laidL V l i a).tmps[t]? = a.tmps[t]?
  | [], _, _, _ => rfl
  | o :: r, i, a, h => by
    rw [laidL, laidL_out V t r _ _ (fun o ho => h o (List.mem_cons_of_mem _ ho))]
    have := h o List.mem_cons_self
    cases hd : o.dst with
    | none => rfl
    | some d =>
      have hne : d ≠ t := fun e => this (by rw [hd, e])
      simp [Act.put, Array.getElem?_setIfInBounds_ne hne]
theorem laidL_in (V : Nat → Value) (t : Nat) : ∀ (l : List Oper) (i : Nat) (a : Act) (k : Nat) (o : Oper), l[k]? = some o → o.dst = some t → t < a.tmps.size → (∀ j o', l[j]? = some o' → j ≠ k → o'.dst ≠ some t) →
    (laidL V l i a).tmps[t]? = some (V (i + k))
  | [], _, _, _, _, h, _, _, _ => by simp at h
  | o1 :: r, i, a, 0, o, h, hd, ht, hne => by
    have h : o1 = o := by simpa using h
    subst h
    rw [laidL, laidL_out V t r _ _ (fun o ho => by
      obtain ⟨j, hj⟩ := List.getElem?_of_mem ho
      exact hne (j + 1) o (by simpa using hj) (by omega)), hd]
    simp [Act.put, Array.getElem?_setIfInBounds_self_of_lt ht]
  | o1 :: r, i, a, k + 1, o, h, hd, ht, hne => by
    rw [laidL, laidL_in V t r (i + 1) _ k o (by simpa using h) hd (by rw [put_size]; exact ht) (fun j o' hj hjk => hne (j + 1) o' (by simpa using hj) (by omega)), show i + 1 + k = i + (k + 1) by omega]

def Oper.reads (o : Oper) : List Tmp := o.op.operands.toList.filterMap fun | .tmp t => some t | _ => none
def Oper.isSel (o : Oper) : Bool := match o.op with | .select .. => true | _ => false
/-- Its operands that the region writes are those of operations that it waits for; no guard; each slot is written once. -/
def relOk (ops : Array Oper) (n : Nat) : Bool := (List.range ops.size).all fun i => match ops[i]? with
  | none => true
  | some o => o.after.all (fun e => !Region.binds .any e || decide (e.on < i)) && o.guard.isNone && !Oper.isSel o && (match o.dst with | none => true | some d => decide (d < n)) && (List.range ops.size).all fun j => match ops[j]? with
    | none => true
    | some oj => match oj.dst with
      | none => true
      | some t => (decide (j = i) || decide (o.dst ≠ some t)) && (!(Oper.reads o).contains t || o.after.any fun e => decide (e.on = j) && Region.binds .any e)
theorem relOk_spec {n : Nat} (h : relOk ops n = true) {i : Nat} {o : Oper} (hi : ops[i]? = some o) : (∀ e ∈ o.after, Region.binds .any e = true → e.on < i) ∧ o.guard = none ∧ (∀ cs b, o.op ≠ .select cs b) ∧ (∀ d, o.dst = some d → d < n) ∧
    ∀ j oj t, ops[j]? = some oj → oj.dst = some t → (j ≠ i → o.dst ≠ some t) ∧ (t ∈ Oper.reads o → ∃ e ∈ o.after, e.on = j ∧ Region.binds .any e = true) := by
  have hlt : i < ops.size := (Array.getElem?_eq_some_iff.1 hi).1
  have h1 := List.all_eq_true.1 h i (List.mem_range.2 hlt)
  simp only [hi, Bool.and_eq_true] at h1
  obtain ⟨⟨⟨⟨ha, hg⟩, hs⟩, hd⟩, hall⟩ := h1
  refine ⟨fun e he hb => by have h := Array.all_eq_true_iff_forall_mem.1 ha e he; rw [hb] at h; simpa using h, by simpa using hg, fun cs b e => by simp [Oper.isSel, e] at hs, fun d e => by simpa [e] using hd, fun j oj t hj ht => ?_⟩
  have hjlt : j < ops.size := (Array.getElem?_eq_some_iff.1 hj).1
  have h2 := List.all_eq_true.1 hall j (List.mem_range.2 hjlt)
  simp only [hj, ht, Bool.and_eq_true, Bool.or_eq_true, decide_eq_true_eq, Bool.not_eq_true', Array.any_eq_true] at h2
  refine ⟨fun hne => h2.1.resolve_left hne, fun hm => ?_⟩
  rcases h2.2 with hc | ⟨k, hk, hon, hb⟩
  · have : (Oper.reads o).contains t = true := by simpa using hm
    rw [this] at hc; cases hc
  · exact ⟨_, Array.getElem_mem hk, hon, hb⟩

def RelL (F : Nat → Oper → Prop) : List Oper → Nat → Prop
  | [], _ => True
  | o :: r, i => F i o ∧ RelL F r (i + 1)
theorem RelL.get {F : Nat → Oper → Prop} : ∀ {l : List Oper} {i : Nat}, RelL F l i → ∀ k o, l[k]? = some o → F (i + k) o
  | [], _, _, _, _, h => by simp at h
  | o1 :: r, i, hr, 0, o, h => by
    have h : o1 = o := by simpa using h
    subst h; exact hr.1
  | o1 :: r, i, hr, k + 1, o, h => by
    have := RelL.get hr.2 k o (by simpa using h)
    rwa [show i + 1 + k = i + (k + 1) by omega] at this

theorem eval_slots {a b : Act} {x : Operand} (h : ∀ t, x = .tmp t → a.tmps[t]? = b.tmps[t]?) : a.eval x = b.eval x := by
  cases x with
  | tmp t =>
    have := h t rfl
    simp only [Act.eval, Array.getD_eq_getD_getElem?, this]
  | _ => rfl

theorem unlisted_set : ∀ (l : List Bool) (i : Nat), l[i]? = some false → ((l.set i true).filter (! ·)).length + 1 = (l.filter (! ·)).length
  | [], _, h => by simp at h
  | b :: r, 0, h => by
    have h : b = false := by simpa using h
    subst h; simp
  | b :: r, i + 1, h => by
    have ih := unlisted_set r i (by simpa using h)
    cases b <;> simp_all
/-- What an operation waits for. -/
def waitsL : List Edge → List Nat
  | [] => []
  | e :: r => match Region.binds .any e with
    | true => e.on :: waitsL r
    | false => waitsL r
def AllL (F : Nat → Prop) : List Nat → Prop
  | [] => True
  | j :: r => F j ∧ AllL F r
theorem AllL.mk {F : Nat → Prop} : ∀ {l : List Nat}, (∀ j ∈ l, F j) → AllL F l
  | [], _ => trivial
  | j :: _r, h => ⟨h j List.mem_cons_self, AllL.mk fun k hk => h k (List.mem_cons_of_mem _ hk)⟩
theorem waitsL_mem {j : Nat} : ∀ {l : List Edge}, j ∈ waitsL l → ∃ e ∈ l, e.on = j ∧ Region.binds .any e = true
  | [], h => by cases h
  | e :: r, h => by
    unfold waitsL at h
    cases hb : Region.binds .any e with
    | true =>
      rw [hb] at h
      rcases List.mem_cons.1 h with rfl | h
      · exact ⟨e, List.mem_cons_self, rfl, hb⟩
      · obtain ⟨e', he, hh⟩ := waitsL_mem h
        exact ⟨e', List.mem_cons_of_mem _ he, hh⟩
    | false =>
      rw [hb] at h
      obtain ⟨e', he, hh⟩ := waitsL_mem h
      exact ⟨e', List.mem_cons_of_mem _ he, hh⟩

theorem RelL.map {F G : Nat → Oper → Prop} (h : ∀ i o, F i o → G i o) : ∀ {l : List Oper} {i : Nat}, RelL F l i → RelL G l i
  | [], _, _ => trivial
  | _ :: _, _, hr => ⟨h _ _ hr.1, RelL.map h hr.2⟩
/-- THE LAW. C: what every world of the region meets, by what has been carried out; St i: what operation i may do to the world; R i: what i's value and the world meet from i on. -/
theorem wp_region_rel2 (C : (Nat → Bool) → World → Prop) (St : Nat → World → World → Prop) (R : Nat → Value → World → Prop) {id : Nat} {a0 : Act} {w : World} (hm : P.follows .mixedOrders = true) (hok : relOk ops a0.tmps.size = true) (hC0 : C (fun _ => false) w.drew)
    (hC : ∀ i L w w', L i = false → C L w → St i w w' → C (fun j => if j = i then true else L j) w') (hR : ∀ i j v w w', i ≠ j → St i w w' → R j v w → R j v w')
    (hops : RelL (fun i o => ∀ (V : Nat → Value) (L : Nat → Bool) (w : World), L i = false → C L w → AllL (fun j => R j (V j) w) (waitsL o.after.toList) →
      Gives P o (laidL V ops.toList 0 a0) w (fun v w' => St i w w' ∧ R i v w')) ops.toList 0)
    (hend : ∀ (V : Nat → Value) (L : Nat → Bool) (w : World), (∀ i, i < ops.size → L i = true) → C L w → (∀ i, i < ops.size → R i (V i) w) → Q .normal (laidL V ops.toList 0 a0) w) : (Code.region id ops true).wp P Q a0 w := by
  refine wp_region_any hm ?_
  have key : ∀ (f : Nat) (listed : Array Bool) (a : Act) (w : World), listed.size = ops.size → (listed.toList.filter (! ·)).length ≤ f →
      (∃ V : Nat → Value, a.defers = a0.defers ∧ a.tmps.size = a0.tmps.size ∧ (∀ i o d, ops[i]? = some o → o.dst = some d → listed.getD i false = true → a.tmps[d]? = some (V i)) ∧
        (∀ t, (∀ i o, ops[i]? = some o → listed.getD i false = true → o.dst ≠ some t) → a.tmps[t]? = a0.tmps[t]?) ∧ C (fun j => listed.getD j false) w ∧ ∀ i, listed.getD i false = true → R i (V i) w) → wpAny P .any ops Q f listed a w := by
    intro f
    induction f with
    | zero =>
      intro listed a w hsz hf ⟨V, hdef, hsza, hin, hout, hCw, hRw⟩
      have hall : ∀ i, i < ops.size → listed.getD i false = true := fun i hi => by
        have hnil : listed.toList.filter (! ·) = [] := List.eq_nil_of_length_eq_zero (by omega)
        rw [List.filter_eq_nil_iff] at hnil
        have hi' : i < listed.size := by omega
        have := hnil listed[i] (by simp)
        simpa [Array.getD, hi'] using this
      have hready : Region.ready .any ops listed = [] := by
        rw [List.eq_nil_iff_forall_not_mem]
        intro j hj
        obtain ⟨h1, oj, hoj, _⟩ := mem_ready.1 hj
        have hjlt : j < ops.size := (Array.getElem?_eq_some_iff.1 hoj).1
        have := hall j hjlt
        simp [Array.getD, show j < listed.size by omega] at this h1
        rw [this] at h1; cases h1
      refine ⟨hready, ?_⟩
      have hend' := hend V _ w hall hCw (fun i hi => hRw i (hall i hi))
      have e : a = laidL V ops.toList 0 a0 := by
        have h1 : a.tmps = (laidL V ops.toList 0 a0).tmps := Array.ext_getElem? fun t => by
          by_cases ht : ∃ (i : Nat) (o : Oper), ops[i]? = some o ∧ o.dst = some t
          · obtain ⟨i, o, hi, hd⟩ := ht
            have hlt : i < ops.size := (Array.getElem?_eq_some_iff.1 hi).1
            rw [hin i o t hi hd (hall i hlt), laidL_in V t ops.toList 0 a0 i o (by simpa using hi) hd ((relOk_spec hok hi).2.2.2.1 t hd) (fun j o' hj hji => by
              have := ((relOk_spec hok (i := j) (o := o') (by simpa using hj)).2.2.2.2 i o t hi hd).1
              exact this (Ne.symm hji))]
            rw [Nat.zero_add]
          · rw [hout t (fun i o hi _ hd => ht ⟨i, o, hi, hd⟩), laidL_out V t ops.toList 0 a0 (fun o ho hd => by
              obtain ⟨i, hi⟩ := List.getElem?_of_mem ho
              exact ht ⟨i, o, by simpa using hi, hd⟩)]
        have h2 : a.defers = (laidL V ops.toList 0 a0).defers := by rw [laidL_defers, hdef]
        generalize laidL V ops.toList 0 a0 = b at h1 h2
        cases a; cases b
        simp only at h1 h2
        rw [h1, h2]
      rw [e]
      exact hend'
    | succ f ih =>
      intro listed a w hsz hf ⟨V, hdef, hsza, hin, hout, hCw, hRw⟩
      refine ⟨fun hr => ?_, fun i hi => ?_⟩
      · have hall : ∀ i, i < ops.size → listed.getD i false = true := by
          intro i
          induction i using Nat.strongRecOn with
          | _ i ihi =>
            intro hi
            have ho : ops[i]? = some ops[i] := Array.getElem?_eq_getElem hi
            cases hl : listed.getD i false with
            | true => rfl
            | false =>
              have : i ∈ Region.ready .any ops listed := mem_ready.2 ⟨by simpa [Array.getD, show i < listed.size by omega] using hl, _, ho, fun e he hbd => by
                have hlt := (relOk_spec hok ho).1 e he hbd
                exact ihi _ hlt (by omega)⟩
              rw [hr] at this
              cases this
        have h0 := ih listed a w hsz (by
          have : listed.toList.filter (! ·) = [] := by
            rw [List.filter_eq_nil_iff]
            intro x hx
            obtain ⟨i, hi, rfl⟩ := List.mem_iff_getElem.1 hx
            have hi' : i < listed.size := by simpa using hi
            have := hall i (by omega)
            simpa [Array.getD, hi'] using this
          rw [this]; simp) ⟨V, hdef, hsza, hin, hout, hCw, hRw⟩
        cases f with
        | zero => exact h0.2
        | succ f => exact h0.1 hr
      · obtain ⟨hun, o, ho, hall⟩ := mem_ready.1 hi
        have hlt : i < ops.size := (Array.getElem?_eq_some_iff.1 ho).1
        obtain ⟨_, hg, hsel, hdn, hdeps⟩ := relOk_spec hok ho
        have hdep : ∀ j ∈ waitsL o.after.toList, listed.getD j false = true := fun j hj => by
          obtain ⟨e, he, hon, hb⟩ := waitsL_mem hj
          have := hall e (by simpa using he) hb
          rwa [hon] at this
        have hgv := RelL.get hops i o (by simpa using ho) V (fun j => listed.getD j false) w (by simpa [Array.getD, show i < listed.size by omega] using hun) (by simpa using hCw) (AllL.mk fun j hj => hRw j (hdep j hj))
        rw [Nat.zero_add] at hgv
        unfold wpOp
        simp only [ho]
        have hw : Region.wanted o (yielded ops a.tmps) = true := by simp [Region.wanted, hg]
        rw [if_pos hw]
        refine .inl (Gives.at_ (b := laidL V ops.toList 0 a0) (by rw [laidL_defers]; exact hdef) (fun d hd => by rw [laidL_size]; exact hdn d hd) (execOp_congr o hsel fun x hx => eval_slots fun t e => ?_) hgv fun v w' hT => ?_)
        · subst e
          have hread : t ∈ Oper.reads o := List.mem_filterMap.2 ⟨.tmp t, by simpa using hx, rfl⟩
          by_cases ht : ∃ (j : Nat) (oj : Oper), ops[j]? = some oj ∧ oj.dst = some t
          · obtain ⟨j, oj, hj, hd⟩ := ht
            obtain ⟨e, he, hon, hb⟩ := (hdeps j oj t hj hd).2 hread
            have hlj : listed.getD j false = true := by have := hall e he hb; rwa [hon] at this
            rw [hin j oj t hj hd hlj, laidL_in V t ops.toList 0 a0 j oj (by simpa using hj) hd ((relOk_spec hok hj).2.2.2.1 t hd) (fun k o' hk hkj => by
              have := ((relOk_spec hok (i := k) (o := o') (by simpa using hk)).2.2.2.2 j oj t hj hd).1
              exact this (Ne.symm hkj)), Nat.zero_add]
          · rw [hout t (fun k o' hk _ hd => ht ⟨k, o', hk, hd⟩), laidL_out V t ops.toList 0 a0 (fun o' ho' hd => by
              obtain ⟨k, hk⟩ := List.getElem?_of_mem ho'
              exact ht ⟨k, o', by simpa using hk, hd⟩)]
        · have hils : i < listed.size := by omega
          refine ih _ _ _ (by simpa using hsz) ?_ ⟨fun k => if k = i then v else V k, by rw [put_defers]; exact hdef, by rw [put_size]; exact hsza, fun j oj d hj hd hl => ?_, fun t ht => ?_, by
            have h := hC i _ w w' (by simpa [Array.getD, show i < listed.size by omega] using hun) hCw hT.1
            have e : (fun j => (listed.setIfInBounds i true).getD j false) = fun j => if j = i then true else listed.getD j false := funext fun j => by
              by_cases hji : j = i
              · subst hji; rw [if_pos rfl]; simp [Array.getD, hils]
              · rw [getD_set_ne false (Ne.symm hji), if_neg hji]
            rw [e]; exact h, fun j hl => ?_⟩
          · have := unlisted_set listed.toList i (by rw [Array.getElem?_toList, Array.getElem?_eq_getElem hils]; simpa [Array.getD, hils] using hun)
            rw [Array.toList_setIfInBounds]; omega
          · by_cases hji : j = i
            · subst hji
              obtain rfl : o = oj := Option.some.inj (ho.symm.trans hj)
              show (a.put o.dst v).tmps[d]? = some (if j = j then v else V j)
              rw [hd, if_pos rfl]
              simp [Act.put, Array.getElem?_setIfInBounds_self_of_lt (show d < a.tmps.size by rw [hsza]; exact hdn d hd)]
            · rw [getD_set_ne false (Ne.symm hji)] at hl
              show (a.put o.dst v).tmps[d]? = some (if j = i then v else V j)
              rw [if_neg hji, ← hin j oj d hj hd hl]
              have hne := (hdeps j oj d hj hd).1 hji
              cases hdo : o.dst with
              | none => rfl
              | some d' =>
                have : d' ≠ d := fun e => hne (by rw [hdo, e])
                simp [Act.put, Array.getElem?_setIfInBounds_ne this]
          · have hne : o.dst ≠ some t := ht i o ho (by simp [Array.getD, hils])
            rw [← hout t (fun k ok hk hl => ht k ok hk (getD_set_true hl))]
            cases hdo : o.dst with
            | none => rfl
            | some d' =>
              have : d' ≠ t := fun e => hne (by rw [hdo, e])
              simp [Act.put, Array.getElem?_setIfInBounds_ne this]
          · by_cases hji : j = i
            · subst hji
              show R j (if j = j then v else V j) w'
              rw [if_pos rfl]; exact hT.2
            · rw [getD_set_ne false (Ne.symm hji)] at hl
              show R j (if j = i then v else V j) w'
              rw [if_neg hji]
              exact hR i j _ w w' (Ne.symm hji) hT.1 (hRw j hl)
  refine key ops.size _ a0 _ (by simp) (by simp) ⟨fun _ => undef, rfl, rfl, fun i o d _ _ hl => ?_, fun t _ => rfl, by
    have e : (fun j => (Array.replicate ops.size false).getD j false) = fun _ => false := funext fun j => by
      rw [Array.getD_eq_getD_getElem?, Array.getElem?_replicate]; split <;> rfl
    rw [e]; exact hC0, fun i hl => ?_⟩
  · rw [Array.getD_eq_getD_getElem?, Array.getElem?_replicate] at hl; split at hl <;> cases hl
  · rw [Array.getD_eq_getD_getElem?, Array.getElem?_replicate] at hl; split at hl <;> cases hl
/-- The same where it does not matter what has been carried out: C: what every world of the region meets; St i: what operation i may do to the world; R i: what i's value and the world meet from i on. -/
theorem wp_region_rel (C : World → Prop) (St : Nat → World → World → Prop) (R : Nat → Value → World → Prop) {id : Nat} {a0 : Act} {w : World} (hm : P.follows .mixedOrders = true) (hok : relOk ops a0.tmps.size = true) (hC0 : C w.drew)
    (hC : ∀ i w w', C w → St i w w' → C w') (hR : ∀ i j v w w', i ≠ j → St i w w' → R j v w → R j v w')
    (hops : RelL (fun i o => ∀ (V : Nat → Value) (w : World), C w → AllL (fun j => R j (V j) w) (waitsL o.after.toList) →
      Gives P o (laidL V ops.toList 0 a0) w (fun v w' => St i w w' ∧ R i v w')) ops.toList 0)
    (hend : ∀ (V : Nat → Value) (w : World), C w → (∀ i, i < ops.size → R i (V i) w) → Q .normal (laidL V ops.toList 0 a0) w) : (Code.region id ops true).wp P Q a0 w :=
  wp_region_rel2 (fun _ => C) St R hm hok hC0 (fun i _ w w' _ h hs => hC i w w' h hs) hR (RelL.map (fun _ _ h V _ w _ hCw hd => h V w hCw hd) hops) (fun V _ w _ hCw h => hend V w hCw h)
end

end Go.Proofs.YtpdfkakhahfcjaaGreat

/-
  An inode's bytes, as the program writes them.
-/
namespace Go.Proofs.YtpdfkakhahfcjaaGreat
open Go.RowKit

def eqV (X : Value) : Value → World → Prop := fun v _ => v = X
/-- A row of numbers just made. -/
def rowV (n : Nat) (l : List Nat) : Value → World → Prop := fun v w => ∃ b, v = .slice (some ⟨b, 0, none⟩) n n ∧ Reads w w.heap.size 1 (some ⟨b, 0, none⟩) n (encN l)
def bytV (n : Nat) (l : List UInt8) : Value → World → Prop := fun v w => ∃ b, v = .slice (some ⟨b, 0, none⟩) n n ∧ Byt w b l
theorem rowV_out {n : Nat} {l : List Nat} {v : Value} {w : World} (h : rowV n l v w) : ∃ b, v = .slice (some ⟨b, 0, none⟩) n n ∧ Reads w w.heap.size 1 (some ⟨b, 0, none⟩) n (encN l) := h
theorem bytV_out {n : Nat} {l : List UInt8} {v : Value} {w : World} (h : bytV n l v w) : ∃ b, v = .slice (some ⟨b, 0, none⟩) n n ∧ Byt w b l := h

/-- What each operation of the region yields. -/
def textV (g : Nat) (r : RecI) : Nat → Value → World → Prop
  | 0 => eqV (.pointer (some ⟨g, 1, none⟩))
  | 1 => eqV (.pointer (some ⟨g, 1, none⟩))
  | 2 => eqV (.int .i64 (r.kind : Int))
  | 3 => eqV (.int .u8 (r.kind : Int))
  | 4 => bytV 1 [UInt8.ofNat r.kind]
  | 5 => eqV (.string (mkB [UInt8.ofNat r.kind]))
  | 6 => eqV (.pointer (some ⟨g, 1, none⟩))
  | 7 => eqV (.pointer (some ⟨g, 2, none⟩))
  | 8 => eqV (.int .i64 (r.size : Int))
  | 9 => eqV (.int .i64 ((r.size / 65536 : Nat) : Int))
  | 10 => eqV (.pointer (some ⟨g, 1, none⟩))
  | 11 => eqV (.pointer (some ⟨g, 2, none⟩))
  | 12 => eqV (.int .i64 (r.size : Int))
  | 13 => rowV 2 [r.size / 65536, r.size]
  | 14 => eqV (.string (listB [r.size / 65536, r.size]))
  | 15 => eqV (.string (mkB [UInt8.ofNat r.kind] ++ listB [r.size / 65536, r.size]))
  | 16 => eqV (.pointer (some ⟨g, 1, none⟩))
  | 17 => eqV (.pointer (some ⟨g, 3, none⟩))
  | 18 => eqV (.slice (some ⟨g, 3, none⟩) 4 4)
  | 19 => eqV (.string (listB r.bl))
  | 20 => eqV (.string (mkB [UInt8.ofNat r.kind] ++ (listB [r.size / 65536, r.size] ++ listB r.bl)))
  | 21 => eqV (.pointer (some ⟨g, 1, none⟩))
  | 22 => eqV (.pointer (some ⟨g, 7, none⟩))
  | 23 => eqV (.int .i64 (r.ind : Int))
  | 24 => rowV 1 [r.ind]
  | 25 => eqV (.string (listB [r.ind]))
  | 26 => eqV (.string (mkB [UInt8.ofNat r.kind] ++ (listB [r.size / 65536, r.size] ++ (listB r.bl ++ listB [r.ind]))))
  | 27 => eqV (.string (mkB [UInt8.ofNat r.kind] ++ (listB [r.size / 65536, r.size] ++ (listB r.bl ++ listB [r.ind]))))
  | _ => fun _ _ => True
theorem textV_stable (g : Nat) (r : RecI) (j : Nat) (v : Value) (w w' : World) (hb : Below w.heap.size w w') (h : textV g r j v w) : textV g r j v w' := by
  match j, h with
  | 4, h => obtain ⟨b, e, h⟩ := h; exact ⟨b, e, h.step hb⟩
  | 13, h => obtain ⟨b, e, h⟩ := h; exact ⟨b, e, h.step hb⟩
  | 24, h => obtain ⟨b, e, h⟩ := h; exact ⟨b, e, h.step hb⟩
  | 0, h => exact h
  | 1, h => exact h
  | 2, h => exact h
  | 3, h => exact h
  | 5, h => exact h
  | 6, h => exact h
  | 7, h => exact h
  | 8, h => exact h
  | 9, h => exact h
  | 10, h => exact h
  | 11, h => exact h
  | 12, h => exact h
  | 14, h => exact h
  | 15, h => exact h
  | 16, h => exact h
  | 17, h => exact h
  | 18, h => exact h
  | 19, h => exact h
  | 20, h => exact h
  | 21, h => exact h
  | 22, h => exact h
  | 23, h => exact h
  | 25, h => exact h
  | 26, h => exact h
  | 27, h => exact h
  | _ + 28, _ => trivial

set_option maxRecDepth 100000 in
set_option maxHeartbeats 4000000 in
theorem text_any (r : RecI) (hr : OkR r) (w : World) : Calls Tryz.prog 70 #[valR r] w fun e w' => e = .returned (.string (textR r)) ∧ Below w.heap.size w w' := by
  have hmx : Tryz.prog.follows .mixedOrders = true := by kernel_rfl
  have HR := Lib.hid hr
  have hk : (r.kind : Int) ≤ 255 := by have := hr.kind; omega
  have hs : (r.size : Int) < 4294967296 := by have := hr.size; omega
  have hB := BR.new w r
  have hb0 := (Below.refl w.heap.size w).alloc (Nat.le_refl _) (.cells (cellsR r).toArray 62)
  have HB := Lib.hid (And.intro hB hb0)
  clear hr hB hb0
  unfold valR
  go_enter Tryz.func70, Tryz.ntmps70
  go_wp2
  obtain ⟨g, hg⟩ : ∃ g, g = w.heap.size := ⟨_, rfl⟩
  rw [← hg] at HB ⊢
  obtain ⟨w1, hw1⟩ : ∃ w1, w1 = w.alloc (.cells (cellsR r).toArray 62) := ⟨_, rfl⟩
  rw [← hw1] at HB ⊢
  have HG := Lib.hid hg
  clear hg hw1
  refine wp_region_rel (fun w' => Below w1.heap.size w1 w') (fun _ w w' => Below w.heap.size w w') (textV g r) hmx (by kernel_rfl) ((Below.refl _ _).drew) (fun i w w' hC hs => bstep hC hs) (fun i j v w w' _ hs h => textV_stable g r j v w w' hs h) ?_ ?_
  · refine ⟨?_, ?_, ?_, ?_, ?_, ?_, ?_, ?_, ?_, ?_, ?_, ?_, ?_, ?_, ?_, ?_, ?_, ?_, ?_, ?_, ?_, ?_, ?_, ?_, ?_, ?_, ?_, ?_, trivial⟩
    · intro V W hC hd K hK
      clear hd
      simp only [laidL, Act.put, List.setIfInBounds_toArray, List.set_cons_zero, List.set_cons_succ] at hK ⊢
      go_simp
      exact hK _ _ ⟨Below.refl _ _, rfl⟩
    · intro V W hC hd K hK
      have q0 : textV g r 0 (V 0) W := hd.1
      have e0 : V 0 = .pointer (some ⟨g, 1, none⟩) := q0
      clear q0
      clear hd
      simp only [laidL, Act.put, List.setIfInBounds_toArray, List.set_cons_zero, List.set_cons_succ] at hK ⊢
      generalize V 0 = v0 at e0 hK ⊢
      subst e0
      go_simp
      exact hK _ _ ⟨Below.refl _ _, rfl⟩
    · intro V W hC hd K hK
      have q1 : textV g r 1 (V 1) W := hd.1
      have e1 : V 1 = .pointer (some ⟨g, 1, none⟩) := q1
      clear q1
      clear hd
      simp only [laidL, Act.put, List.setIfInBounds_toArray, List.set_cons_zero, List.set_cons_succ] at hK ⊢
      generalize V 1 = v1 at e1 hK ⊢
      subst e1
      have hc := (HB.out.1.step hC).kind
      go_simp
      exact hK _ _ ⟨Below.refl _ _, rfl⟩
    · intro V W hC hd K hK
      have q2 : textV g r 2 (V 2) W := hd.1
      have e2 : V 2 = .int .i64 (r.kind : Int) := q2
      clear q2
      clear hd
      simp only [laidL, Act.put, List.setIfInBounds_toArray, List.set_cons_zero, List.set_cons_succ] at hK ⊢
      generalize V 2 = v2 at e2 hK ⊢
      subst e2
      go_simp
      exact hK _ _ ⟨Below.refl _ _, congrArg (Value.int .u8) (by rw [IntKind.wrap_u8]; omega)⟩
    · intro V W hC hd K hK
      have q3 : textV g r 3 (V 3) W := hd.1
      have e3 : V 3 = .int .u8 (r.kind : Int) := q3
      clear q3
      clear hd
      simp only [laidL, Act.put, List.setIfInBounds_toArray, List.set_cons_zero, List.set_cons_succ] at hK ⊢
      generalize V 3 = v3 at e3 hK ⊢
      subst e3
      go_simp
      exact hK _ _ ⟨(Below.refl _ _).alloc (Nat.le_refl _) _, _, rfl, Byt.of_lit [UInt8.ofNat r.kind] _ (by simp; omega)⟩
    · intro V W hC hd K hK
      have q4 : textV g r 4 (V 4) W := hd.1
      have q4 : bytV 1 [UInt8.ofNat r.kind] (V 4) W := q4
      have p4 := bytV_out q4
      clear q4 hd
      cases p4
      rename_i b4 hh
      have e4 := hh.1
      have h4 := hh.2
      clear hh
      simp only [laidL, Act.put, List.setIfInBounds_toArray, List.set_cons_zero, List.set_cons_succ] at hK ⊢
      generalize V 4 = v4 at e4 hK ⊢
      subst e4
      have hcv := h4.conv (P := Tryz.prog) Tryz.underlying53 Tryz.underlying5 Tryz.underlying9 1 1 rfl
      go_simp
      exact hK _ _ ⟨Below.refl _ _, rfl⟩
    · intro V W hC hd K hK
      clear hd
      simp only [laidL, Act.put, List.setIfInBounds_toArray, List.set_cons_zero, List.set_cons_succ] at hK ⊢
      go_simp
      exact hK _ _ ⟨Below.refl _ _, rfl⟩
    · intro V W hC hd K hK
      have q6 : textV g r 6 (V 6) W := hd.1
      have e6 : V 6 = .pointer (some ⟨g, 1, none⟩) := q6
      clear q6
      clear hd
      simp only [laidL, Act.put, List.setIfInBounds_toArray, List.set_cons_zero, List.set_cons_succ] at hK ⊢
      generalize V 6 = v6 at e6 hK ⊢
      subst e6
      go_simp
      exact hK _ _ ⟨Below.refl _ _, rfl⟩
    · intro V W hC hd K hK
      have q7 : textV g r 7 (V 7) W := hd.1
      have e7 : V 7 = .pointer (some ⟨g, 2, none⟩) := q7
      clear q7
      clear hd
      simp only [laidL, Act.put, List.setIfInBounds_toArray, List.set_cons_zero, List.set_cons_succ] at hK ⊢
      generalize V 7 = v7 at e7 hK ⊢
      subst e7
      have hc := (HB.out.1.step hC).size
      go_simp
      exact hK _ _ ⟨Below.refl _ _, rfl⟩
    · intro V W hC hd K hK
      have q8 : textV g r 8 (V 8) W := hd.1
      have e8 : V 8 = .int .i64 (r.size : Int) := q8
      clear q8
      clear hd
      simp only [laidL, Act.put, List.setIfInBounds_toArray, List.set_cons_zero, List.set_cons_succ] at hK ⊢
      generalize V 8 = v8 at e8 hK ⊢
      subst e8
      go_simp
      exact hK _ _ ⟨Below.refl _ _, congrArg (Value.int .i64) (by omega)⟩
    · intro V W hC hd K hK
      clear hd
      simp only [laidL, Act.put, List.setIfInBounds_toArray, List.set_cons_zero, List.set_cons_succ] at hK ⊢
      go_simp
      exact hK _ _ ⟨Below.refl _ _, rfl⟩
    · intro V W hC hd K hK
      have q10 : textV g r 10 (V 10) W := hd.1
      have e10 : V 10 = .pointer (some ⟨g, 1, none⟩) := q10
      clear q10
      clear hd
      simp only [laidL, Act.put, List.setIfInBounds_toArray, List.set_cons_zero, List.set_cons_succ] at hK ⊢
      generalize V 10 = v10 at e10 hK ⊢
      subst e10
      go_simp
      exact hK _ _ ⟨Below.refl _ _, rfl⟩
    · intro V W hC hd K hK
      have q11 : textV g r 11 (V 11) W := hd.1
      have e11 : V 11 = .pointer (some ⟨g, 2, none⟩) := q11
      clear q11
      clear hd
      simp only [laidL, Act.put, List.setIfInBounds_toArray, List.set_cons_zero, List.set_cons_succ] at hK ⊢
      generalize V 11 = v11 at e11 hK ⊢
      subst e11
      have hc := (HB.out.1.step hC).size
      go_simp
      exact hK _ _ ⟨Below.refl _ _, rfl⟩
    · intro V W hC hd K hK
      have q9 : textV g r 9 (V 9) W := hd.1
      have e9 : V 9 = .int .i64 ((r.size / 65536 : Nat) : Int) := q9
      clear q9
      have q12 : textV g r 12 (V 12) W := hd.2.1
      have e12 : V 12 = .int .i64 (r.size : Int) := q12
      clear q12
      clear hd
      simp only [laidL, Act.put, List.setIfInBounds_toArray, List.set_cons_zero, List.set_cons_succ] at hK ⊢
      generalize V 9 = v9 at e9 hK ⊢
      subst e9
      generalize V 12 = v12 at e12 hK ⊢
      subst e12
      go_simp
      exact hK _ _ ⟨(Below.refl _ _).alloc (Nat.le_refl _) _, _, rfl, reads_new _ _ _ 2 1 rfl⟩
    · intro V W hC hd K hK
      have q13 : textV g r 13 (V 13) W := hd.1
      have q13 : rowV 2 [r.size / 65536, r.size] (V 13) W := q13
      have p13 := rowV_out q13
      clear q13 hd
      cases p13
      rename_i b13 hh
      have e13 := hh.1
      have h13 := hh.2
      clear hh
      simp only [laidL, Act.put, List.setIfInBounds_toArray, List.set_cons_zero, List.set_cons_succ] at hK ⊢
      generalize V 13 = v13 at e13 hK ⊢
      subst e13
      go_simp
      go_at_call 71
      refine (spelt_any _ _ _ _ _ h13 (show 2 ≤ 512 by omega) (show 0 < 2 by omega)).mono ?_
      rintro e w3 ⟨rfl, hb3⟩
      exact hK _ _ ⟨hb3, rfl⟩
    · intro V W hC hd K hK
      have q5 : textV g r 5 (V 5) W := hd.1
      have e5 : V 5 = .string (mkB [UInt8.ofNat r.kind]) := q5
      clear q5
      have q14 : textV g r 14 (V 14) W := hd.2.1
      have e14 : V 14 = .string (listB [r.size / 65536, r.size]) := q14
      clear q14
      clear hd
      simp only [laidL, Act.put, List.setIfInBounds_toArray, List.set_cons_zero, List.set_cons_succ] at hK ⊢
      generalize V 5 = v5 at e5 hK ⊢
      subst e5
      generalize V 14 = v14 at e14 hK ⊢
      subst e14
      have hno : ¬ 9223372036854775807 < (mkB [UInt8.ofNat r.kind]).size + (listB [r.size / 65536, r.size]).size := by rw [mkB_size, listB_size]; simp
      go_simp
      exact hK _ _ ⟨Below.refl _ _, rfl⟩
    · intro V W hC hd K hK
      clear hd
      simp only [laidL, Act.put, List.setIfInBounds_toArray, List.set_cons_zero, List.set_cons_succ] at hK ⊢
      go_simp
      exact hK _ _ ⟨Below.refl _ _, rfl⟩
    · intro V W hC hd K hK
      have q16 : textV g r 16 (V 16) W := hd.1
      have e16 : V 16 = .pointer (some ⟨g, 1, none⟩) := q16
      clear q16
      clear hd
      simp only [laidL, Act.put, List.setIfInBounds_toArray, List.set_cons_zero, List.set_cons_succ] at hK ⊢
      generalize V 16 = v16 at e16 hK ⊢
      subst e16
      go_simp
      exact hK _ _ ⟨Below.refl _ _, rfl⟩
    · intro V W hC hd K hK
      have q17 : textV g r 17 (V 17) W := hd.1
      have e17 : V 17 = .pointer (some ⟨g, 3, none⟩) := q17
      clear q17
      clear hd
      simp only [laidL, Act.put, List.setIfInBounds_toArray, List.set_cons_zero, List.set_cons_succ] at hK ⊢
      generalize V 17 = v17 at e17 hK ⊢
      subst e17
      go_simp
      exact hK _ _ ⟨Below.refl _ _, rfl⟩
    · intro V W hC hd K hK
      have q18 : textV g r 18 (V 18) W := hd.1
      have e18 : V 18 = .slice (some ⟨g, 3, none⟩) 4 4 := q18
      clear q18
      clear hd
      simp only [laidL, Act.put, List.setIfInBounds_toArray, List.set_cons_zero, List.set_cons_succ] at hK ⊢
      generalize V 18 = v18 at e18 hK ⊢
      subst e18
      go_simp
      go_at_call 71
      refine (spelt_any _ _ _ _ _ ((HB.out.1.step hC).bl HR.out) (show 4 ≤ 512 by omega) (show 0 < 4 by omega)).mono ?_
      rintro e w3 ⟨rfl, hb3⟩
      exact hK _ _ ⟨hb3, rfl⟩
    · intro V W hC hd K hK
      have q15 : textV g r 15 (V 15) W := hd.1
      have e15 : V 15 = .string (mkB [UInt8.ofNat r.kind] ++ listB [r.size / 65536, r.size]) := q15
      clear q15
      have q19 : textV g r 19 (V 19) W := hd.2.1
      have e19 : V 19 = .string (listB r.bl) := q19
      clear q19
      clear hd
      simp only [laidL, Act.put, List.setIfInBounds_toArray, List.set_cons_zero, List.set_cons_succ] at hK ⊢
      generalize V 15 = v15 at e15 hK ⊢
      subst e15
      generalize V 19 = v19 at e19 hK ⊢
      subst e19
      have hno : ¬ 9223372036854775807 < (mkB [UInt8.ofNat r.kind]).size + (listB [r.size / 65536, r.size]).size + (listB r.bl).size := by rw [mkB_size, listB_size, listB_size, HR.out.bl]; simp
      go_simp
      exact hK (.string (mkB [UInt8.ofNat r.kind] ++ listB [r.size / 65536, r.size] ++ listB r.bl)) _ ⟨Below.refl _ _, by show Value.string _ = Value.string _; simp only [ByteArray.append_assoc]⟩
    · intro V W hC hd K hK
      clear hd
      simp only [laidL, Act.put, List.setIfInBounds_toArray, List.set_cons_zero, List.set_cons_succ] at hK ⊢
      go_simp
      exact hK _ _ ⟨Below.refl _ _, rfl⟩
    · intro V W hC hd K hK
      have q21 : textV g r 21 (V 21) W := hd.1
      have e21 : V 21 = .pointer (some ⟨g, 1, none⟩) := q21
      clear q21
      clear hd
      simp only [laidL, Act.put, List.setIfInBounds_toArray, List.set_cons_zero, List.set_cons_succ] at hK ⊢
      generalize V 21 = v21 at e21 hK ⊢
      subst e21
      go_simp
      exact hK _ _ ⟨Below.refl _ _, rfl⟩
    · intro V W hC hd K hK
      have q22 : textV g r 22 (V 22) W := hd.1
      have e22 : V 22 = .pointer (some ⟨g, 7, none⟩) := q22
      clear q22
      clear hd
      simp only [laidL, Act.put, List.setIfInBounds_toArray, List.set_cons_zero, List.set_cons_succ] at hK ⊢
      generalize V 22 = v22 at e22 hK ⊢
      subst e22
      have hc := (HB.out.1.step hC).ind HR.out
      go_simp
      exact hK _ _ ⟨Below.refl _ _, rfl⟩
    · intro V W hC hd K hK
      have q23 : textV g r 23 (V 23) W := hd.1
      have e23 : V 23 = .int .i64 (r.ind : Int) := q23
      clear q23
      clear hd
      simp only [laidL, Act.put, List.setIfInBounds_toArray, List.set_cons_zero, List.set_cons_succ] at hK ⊢
      generalize V 23 = v23 at e23 hK ⊢
      subst e23
      go_simp
      exact hK _ _ ⟨(Below.refl _ _).alloc (Nat.le_refl _) _, _, rfl, reads_new _ _ _ 1 1 rfl⟩
    · intro V W hC hd K hK
      have q24 : textV g r 24 (V 24) W := hd.1
      have q24 : rowV 1 [r.ind] (V 24) W := q24
      have p24 := rowV_out q24
      clear q24 hd
      cases p24
      rename_i b24 hh
      have e24 := hh.1
      have h24 := hh.2
      clear hh
      simp only [laidL, Act.put, List.setIfInBounds_toArray, List.set_cons_zero, List.set_cons_succ] at hK ⊢
      generalize V 24 = v24 at e24 hK ⊢
      subst e24
      go_simp
      go_at_call 71
      refine (spelt_any _ _ _ _ _ h24 (show 1 ≤ 512 by omega) (show 0 < 1 by omega)).mono ?_
      rintro e w3 ⟨rfl, hb3⟩
      exact hK _ _ ⟨hb3, rfl⟩
    · intro V W hC hd K hK
      have q20 : textV g r 20 (V 20) W := hd.1
      have e20 : V 20 = .string (mkB [UInt8.ofNat r.kind] ++ (listB [r.size / 65536, r.size] ++ listB r.bl)) := q20
      clear q20
      have q25 : textV g r 25 (V 25) W := hd.2.1
      have e25 : V 25 = .string (listB [r.ind]) := q25
      clear q25
      clear hd
      simp only [laidL, Act.put, List.setIfInBounds_toArray, List.set_cons_zero, List.set_cons_succ] at hK ⊢
      generalize V 20 = v20 at e20 hK ⊢
      subst e20
      generalize V 25 = v25 at e25 hK ⊢
      subst e25
      have hno : ¬ 9223372036854775807 < (mkB [UInt8.ofNat r.kind]).size + ((listB [r.size / 65536, r.size]).size + (listB r.bl).size) + (listB [r.ind]).size := by rw [mkB_size, listB_size, listB_size, listB_size, HR.out.bl]; simp
      go_simp
      exact hK (.string (mkB [UInt8.ofNat r.kind] ++ (listB [r.size / 65536, r.size] ++ listB r.bl) ++ listB [r.ind])) _ ⟨Below.refl _ _, by show Value.string _ = Value.string _; simp only [ByteArray.append_assoc]⟩
    · intro V W hC hd K hK
      have q26 : textV g r 26 (V 26) W := hd.1
      have e26 : V 26 = .string (mkB [UInt8.ofNat r.kind] ++ (listB [r.size / 65536, r.size] ++ (listB r.bl ++ listB [r.ind]))) := q26
      clear q26
      clear hd
      simp only [laidL, Act.put, List.setIfInBounds_toArray, List.set_cons_zero, List.set_cons_succ] at hK ⊢
      generalize V 26 = v26 at e26 hK ⊢
      subst e26
      go_simp
      exact hK _ _ ⟨Below.refl _ _, rfl⟩
  · intro V W hC hV
    have e27 : V 27 = .string (mkB [UInt8.ofNat r.kind] ++ (listB [r.size / 65536, r.size] ++ (listB r.bl ++ listB [r.ind]))) := hV 27 (show 27 < 28 by decide)
    clear hV
    simp only [laidL, Act.put, List.setIfInBounds_toArray, List.set_cons_zero, List.set_cons_succ]
    generalize V 27 = v27 at e27 ⊢
    subst e27
    have cz : ∀ W : World, Calls Tryz.prog 83 #[.int .i64 17] W fun e w' => e = .returned (.string (zeroN 17)) ∧ Below W.heap.size W w' := fun W => zerosI_any 17 (by omega) W
    obtain ⟨s, hs⟩ : ∃ s, s = mkB [UInt8.ofNat r.kind] ++ (listB [r.size / 65536, r.size] ++ (listB r.bl ++ listB [r.ind])) := ⟨_, rfl⟩
    have hsz : s.size = 15 := by rw [hs, ByteArray.size_append, ByteArray.size_append, ByteArray.size_append, mkB_size, listB_size, listB_size, listB_size, HR.out.bl]; rfl
    have hT : s ++ zeroN 17 = textR r := by
      rw [hs]
      apply ByteArray.ext
      simp only [ByteArray.data_append, textR, headR, listB, mkB, zeroN, rep_zeroA]
      apply Array.ext'
      simp
    have HT := Lib.hid hT
    rw [← hs]
    have h17 : (32 : Int) - (s.size : Int) = 17 := by omega
    have hno : ¬ 9223372036854775807 < s.size + (zeroN 17).size := by rw [hsz]; decide
    have HC := Lib.hid hC
    clear hs hsz hT hC
    generalize zeroN 17 = z at cz HT hno
    go_wp2_with (go_at_call 83; refine (cz _).mono ?_; rintro e w3 ⟨rfl, hb3⟩)
    go_ret
    rw [HT.out]
    have hfin := HB.out.2.trans ((HC.out.trans (hb3.mono HC.out.size)).mono (Nat.le_of_lt HB.out.1.lt))
    rw [HG.out] at hfin
    exact ⟨rfl, hfin⟩

end Go.Proofs.YtpdfkakhahfcjaaGreat
