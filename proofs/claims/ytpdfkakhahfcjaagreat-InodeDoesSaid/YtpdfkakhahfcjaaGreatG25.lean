/-
  The law for drawn regions whose relations hold till another operation is carried out; what an operation waits for has been carried out ahead of it.
-/
import Derived.Test.YtpdfkakhahfcjaaGreatG17
namespace Go.Proofs.YtpdfkakhahfcjaaGreat

/-- With an operation all that it waits for has been carried out. -/
def ClosedL (tab : List (List Nat)) (L : Nat → Bool) : Prop := ∀ i, L i = true → ∀ j ∈ tab.getD i [], L j = true
theorem ClosedL.start (tab : List (List Nat)) : ClosedL tab (fun _ => false) := fun _ h => by cases h
theorem ClosedL.step {tab : List (List Nat)} {L : Nat → Bool} (h : ClosedL tab L) {i : Nat} (hi : ∀ j ∈ tab.getD i [], L j = true) : ClosedL tab (fun j => if j = i then true else L j) := by
  intro k hk j hj
  by_cases hji : j = i
  · exact if_pos hji
  · show (if j = i then true else L j) = true
    rw [if_neg hji]
    by_cases hki : k = i
    · subst hki; exact hi j hj
    · exact h k (by have hk : (if k = i then true else L k) = true := hk; rwa [if_neg hki] at hk) j hj

section
variable {P : Program} {ops : Array Oper} {Q : Exit → Act → World → Prop}
/-- THE LAW. C: what every world of the region meets, by what has been carried out; St i: what operation i may do to the world; R i: what i's value and the world meet from i on. -/
theorem wp_region_rel4 (tab : List (List Nat)) (C : (Nat → Bool) → World → Prop) (St : Nat → World → World → Prop) (R : Nat → (Nat → Bool) → Value → World → Prop) {id : Nat} {a0 : Act} {w : World} (hm : P.follows .mixedOrders = true) (hok : relOk3 ops a0.tmps.size = true) (htab : (ops.toList.map fun o => waitsL o.after.toList) = tab) (hC0 : C (fun _ => false) w.drew)
    (hC : ∀ i L w w', L i = false → (∀ j ∈ tab.getD i [], L j = true) → C L w → St i w w' → C (fun j => if j = i then true else L j) w') (hR : ∀ i j L v w w', i ≠ j → L j = true → L i = false → St i w w' → R j L v w → R j (fun k => if k = i then true else L k) v w')
    (hops : RelL (fun i o => ∀ (V : Nat → Value) (L : Nat → Bool) (w : World), L i = false → C L w → AllL (fun j => L j = true ∧ R j L (V j) w) (waitsL o.after.toList) →
      GivesG P ops o (laidL V ops.toList 0 a0) w (fun v w' => St i w w' ∧ R i (fun k => if k = i then true else L k) v w')) ops.toList 0)
    (hend : ∀ (V : Nat → Value) (L : Nat → Bool) (w : World), (∀ i, i < ops.size → L i = true) → C L w → (∀ i, i < ops.size → R i L (V i) w) → Q .normal (laidL V ops.toList 0 a0) w) : (Code.region id ops true).wp P Q a0 w := by
  refine wp_region_any hm ?_
  have key : ∀ (f : Nat) (listed : Array Bool) (a : Act) (w : World), listed.size = ops.size → (listed.toList.filter (! ·)).length ≤ f →
      (∃ V : Nat → Value, a.defers = a0.defers ∧ a.tmps.size = a0.tmps.size ∧ (∀ i o d, ops[i]? = some o → o.dst = some d → listed.getD i false = true → a.tmps[d]? = some (V i)) ∧
        (∀ t, (∀ i o, ops[i]? = some o → listed.getD i false = true → o.dst ≠ some t) → a.tmps[t]? = a0.tmps[t]?) ∧ C (fun j => listed.getD j false) w ∧ ∀ i, listed.getD i false = true → R i (fun j => listed.getD j false) (V i) w) → wpAny P .any ops Q f listed a w := by
    intro f
    induction f with
    | zero =>
      intro listed a w hsz hf ⟨V, hdef, hsza, hin, hout, hCw, hRw⟩
      have hall : ∀ i, i < ops.size → listed.getD i false = true := fun i hi => by
        have hnil : listed.toList.filter (! ·) = [] := List.eq_nil_of_length_eq_zero (by omega)
        rw [List.filter_eq_nil_iff] at hnil
        have hi' : i < listed.size := by omega
        have := hnil listed[i] (by simp)
        simpa [Array.getD, hi'] using this
      have hready : Region.ready .any ops listed = [] := by
        rw [List.eq_nil_iff_forall_not_mem]
        intro j hj
        obtain ⟨h1, oj, hoj, _⟩ := mem_ready.1 hj
        have hjlt : j < ops.size := (Array.getElem?_eq_some_iff.1 hoj).1
        have := hall j hjlt
        simp [Array.getD, show j < listed.size by omega] at this h1
        rw [this] at h1; cases h1
      refine ⟨hready, ?_⟩
      have hend' := hend V _ w hall hCw (fun i hi => hRw i (hall i hi))
      have e : a = laidL V ops.toList 0 a0 := by
        have h1 : a.tmps = (laidL V ops.toList 0 a0).tmps := Array.ext_getElem? fun t => by
          by_cases ht : ∃ (i : Nat) (o : Oper), ops[i]? = some o ∧ o.dst = some t
          · obtain ⟨i, o, hi, hd⟩ := ht
            have hlt : i < ops.size := (Array.getElem?_eq_some_iff.1 hi).1
            rw [hin i o t hi hd (hall i hlt), laidL_in V t ops.toList 0 a0 i o (by simpa using hi) hd ((relOk3_spec hok hi).2.2.2.1 t hd) (fun j o' hj hji => by
              have := ((relOk3_spec hok (i := j) (o := o') (by simpa using hj)).2.2.2.2 i o t hi hd).1
              exact this (Ne.symm hji))]
            rw [Nat.zero_add]
          · rw [hout t (fun i o hi _ hd => ht ⟨i, o, hi, hd⟩), laidL_out V t ops.toList 0 a0 (fun o ho hd => by
              obtain ⟨i, hi⟩ := List.getElem?_of_mem ho
              exact ht ⟨i, o, by simpa using hi, hd⟩)]
        have h2 : a.defers = (laidL V ops.toList 0 a0).defers := by rw [laidL_defers, hdef]
        generalize laidL V ops.toList 0 a0 = b at h1 h2
        cases a; cases b
        simp only at h1 h2
        rw [h1, h2]
      rw [e]
      exact hend'
    | succ f ih =>
      intro listed a w hsz hf ⟨V, hdef, hsza, hin, hout, hCw, hRw⟩
      refine ⟨fun hr => ?_, fun i hi => ?_⟩
      · have hall : ∀ i, i < ops.size → listed.getD i false = true := by
          intro i
          induction i using Nat.strongRecOn with
          | _ i ihi =>
            intro hi
            have ho : ops[i]? = some ops[i] := Array.getElem?_eq_getElem hi
            cases hl : listed.getD i false with
            | true => rfl
            | false =>
              have : i ∈ Region.ready .any ops listed := mem_ready.2 ⟨by simpa [Array.getD, show i < listed.size by omega] using hl, _, ho, fun e he hbd => by
                have hlt := (relOk3_spec hok ho).1 e he hbd
                exact ihi _ hlt (by omega)⟩
              rw [hr] at this
              cases this
        have h0 := ih listed a w hsz (by
          have : listed.toList.filter (! ·) = [] := by
            rw [List.filter_eq_nil_iff]
            intro x hx
            obtain ⟨i, hi, rfl⟩ := List.mem_iff_getElem.1 hx
            have hi' : i < listed.size := by simpa using hi
            have := hall i (by omega)
            simpa [Array.getD, hi'] using this
          rw [this]; simp) ⟨V, hdef, hsza, hin, hout, hCw, hRw⟩
        cases f with
        | zero => exact h0.2
        | succ f => exact h0.1 hr
      · obtain ⟨hun, o, ho, hall⟩ := mem_ready.1 hi
        have hlt : i < ops.size := (Array.getElem?_eq_some_iff.1 ho).1
        obtain ⟨_, hg, hsel, hdn, hdeps⟩ := relOk3_spec hok ho
        have hdep : ∀ j ∈ waitsL o.after.toList, listed.getD j false = true := fun j hj => by
          obtain ⟨e, he, hon, hb⟩ := waitsL_mem hj
          have := hall e (by simpa using he) hb
          rwa [hon] at this
        have hgv := RelL.get hops i o (by simpa using ho) V (fun j => listed.getD j false) w (by simpa [Array.getD, show i < listed.size by omega] using hun) (by simpa using hCw) (AllL.mk fun j hj => ⟨hdep j hj, hRw j (hdep j hj)⟩)
        rw [Nat.zero_add] at hgv
        unfold wpOp
        simp only [ho]
        have hils : i < listed.size := by omega
        have hev : ∀ t, (∀ j oj, ops[j]? = some oj → oj.dst = some t → listed.getD j false = true) → a.tmps[t]? = (laidL V ops.toList 0 a0).tmps[t]? := fun t hdl => by
          by_cases ht : ∃ (j : Nat) (oj : Oper), ops[j]? = some oj ∧ oj.dst = some t
          · obtain ⟨j, oj, hj, hd⟩ := ht
            rw [hin j oj t hj hd (hdl j oj hj hd), laidL_in V t ops.toList 0 a0 j oj (by simpa using hj) hd ((relOk3_spec hok hj).2.2.2.1 t hd) (fun k o' hk hkj => by
              have := ((relOk3_spec hok (i := k) (o := o') (by simpa using hk)).2.2.2.2 j oj t hj hd).1
              exact this (Ne.symm hkj)), Nat.zero_add]
          · rw [hout t (fun k o' hk _ hd => ht ⟨k, o', hk, hd⟩), laidL_out V t ops.toList 0 a0 (fun o' ho' hd => by
              obtain ⟨k, hk⟩ := List.getElem?_of_mem ho'
              exact ht ⟨k, o', by simpa using hk, hd⟩)]
        have hstep : ∀ v w', St i w w' ∧ R i (fun k => if k = i then true else listed.getD k false) v w' → wpAny P .any ops Q f (listed.setIfInBounds i true) (a.put o.dst v) w' := fun v w' hT => by
          have eL : (fun j => (listed.setIfInBounds i true).getD j false) = fun j => if j = i then true else listed.getD j false := funext fun j => by
            by_cases hji : j = i
            · subst hji; rw [if_pos rfl]; simp [Array.getD, hils]
            · rw [getD_set_ne false (Ne.symm hji), if_neg hji]
          refine ih _ _ _ (by simpa using hsz) ?_ ⟨fun k => if k = i then v else V k, by rw [put_defers]; exact hdef, by rw [put_size]; exact hsza, fun j oj d hj hd hl => ?_, fun t ht => ?_, by
            have h := hC i _ w w' (by simpa [Array.getD, show i < listed.size by omega] using hun) (fun j hj => hdep j (by
              rw [← htab, List.getD_eq_getElem?_getD, List.getElem?_map, show ops.toList[i]? = some o by simpa using ho] at hj
              exact hj)) hCw hT.1
            have e : (fun j => (listed.setIfInBounds i true).getD j false) = fun j => if j = i then true else listed.getD j false := funext fun j => by
              by_cases hji : j = i
              · subst hji; rw [if_pos rfl]; simp [Array.getD, hils]
              · rw [getD_set_ne false (Ne.symm hji), if_neg hji]
            rw [e]; exact h, fun j hl => ?_⟩
          · have := unlisted_set listed.toList i (by rw [Array.getElem?_toList, Array.getElem?_eq_getElem hils]; simpa [Array.getD, hils] using hun)
            rw [Array.toList_setIfInBounds]; omega
          · by_cases hji : j = i
            · subst hji
              obtain rfl : o = oj := Option.some.inj (ho.symm.trans hj)
              show (a.put o.dst v).tmps[d]? = some (if j = j then v else V j)
              rw [hd, if_pos rfl]
              simp [Act.put, Array.getElem?_setIfInBounds_self_of_lt (show d < a.tmps.size by rw [hsza]; exact hdn d hd)]
            · rw [getD_set_ne false (Ne.symm hji)] at hl
              show (a.put o.dst v).tmps[d]? = some (if j = i then v else V j)
              rw [if_neg hji, ← hin j oj d hj hd hl]
              have hne := (hdeps j oj d hj hd).1 hji
              cases hdo : o.dst with
              | none => rfl
              | some d' =>
                have : d' ≠ d := fun e => hne (by rw [hdo, e])
                simp [Act.put, Array.getElem?_setIfInBounds_ne this]
          · have hne : o.dst ≠ some t := ht i o ho (by simp [Array.getD, hils])
            rw [← hout t (fun k ok hk hl => ht k ok hk (getD_set_true hl))]
            cases hdo : o.dst with
            | none => rfl
            | some d' =>
              have : d' ≠ t := fun e => hne (by rw [hdo, e])
              simp [Act.put, Array.getElem?_setIfInBounds_ne this]
          · by_cases hji : j = i
            · subst hji
              show R j (fun k => (listed.setIfInBounds j true).getD k false) (if j = j then v else V j) w'
              rw [if_pos rfl, eL]; exact hT.2
            · rw [getD_set_ne false (Ne.symm hji)] at hl
              show R j (fun k => (listed.setIfInBounds i true).getD k false) (if j = i then v else V j) w'
              rw [if_neg hji, eL]
              exact hR i j _ _ w w' (Ne.symm hji) hl (by simpa [Array.getD, show i < listed.size by omega] using hun) hT.1 (hRw j hl)
        cases hgd : o.guard with
        | none =>
          have hw : Region.wanted o (yielded ops a.tmps) = true := by simp [Region.wanted, hgd]
          rw [if_pos hw]
          unfold GivesG at hgv
          rw [hgd] at hgv
          exact .inl (Gives.at_ (b := laidL V ops.toList 0 a0) (by rw [laidL_defers]; exact hdef) (fun d hd => by rw [laidL_size]; exact hdn d hd) (execOp_congr o hsel fun x hx => eval_slots fun t e => by
            subst e
            have hread : t ∈ Oper.reads o := List.mem_filterMap.2 ⟨.tmp t, by simpa using hx, rfl⟩
            exact hev t fun j oj hj hd => by
              obtain ⟨e, he, hon, hb⟩ := (hdeps j oj t hj hd).2 hread
              have := hall e he hb
              rwa [hon] at this) hgv hstep)
        | some gw =>
          obtain ⟨g, want⟩ := gw
          obtain ⟨⟨e, he, hon, hb⟩, og, tg, hog, htg⟩ := hg g want hgd
          have hlg : listed.getD g false = true := by have := hall e he hb; rwa [hon] at this
          have hy : yielded ops a.tmps g = yielded ops (laidL V ops.toList 0 a0).tmps g := by
            unfold yielded
            rw [hog]
            simp only [Option.bind_some, htg]
            rw [hev tg fun j oj hj hd => by
              by_cases hjg : j = g
              · subst hjg; exact hlg
              · have := (relOk3_spec hok hj).2.2.2.2 g og tg hog htg
                exact absurd hd (this.1 (Ne.symm hjg))]
          unfold GivesG at hgv
          rw [hgd] at hgv
          dsimp only at hgv
          by_cases hwt : yielded ops (laidL V ops.toList 0 a0).tmps g = some want
          · have hw : Region.wanted o (yielded ops a.tmps) = true := by simp [Region.wanted, hgd, hy, hwt]
            rw [if_pos hw]
            rw [if_pos hwt] at hgv
            exact .inl (Gives.at_ (b := laidL V ops.toList 0 a0) (by rw [laidL_defers]; exact hdef) (fun d hd => by rw [laidL_size]; exact hdn d hd) (execOp_congr o hsel fun x hx => eval_slots fun t e => by
              subst e
              have hread : t ∈ Oper.reads o := List.mem_filterMap.2 ⟨.tmp t, by simpa using hx, rfl⟩
              exact hev t fun j oj hj hd => by
                obtain ⟨e, he, hon, hb⟩ := (hdeps j oj t hj hd).2 hread
                have := hall e he hb
                rwa [hon] at this) hgv hstep)
          · have hw : ¬ Region.wanted o (yielded ops a.tmps) = true := by simp [Region.wanted, hgd, hy, hwt]
            rw [if_neg hw]
            rw [if_neg hwt] at hgv
            exact hstep undef w hgv
  refine key ops.size _ a0 _ (by simp) (by simp) ⟨fun _ => undef, rfl, rfl, fun i o d _ _ hl => ?_, fun t _ => rfl, by
    have e : (fun j => (Array.replicate ops.size false).getD j false) = fun _ => false := funext fun j => by
      rw [Array.getD_eq_getD_getElem?, Array.getElem?_replicate]; split <;> rfl
    rw [e]; exact hC0, fun i hl => ?_⟩
  · rw [Array.getD_eq_getD_getElem?, Array.getElem?_replicate] at hl; split at hl <;> cases hl
  · rw [Array.getD_eq_getD_getElem?, Array.getElem?_replicate] at hl; split at hl <;> cases hl
end

end Go.Proofs.YtpdfkakhahfcjaaGreat
