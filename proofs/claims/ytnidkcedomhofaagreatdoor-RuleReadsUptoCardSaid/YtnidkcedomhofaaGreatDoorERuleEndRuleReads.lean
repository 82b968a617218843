/-
  RuleReads returns true for every text where what it reads is of bulk at most 1048576, and what it was handed reads afterwards as it read before.
-/
import Derived.Test.YtnidkcedomhofaaGreatDoorG33
import Derived.Test.YtnidkcedomhofaaGreatDoorG51
namespace Go.Proofs.YtnidkcedomhofaaGreatDoor
open Go.ChangeShapes Go.WideShapes Go.ChangeAt Go.RowKit Go.ChangeMaps

/-- What the row lists. -/
abbrev laidRuleReads : List (String × DataW Unit) := Rows.ruleReadsUptoRow.laid
theorem vvRuleReads {W : World} (h : laidMetH Tryz.prog laidRuleReads W) (hs : W.ShapedOpen Tryz.prog) : VV W := by
  rw [MakeChecks.laidMetH_plain _ _ _ (by kernel_rfl)] at h
  exact vv_all h (by simp [laidRuleReads, Rows.ruleReadsUptoRow]) (by simp [laidRuleReads, Rows.ruleReadsUptoRow]) (by simp [laidRuleReads, Rows.ruleReadsUptoRow]) (by simp [laidRuleReads, Rows.ruleReadsUptoRow]) hs
/-- A world for the witness: the listed variables laid. -/
noncomputable def worldRuleReads (os : Os) : World := World.laidAll Tryz.prog os laidRuleReads
theorem metRuleReads (os : Os) (args : Array Value) : laidMet Tryz.prog laidRuleReads ((worldRuleReads os).forCall (fun _ _ => 0) ⟨#[], args, []⟩).memory :=
  laidMet_laidAll _ (by kernel_rfl) (by kernel_rfl)
set_option maxRecDepth 100000 in
theorem ruleReads_lifted (os : Os) (started : os.Started) (H : Type) (enc : TypeId × Value → H) (F : Stop.Interp) :
    ReturnsInHanded {} Tryz.checked os 3 .any ((Rows.OpenSpec.upto Rows.ruleReadsSpec).preRow enc Tryz.prog Tryz.f3 Rows.ruleReadsUptoRow.domain false Rows.ruleReadsUptoRow.laid) (((Rows.OpenSpec.upto Rows.ruleReadsSpec).at F).post enc Tryz.prog Tryz.f3 false true false false) := by
  have hw : (DataW.whole enc Tryz.prog ((worldRuleReads os).forCall (fun _ _ => 0) ⟨#[], #[.string ⟨#[]⟩], []⟩).memory Tryz.f3.params.toList Rows.ruleReadsSpec.vars false (#[.string ⟨#[]⟩] : Array Value).toList 8).map (fun x => (x.1, x.2.1)) =
      some ([.lit (.string [])], []) := by kernel_rfl
  obtain ⟨⟨x1, x2, x3⟩, hx, hx1⟩ := Option.map_eq_some_iff.1 hw
  simp only [Prod.mk.injEq] at hx1
  obtain ⟨rfl, rfl⟩ := hx1
  refine returnsInHanded_of_row (C := Tryz.checked) (s := Rows.OpenSpec.upto Rows.ruleReadsSpec) Tryz.own started (by kernel_rfl) Tryz.func3
    (witness_row_atRef (enc := enc) (C := Tryz.checked) false (worldRuleReads os) #[.string ⟨#[]⟩] rfl (by kernel_rfl) (by kernel_rfl) (by kernel_rfl)
      (OpenSpec.preRow_of_cond 8 hx (by kernel_rfl) (fun k hk => by cases hk; kernel_rfl) (by kernel_rfl) (metRuleReads os _))) ?_
  intro W base args ds gs before hval0 hW _ hcond0 _ hL hsh _
  have hcond : decide (Rows.uptoBulkAll (ds ++ gs) ≤ 1048576) = true := hcond0 _ rfl
  have hV0 : VV W := vvRuleReads hL hsh
  have hval : ∀ (j : Nat) t v, Tryz.f3.params[j]? = some t → args[j]? = some v → Value.okWide Tryz.prog W .any base t v := hval0
  have hW' := hW
  obtain ⟨p, q, hA0, hV, rfl, _, _⟩ := hW
  have hA : DataW.TrodAll enc Tryz.prog W 0 (fun _ => true) true Tryz.f3.params.toList args.toList ds p := hA0
  rw [Tryz.params3] at hA hval
  obtain ⟨v0, d0, rfl, rfl, h0⟩ := trodAll_one hA
  obtain ⟨rfl, rfl⟩ := trodVars_none hV
  have hbk0 := of_decide_eq_true hcond
  simp only [List.append_nil, Rows.uptoBulkAll] at hbk0
  have h0k := h0
  obtain ⟨s0, rfl, rfl, rfl, ws0⟩ := open_string Tryz.underlying9 (hval 0 9 v0 rfl rfl) h0
  have hbk := of_decide_eq_true hcond
  simp only [List.append_nil, Rows.uptoBulkAll, Rows.uptoBulk] at hbk
  have hr0 : s0.size ≤ 1048576 := by rw [bsize]; omega
  clear hA0 hval0 hcond0 hL hsh
  simp only [List.append_nil] at hW'
  refine (reads14_any s0 (by omega) W hV0).mono fun e W' ⟨he, hb⟩ => ?_
  subst he
  exact ⟨_, rfl, _, _, _, [], _, [], hW', trodAll_mk1 (shut_bool Tryz.underlying4 true), trodAll_mk1 (Below.trod Tryz.laidOut (by kernel_rfl) (of_decide_eq_true (by kernel_rfl)) h0k hb (fun x hx => by cases hx)), rfl, hb.frame _, fun h => by cases h⟩

theorem ruleReads_upto : Rows.RuleReadsUptoSaid :=
  OpenClaim.holds_of_cond 3 Tryz.f3 rfl rfl rfl rfl rfl rfl rfl ⟨rfl, rfl, rfl, rfl, rfl⟩ rfl rfl rfl rfl rfl (by kernel_rfl) Tryz.func3 (by kernel_rfl)
    (of_decide_eq_true (by kernel_rfl)) (by unfold Func.isWrapper; first | (rw [if_pos (by decide +kernel)]; kernel_rfl) | (rw [if_neg (by decide +kernel)]; exact ⟨rfl, rfl⟩))
    (fun os started H enc _ F => by rw [OpenClaim.pre_eq_preRow]; exact ruleReads_lifted os started H enc F)

/-- No parameter wants a stand-in; the program's own looks are off: what the card asks. -/
theorem ruleReads_plain (f : FuncId) (fn : Func) (hf : Tryz.pinned.checked.prog.funcNamed "almanac/almanaclaw14.RuleReads" = some f) (hfn : Tryz.pinned.checked.prog.funcs[f]? = some fn) :
    false = Tryz.pinned.checked.prog.looks [] ∧ ∀ (j : Nat) t, fn.params[j]? = some t → Tryz.pinned.checked.prog.wantsStandIn t = false := by
  obtain rfl : f = 3 := Option.some.inj ((show Tryz.prog.funcNamed "almanac/almanaclaw14.RuleReads" = some 3 by kernel_rfl).symm.trans hf) |>.symm
  obtain rfl : fn = Tryz.f3 := (Option.some.inj (Tryz.func3.symm.trans hfn)).symm
  refine ⟨by kernel_rfl, fun j t ht => ?_⟩
  rw [Tryz.params3] at ht
  have hm := Array.mem_of_getElem? ht
  simp only [List.mem_toArray, List.mem_cons, List.not_mem_nil, or_false] at hm
  rcases hm with rfl
  · exact (show Tryz.prog.wantsStandIn 9 = false by kernel_rfl)

theorem ruleReads_holds : Rows.RuleReadsUptoCardSaid :=
  Claim7.holds_tied_plain_at .later [] _ _ _ _ ruleReads_upto (fun _ h => by cases h) (by kernel_rfl) (fun _ h => by cases h) ruleReadsUpto_row_tie rfl ⟨rfl, rfl⟩ (by kernel_rfl) rfl ruleReads_plain (by kernel_rfl)

#print axioms ruleReads_holds
end Go.Proofs.YtnidkcedomhofaaGreatDoor
