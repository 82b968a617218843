/-
  RuleOrder returns true for every rule where what it reads is of bulk at most 1048576, and what it was handed reads afterwards as it read before.
-/
import Derived.Test.YtnidkcedomhofaaGreatDoorG33
import Derived.Test.YtnidkcedomhofaaGreatDoorG41
namespace Go.Proofs.YtnidkcedomhofaaGreatDoor
open Go.ChangeShapes Go.WideShapes Go.ChangeAt Go.RowKit Go.ChangeMaps

/-- What the row lists. -/
abbrev laidRuleOrder : List (String × DataW Unit) := Rows.ruleOrderUptoRow.laid
theorem vvRuleOrder {W : World} (h : laidMetH Tryz.prog laidRuleOrder W) (hs : W.ShapedOpen Tryz.prog) : VV W := by
  rw [MakeChecks.laidMetH_plain _ _ _ (by kernel_rfl)] at h
  exact vv_all h (by simp [laidRuleOrder, Rows.ruleOrderUptoRow]) (by simp [laidRuleOrder, Rows.ruleOrderUptoRow]) (by simp [laidRuleOrder, Rows.ruleOrderUptoRow]) (by simp [laidRuleOrder, Rows.ruleOrderUptoRow]) hs
/-- A world for the witness: the listed variables laid. -/
noncomputable def worldRuleOrder (os : Os) : World := World.laidAll Tryz.prog os laidRuleOrder
theorem metRuleOrder (os : Os) (args : Array Value) : laidMet Tryz.prog laidRuleOrder ((worldRuleOrder os).forCall (fun _ _ => 0) ⟨#[], args, []⟩).memory :=
  laidMet_laidAll _ (by kernel_rfl) (by kernel_rfl)
set_option maxRecDepth 100000 in
theorem ruleOrder_lifted (os : Os) (started : os.Started) (H : Type) (enc : TypeId × Value → H) (F : Stop.Interp) :
    ReturnsInHanded {} Tryz.checked os 6 .any ((Rows.OpenSpec.upto Rows.ruleOrderSpec).preRow enc Tryz.prog Tryz.f6 Rows.ruleOrderUptoRow.domain false Rows.ruleOrderUptoRow.laid) (((Rows.OpenSpec.upto Rows.ruleOrderSpec).at F).post enc Tryz.prog Tryz.f6 false true false false) := by
  have hw : (DataW.whole enc Tryz.prog ((worldRuleOrder os).forCall (fun _ _ => 0) ⟨#[], #[.agg #[.int .i64 0, .int .i64 0, .int .i64 0, .bool false, .int .i64 0, .bool false, .bool false, .slice none 0 0, .slice none 0 0, .slice none 0 0, .slice none 0 0, .int .i64 0]], []⟩).memory Tryz.f6.params.toList Rows.ruleOrderSpec.vars false (#[.agg #[.int .i64 0, .int .i64 0, .int .i64 0, .bool false, .int .i64 0, .bool false, .bool false, .slice none 0 0, .slice none 0 0, .slice none 0 0, .slice none 0 0, .int .i64 0]] : Array Value).toList 8).map (fun x => (x.1, x.2.1)) =
      some ([.agg [.lit (.int .i64 0), .lit (.int .i64 0), .lit (.int .i64 0), .lit (.bool false), .agg [.lit (.int .i64 0), .lit (.bool false), .lit (.bool false)], .nil, .nil, .nil, .nil, .lit (.int .i64 0)]], []) := by kernel_rfl
  obtain ⟨⟨x1, x2, x3⟩, hx, hx1⟩ := Option.map_eq_some_iff.1 hw
  simp only [Prod.mk.injEq] at hx1
  obtain ⟨rfl, rfl⟩ := hx1
  refine returnsInHanded_of_row (C := Tryz.checked) (s := Rows.OpenSpec.upto Rows.ruleOrderSpec) Tryz.own started (by kernel_rfl) Tryz.func6
    (witness_row_atRef (enc := enc) (C := Tryz.checked) false (worldRuleOrder os) #[.agg #[.int .i64 0, .int .i64 0, .int .i64 0, .bool false, .int .i64 0, .bool false, .bool false, .slice none 0 0, .slice none 0 0, .slice none 0 0, .slice none 0 0, .int .i64 0]] rfl (by kernel_rfl) (by kernel_rfl) (by kernel_rfl)
      (OpenSpec.preRow_of_cond 8 hx (by kernel_rfl) (fun k hk => by cases hk; kernel_rfl) (by kernel_rfl) (metRuleOrder os _))) ?_
  intro W base args ds gs before hval0 hW _ hcond0 _ hL hsh _
  have hcond : decide (Rows.uptoBulkAll (ds ++ gs) ≤ 1048576) = true := hcond0 _ rfl
  have hV0 : VV W := vvRuleOrder hL hsh
  have hval : ∀ (j : Nat) t v, Tryz.f6.params[j]? = some t → args[j]? = some v → Value.okWide Tryz.prog W .any base t v := hval0
  have hW' := hW
  obtain ⟨p, q, hA0, hV, rfl, _, _⟩ := hW
  have hA : DataW.TrodAll enc Tryz.prog W 0 (fun _ => true) true Tryz.f6.params.toList args.toList ds p := hA0
  rw [Tryz.params6] at hA hval
  obtain ⟨v0, d0, rfl, rfl, h0⟩ := trodAll_one hA
  obtain ⟨rfl, rfl⟩ := trodVars_none hV
  have hbk0 := of_decide_eq_true hcond
  simp only [List.append_nil, Rows.uptoBulkAll] at hbk0
  have h0k := h0
  obtain ⟨r0, va0, vb0, vc0, vd0, rfl, hS0, hU0⟩ := open_rule (hval 0 27 v0 rfl rfl) h0 (by omega)
  have hbk := of_decide_eq_true hcond
  simp only [List.append_nil, Rows.uptoBulkAll] at hbk
  clear hA0 hval0 hcond0 hL hsh
  simp only [List.append_nil] at hW'
  refine (order14_any r0 va0 vb0 vc0 vd0 W hV0 hU0 hS0).mono fun e W' ⟨he, hb⟩ => ?_
  subst he
  exact ⟨_, rfl, _, _, _, [], _, [], hW', trodAll_mk1 (shut_bool Tryz.underlying4 true), trodAll_mk1 (Below.trod Tryz.laidOut (by kernel_rfl) (of_decide_eq_true (by kernel_rfl)) h0k hb (fun x hx => by simpa using hW'.lt x (by simp [hx]))), rfl, hb.frame _, fun h => by cases h⟩

theorem ruleOrder_upto : Rows.RuleOrderUptoSaid :=
  OpenClaim.holds_of_cond 6 Tryz.f6 rfl rfl rfl rfl rfl rfl rfl ⟨rfl, rfl, rfl, rfl, rfl⟩ rfl rfl rfl rfl rfl (by kernel_rfl) Tryz.func6 (by kernel_rfl)
    (of_decide_eq_true (by kernel_rfl)) (by unfold Func.isWrapper; first | (rw [if_pos (by decide +kernel)]; kernel_rfl) | (rw [if_neg (by decide +kernel)]; exact ⟨rfl, rfl⟩))
    (fun os started H enc _ F => by rw [OpenClaim.pre_eq_preRow]; exact ruleOrder_lifted os started H enc F)

/-- No parameter wants a stand-in; the program's own looks are off: what the card asks. -/
theorem ruleOrder_plain (f : FuncId) (fn : Func) (hf : Tryz.pinned.checked.prog.funcNamed "almanac/almanaclaw14.RuleOrder" = some f) (hfn : Tryz.pinned.checked.prog.funcs[f]? = some fn) :
    false = Tryz.pinned.checked.prog.looks [] ∧ ∀ (j : Nat) t, fn.params[j]? = some t → Tryz.pinned.checked.prog.wantsStandIn t = false := by
  obtain rfl : f = 6 := Option.some.inj ((show Tryz.prog.funcNamed "almanac/almanaclaw14.RuleOrder" = some 6 by kernel_rfl).symm.trans hf) |>.symm
  obtain rfl : fn = Tryz.f6 := (Option.some.inj (Tryz.func6.symm.trans hfn)).symm
  refine ⟨by kernel_rfl, fun j t ht => ?_⟩
  rw [Tryz.params6] at ht
  have hm := Array.mem_of_getElem? ht
  simp only [List.mem_toArray, List.mem_cons, List.not_mem_nil, or_false] at hm
  rcases hm with rfl
  · exact (show Tryz.prog.wantsStandIn 27 = false by kernel_rfl)

theorem ruleOrder_holds : Rows.RuleOrderUptoCardSaid :=
  Claim7.holds_tied_plain_at .later [] _ _ _ _ ruleOrder_upto (fun _ h => by cases h) (by kernel_rfl) (fun _ h => by cases h) ruleOrderUpto_row_tie rfl ⟨rfl, rfl⟩ (by kernel_rfl) rfl ruleOrder_plain (by kernel_rfl)

#print axioms ruleOrder_holds
end Go.Proofs.YtnidkcedomhofaaGreatDoor
