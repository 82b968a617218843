/-
  CodeCuts returns true for every text, wherever it is cut off, and for all bytes, and what it was handed reads afterwards as it read before.
-/
import Derived.Test.YtomikkcpahgoiaaCodeEnd
import Derived.Test.YtomikkcpahgoiaaCodeLawMath
import Derived.Test.YtomikkcpahgoiaaCodeAwake
import Derived.Test.YtomikkcpahgoiaaCodeRefRest
import Derived.Deep.RegionHeld3
import Derived.Deep.QuietTactic
import Derived.BigQuiet
namespace Go.Proofs.Ytomikkcpahgoiaa
open Go.ChangeShapes Go.WideShapes Go.ChangeAt Go.RowKit Go.ChangeMaps

/-- A region that draws its order, whose operations read and whose calls leave what lay before: one walk, in the order of the text. -/
theorem region_below {P : Program} {id : Nat} {Q : Exit → Act → World → Prop} {a : Act} {w0 w : World} {l : List Oper} (hC : Below w0.heap.size w0 w) (hm : P.follows .mixedOrders = true) (hB : Region.lexB .any l.toArray = true)
    (h : wpQuiet P l.toArray (fun w' => Below w0.heap.size w0 w') (fun a' => ∀ w', Below w0.heap.size w0 w' → Q .normal a' w') l a) : (Code.region id l.toArray true).wp P Q a w :=
  wp_region_quiet (C := fun w' => Below w0.heap.size w0 w') hm hB hC.drew (by simpa using h)

set_option maxRecDepth 100000 in
set_option maxHeartbeats 4000000 in
theorem cuts_any (t : ByteArray) (cut : Int) (s : ByteArray) (w : World) (ht : t.size ≤ 140737488351232) (hs : s.size ≤ 140737488351232) :
    Calls Try.prog 6 #[.string t, .int .i64 cut, .string s] w fun e w' => e = .returned (.bool true) ∧ Below w.heap.size w w' := by
  have c1 := fun W => text_any t W (by omega)
  have hC : (txt t).size = (enc t.size).length + t.size := by rw [size_toList (txt t)]; simp [txt]
  have lc := enc_length10 (show t.size < 18446744073709551616 by omega)
  have lp : (enc t.size).length ≠ 0 := by have := enc_ne t.size; simpa using this
  have u1 : 0 ≤ IntKind.u64.wrap cut := by rw [IntKind.wrap_u64]; omega
  have u2 : IntKind.u64.wrap cut ≤ 18446744073709551615 := by rw [IntKind.wrap_u64]; omega
  have hcut := fun j => rdT_cut (t := t) (j := j) (by omega)
  generalize txt t = C at *
  have hC1 : 1 ≤ C.size := by omega
  have hC2 : C.size ≤ 140737488351242 := by omega
  obtain ⟨j, hj⟩ : ∃ j : Nat, IntKind.u64.wrap cut % (C.size : Int) = j := ⟨(IntKind.u64.wrap cut % (C.size : Int)).toNat, by
    have := Int.emod_nonneg (IntKind.u64.wrap cut) (show (C.size : Int) ≠ 0 by omega); omega⟩
  have hjlt : j < C.size := by
    have := Int.emod_lt_of_pos (IntKind.u64.wrap cut) (show (0 : Int) < C.size by omega); omega
  have hne : ((C.size : Int) == 0) = false := by rw [beq_eq_false_iff_ne]; omega
  have r1 : (rdT (C.extract 0 j) 0).2.2 = 11 := hcut j hjlt
  have hxs : (C.extract 0 j).size ≤ 140737488351242 := by rw [ByteArray.size_extract]; omega
  have e1 := fun W => readText_any (C.extract 0 j) 0 W (by omega) (.inl (by omega))
  rw [r1] at e1
  have e2 := fun W => readNumber_any s 0 W (by omega)
  have hb0 := rdN_bd s 0
  have hby := rdN_bytes (s := s)
  generalize rdN s 0 = r at e2 hb0 hby
  obtain ⟨n, i, e⟩ := r
  dsimp only at e2 hb0 hby
  obtain ⟨hn, hi0, hi1, he⟩ := hb0
  have hmx : Try.prog.follows .mixedOrders = true := by kernel_rfl
  clear hC lc lp hcut r1 hxs
  by_cases h0 : e = 0
  · obtain ⟨j2, rfl, hj2, hbytes⟩ := hby h0
    subst h0
    have e3 := fun W => number_any n W hn
    rw [hbytes] at e3
    clear hbytes hby he hi0 hi1
    have hle : (j2 : Int) ≤ (s.size : Int) := by omega
    go_enter Try.func6, Try.ntmps6
    go_wp2_with (first
      | (go_at_call 18; refine (c1 _).mono ?_; rintro e w1 ⟨rfl, hb1⟩)
      | (go_at_call 11; refine (e1 _).mono ?_; rintro e w2 ⟨rfl, hb2⟩)
      | (go_at_call 7; refine (e2 _).mono ?_; rintro e w3 ⟨rfl, hb3⟩))
    have hB := bstep (bstep hb1 hb2) hb3
    clear c1 e1 e2
    go_region_held3 (fun w' => Below w.heap.size w w')
      (first | assumption | (refine Below.drew ?_; assumption) | (refine bstep ?_ hbx; assumption))
      (first
      | (go_at_call 14; refine (e3 _).mono ?_; rintro e w4 ⟨rfl, hbx⟩)
      | (go_at_call 13; refine (awake_any _).mono ?_; rintro e w5 ⟨rfl, hbx⟩))
    go_wp2
    go_ret
    exact ⟨rfl, by assumption⟩
  · obtain ⟨hn0, hi00, he3⟩ := he.resolve_left h0
    clear hby h0 hi0 hi1 he hn
    subst hn0
    subst hi00
    rcases he3 with h3 | h3 | h3
    all_goals
      subst h3
      go_enter Try.func6, Try.ntmps6
      go_wp2_with (first
        | (go_at_call 18; refine (c1 _).mono ?_; rintro e w1 ⟨rfl, hb1⟩)
        | (go_at_call 11; refine (e1 _).mono ?_; rintro e w2 ⟨rfl, hb2⟩)
        | (go_at_call 7; refine (e2 _).mono ?_; rintro e w3 ⟨rfl, hb3⟩))
      have hB := bstep (bstep hb1 hb2) hb3
      clear c1 e1 e2
      refine region_below hB hmx (by kernel_rfl) ?_
      repeat (first
        | go_big_quiet_skip
        | (go_big_quiet_want; go_big_quiet_op; first
            | go_big_quiet_on
            | (refine ⟨_, fun _ _ => rfl, ?_⟩; go_big_quiet_on)
            | (apply Exists.intro
               refine ⟨fun w5 hw5 => ?_, ?_⟩
               · (refine (awake_any _).mono ?_; rintro e w6 ⟨rfl, hbx⟩; exact ⟨rfl, bstep hw5 hbx⟩)
               go_big_quiet_on)))
      refine wpQuiet_nil ?_
      intro w7 hw7
      go_wp2
      go_ret
      exact ⟨rfl, hw7⟩


set_option maxRecDepth 100000 in
theorem codeCuts_lifted (os : Os) (started : os.Started) (H : Type) (enc : TypeId × Value → H) :
    ReturnsInHanded {} Try.checked os 6 .any (Rows.codeCutsSpec.pre6 enc Try.prog Try.f6 Rows.codeCutsRow.domain false) (Rows.codeCutsSpec.post enc Try.prog Try.f6 false true false false) := by
  refine returnsInHanded_of_change_sized (C := Try.checked) Try.own started (by kernel_rfl) Try.func6
    (ChangeSpec.witness6 (enc := enc) (C := Try.checked) false ⟨#[], #[.string ⟨#[]⟩, .int .i64 0, .string ⟨#[]⟩], []⟩ 8 (by kernel_rfl) (by kernel_rfl) (by kernel_rfl) (by kernel_rfl)) ?_
  intro W base args ds gs before hval0 hW _ hsz0 _
  have hsz : (DataW.weightsEach Try.prog (Try.f6.params.toList ++ Rows.codeCutsSpec.plain.varTypes Try.prog) (ds ++ gs)).all (· ≤ reachBytes) = true := hsz0
  clear hsz0
  have hval : ∀ (j : Nat) t v, Try.f6.params[j]? = some t → args[j]? = some v → Value.okWide Try.prog W .any base t v := hval0
  have hW' := hW
  obtain ⟨p, q, hA0, hV, rfl, _, _⟩ := hW
  have hA : DataW.TrodAll enc Try.prog W 0 (fun _ => true) true Try.f6.params.toList args.toList ds p := hA0
  rw [Try.params6] at hA hval hsz
  obtain ⟨v0, v1, v2, d0, d1, d2, p0, p1, p2, rfl, rfl, rfl, h0, h1, h2⟩ := trodAll_three hA
  obtain ⟨rfl, rfl⟩ := trodVars_none hV
  have h0k := h0
  have h1k := h1
  have h2k := h2
  obtain ⟨t, rfl, rfl, rfl, ws0⟩ := open_string Try.underlying9 (hval 0 9 v0 rfl rfl) h0
  obtain ⟨c, rfl, rfl, rfl, w1⟩ := open_int Try.underlying3 (hval 1 3 v1 rfl rfl) h1
  obtain ⟨s, rfl, rfl, rfl, ws2⟩ := open_string Try.underlying9 (hval 2 9 v2 rfl rfl) h2
  have hr0 : t.size ≤ 140737488351232 := by simpa [reachBytes] using sized_string hsz (j := 0) (t := 9) rfl rfl
  have hr2 : s.size ≤ 140737488351232 := by simpa [reachBytes] using sized_string hsz (j := 2) (t := 9) rfl rfl
  clear hA0 hval0
  simp only [List.append_nil] at hW'
  refine (cuts_any t c s W hr0 hr2).mono fun e W' ⟨he, hb⟩ => ?_
  subst he
  exact ⟨_, rfl, _, _, _, [], [], [], hW', trodAll_mk1 (shut_bool Try.underlying4 true), trodAll_mk3 (trod_string h0k hb) (trod_int h1k hb) (trod_string h2k hb), rfl, hb.frame _, fun h => by cases h⟩

theorem codeCuts_holds : Rows.CodeCutsSaid :=
  OpenClaim.holds_of_wide 6 Try.f6 rfl rfl rfl rfl rfl rfl rfl ⟨rfl, rfl, rfl, rfl, rfl⟩ rfl rfl rfl rfl rfl (by kernel_rfl) Try.func6 (by kernel_rfl)
    (of_decide_eq_true (by kernel_rfl)) (by unfold Func.isWrapper; first | (rw [if_pos (by decide +kernel)]; kernel_rfl) | (rw [if_neg (by decide +kernel)]; exact ⟨rfl, rfl⟩))
    (fun os started H enc _ => codeCuts_lifted os started H enc)

#print axioms codeCuts_holds
end Go.Proofs.Ytomikkcpahgoiaa
