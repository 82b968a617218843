/-
  CodeWrites returns true for all numbers and every text, and what it was handed reads afterwards as it read before.
-/
import Derived.Test.YtomikkcpahgoiaaCodeEnd
import Derived.Test.YtomikkcpahgoiaaCodeLawMath
import Derived.Test.YtomikkcpahgoiaaCodeAwake
import Derived.Test.YtomikkcpahgoiaaCodeRefRest
namespace Go.Proofs.Ytomikkcpahgoiaa
open Go.ChangeShapes Go.WideShapes Go.ChangeAt Go.RowKit Go.ChangeMaps

set_option maxRecDepth 100000 in
set_option maxHeartbeats 4000000 in
theorem writes_any (n : Nat) (i : Int) (t : ByteArray) (w : World) (hn : n < 18446744073709551616) (hi : -9223372036854775808 ≤ i ∧ i ≤ 9223372036854775807) (ht : t.size ≤ 140737488351232) :
    Calls Try.prog 4 #[.int .u64 n, .int .i64 i, .string t] w fun e w' => e = .returned (.bool true) ∧ Below w.heap.size w w' := by
  go_enter Try.func4, Try.ntmps4
  go_wp2_with (first
    | (go_at_call 14; refine (number_any n _ hn).mono ?_; rintro e w1 ⟨rfl, hb1⟩)
    | (go_at_call 15; refine (refNumber_any n _ hn).mono ?_; rintro e w2 ⟨rfl, hb2⟩)
    | (go_at_call 16; refine (signed_any i _ hi.1 hi.2).mono ?_; rintro e w3 ⟨rfl, hb3⟩)
    | (go_at_call 17; refine (refSigned_any i _ hi.1 hi.2).mono ?_; rintro e w4 ⟨rfl, hb4⟩)
    | (go_at_call 18; refine (text_any t _ (by omega)).mono ?_; rintro e w5 ⟨rfl, hb5⟩)
    | (go_at_call 19; refine (refText_any t _ (by omega)).mono ?_; rintro e w6 ⟨rfl, hb6⟩)
    | (go_at_call 20; refine (crc_any t _ (by unfold maxLen; omega)).mono ?_; rintro e w' ⟨rfl, rfl⟩)
    | (go_at_call 21; refine (refCrc_any t _ (by unfold maxLen; omega)).mono ?_; rintro e w' ⟨rfl, rfl⟩)
    | (go_at_call 13; refine (awake_any _).mono ?_; rintro e w7 ⟨rfl, hb7⟩))
  go_ret
  exact ⟨rfl, bstep (bstep (bstep (bstep (bstep (bstep hb1 hb2) hb3) hb4) hb5) hb6) hb7⟩


set_option maxRecDepth 100000 in
theorem codeWrites_lifted (os : Os) (started : os.Started) (H : Type) (enc : TypeId × Value → H) :
    ReturnsInHanded {} Try.checked os 4 .any (Rows.codeWritesSpec.pre6 enc Try.prog Try.f4 Rows.codeWritesRow.domain false) (Rows.codeWritesSpec.post enc Try.prog Try.f4 false true false false) := by
  refine returnsInHanded_of_change_sized (C := Try.checked) Try.own started (by kernel_rfl) Try.func4
    (ChangeSpec.witness6 (enc := enc) (C := Try.checked) false ⟨#[], #[.int .u64 0, .int .i64 0, .string ⟨#[]⟩], []⟩ 8 (by kernel_rfl) (by kernel_rfl) (by kernel_rfl) (by kernel_rfl)) ?_
  intro W base args ds gs before hval0 hW _ hsz0 _
  have hsz : (DataW.weightsEach Try.prog (Try.f4.params.toList ++ Rows.codeWritesSpec.plain.varTypes Try.prog) (ds ++ gs)).all (· ≤ reachBytes) = true := hsz0
  clear hsz0
  have hval : ∀ (j : Nat) t v, Try.f4.params[j]? = some t → args[j]? = some v → Value.okWide Try.prog W .any base t v := hval0
  have hW' := hW
  obtain ⟨p, q, hA0, hV, rfl, _, _⟩ := hW
  have hA : DataW.TrodAll enc Try.prog W 0 (fun _ => true) true Try.f4.params.toList args.toList ds p := hA0
  rw [Try.params4] at hA hval hsz
  obtain ⟨v0, v1, v2, d0, d1, d2, p0, p1, p2, rfl, rfl, rfl, h0, h1, h2⟩ := trodAll_three hA
  obtain ⟨rfl, rfl⟩ := trodVars_none hV
  have h0k := h0
  have h1k := h1
  have h2k := h2
  obtain ⟨x, rfl, rfl, rfl, w0⟩ := open_int Try.underlying22 (hval 0 22 v0 rfl rfl) h0
  obtain ⟨i, rfl, rfl, rfl, w1⟩ := open_int Try.underlying2 (hval 1 2 v1 rfl rfl) h1
  obtain ⟨t, rfl, rfl, rfl, ws2⟩ := open_string Try.underlying9 (hval 2 9 v2 rfl rfl) h2
  obtain ⟨n0, rfl⟩ : ∃ m : Nat, x = m := ⟨x.toNat, by have := wf_u64 w0; omega⟩
  have hr2 : t.size ≤ 140737488351232 := by simpa [reachBytes] using sized_string hsz (j := 2) (t := 9) rfl rfl
  clear hA0 hval0
  simp only [List.append_nil] at hW'
  refine (writes_any n0 i t W (by have := wf_u64 w0; omega) (wf_i64 w1) hr2).mono fun e W' ⟨he, hb⟩ => ?_
  subst he
  exact ⟨_, rfl, _, _, _, [], [], [], hW', trodAll_mk1 (shut_bool Try.underlying4 true), trodAll_mk3 (trod_uint64 h0k hb) (trod_int64 h1k hb) (trod_string h2k hb), rfl, hb.frame _, fun h => by cases h⟩

theorem codeWrites_holds : Rows.CodeWritesSaid :=
  OpenClaim.holds_of_wide 4 Try.f4 rfl rfl rfl rfl rfl rfl rfl ⟨rfl, rfl, rfl, rfl, rfl⟩ rfl rfl rfl rfl rfl (by kernel_rfl) Try.func4 (by kernel_rfl)
    (of_decide_eq_true (by kernel_rfl)) (by unfold Func.isWrapper; first | (rw [if_pos (by decide +kernel)]; kernel_rfl) | (rw [if_neg (by decide +kernel)]; exact ⟨rfl, rfl⟩))
    (fun os started H enc _ => codeWrites_lifted os started H enc)

#print axioms codeWrites_holds
end Go.Proofs.Ytomikkcpahgoiaa
