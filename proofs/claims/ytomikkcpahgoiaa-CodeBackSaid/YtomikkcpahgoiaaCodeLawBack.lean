/-
  CodeBack returns true for all numbers and every text, whatever stands around them, and what it was handed reads afterwards as it read before.
-/
import Derived.Test.YtomikkcpahgoiaaCodeEnd
import Derived.Test.YtomikkcpahgoiaaCodeLawMath
import Derived.Test.YtomikkcpahgoiaaCodeAwake
import Derived.Test.YtomikkcpahgoiaaCodeRefRest
namespace Go.Proofs.Ytomikkcpahgoiaa
open Go.ChangeShapes Go.WideShapes Go.ChangeAt Go.RowKit Go.ChangeMaps

/-- What is written in a row, and what stands around it. -/
theorem row_list (p q a b c : ByteArray) : ((((p ++ a) ++ b) ++ c) ++ q).data.toList = p.data.toList ++ (a.data.toList ++ (b.data.toList ++ (c.data.toList ++ q.data.toList))) := by simp

set_option maxRecDepth 100000 in
set_option maxHeartbeats 4000000 in
theorem back_any (n : Nat) (i : Int) (t p q : ByteArray) (w : World) (hn : n < 18446744073709551616) (hi : -9223372036854775808 ≤ i ∧ i ≤ 9223372036854775807) (ht : t.size ≤ 140737488351232) (hp : p.size ≤ 140737488351232) (hq : q.size ≤ 140737488351232) :
    Calls Try.prog 5 #[.int .u64 n, .int .i64 i, .string t, .string p, .string q] w fun e w' => e = .returned (.bool true) ∧ Below w.heap.size w w' := by
  have c1 := fun W => number_any n W hn
  have c2 := fun W => signed_any i W hi.1 hi.2
  have c3 := fun W => text_any t W (by omega)
  have la := enc_length10 hn
  have lb := enc_length10 (zz_lt hi.1 hi.2)
  have lc := enc_length10 (show t.size < 18446744073709551616 by omega)
  have ha : (⟨(enc n).toArray⟩ : ByteArray).size = (enc n).length := rfl
  have hb : (⟨(enc (zz i)).toArray⟩ : ByteArray).size = (enc (zz i)).length := rfl
  have hc : (txt t).size = (enc t.size).length + t.size := by rw [size_toList (txt t)]; simp [txt]
  have la' : (⟨(enc n).toArray⟩ : ByteArray).data.toList = enc n := by simp
  have lb' : (⟨(enc (zz i)).toArray⟩ : ByteArray).data.toList = enc (zz i) := by simp
  have lc' : (txt t).data.toList = enc t.size ++ t.data.toList := by simp [txt]
  generalize (⟨(enc n).toArray⟩ : ByteArray) = A at *
  generalize (⟨(enc (zz i)).toArray⟩ : ByteArray) = B at *
  generalize txt t = C at *
  have hS := row_list p q A B C
  have hz : ((((p ++ A) ++ B) ++ C) ++ q).size = p.size + A.size + B.size + C.size + q.size := by
    rw [size_toList, hS]; simp only [List.length_append, ← size_toList]; omega
  have d1 : ((((p ++ A) ++ B) ++ C) ++ q).data.toList.drop p.size = enc n ++ (B.data.toList ++ (C.data.toList ++ q.data.toList)) := by
    rw [hS, size_toList p, List.drop_left, la']
  have d2 : ((((p ++ A) ++ B) ++ C) ++ q).data.toList.drop (p.size + A.size) = enc (zz i) ++ (C.data.toList ++ q.data.toList) := by
    rw [← List.drop_drop, d1, ← la', size_toList A, List.drop_left, lb']
  have d3 : ((((p ++ A) ++ B) ++ C) ++ q).data.toList.drop (p.size + A.size + B.size) = enc t.size ++ (t.data.toList ++ q.data.toList) := by
    rw [← List.drop_drop, d2, ← lb', size_toList B, List.drop_left, lc', List.append_assoc]
  have r1 := rdN_of (by omega) d1 hn
  have r2 := rdS_of (by omega) d2 hi.1 hi.2
  have r3 := rdT_of (by omega) d3 (by omega)
  have e1 := fun W => readNumber_any ((((p ++ A) ++ B) ++ C) ++ q) (p.size : Nat) W (by omega)
  have e2 := fun W => readSigned_any ((((p ++ A) ++ B) ++ C) ++ q) (p.size + A.size : Nat) W (by omega)
  have e3 := fun W => readText_any ((((p ++ A) ++ B) ++ C) ++ q) (p.size + A.size + B.size : Nat) W (by omega) (.inr (by rw [r3]; dsimp only; omega))
  rw [r1] at e1
  rw [r2] at e2
  rw [r3] at e3
  clear r1 r2 r3 d1 d2 d3 hS
  rw [← ha] at e1
  rw [← hb] at e2
  simp only [Int.natCast_add] at e2 e3
  clear la' lb' lc'
  have hab : A.size ≤ 10 := by omega
  have hbb : B.size ≤ 10 := by omega
  have hcb : C.size ≤ 140737488351242 := by omega
  have hfin : Hid ((p.size : Int) + A.size + B.size + (enc t.size).length + t.size = ((((((p ++ A) ++ B) ++ C) ++ q).size : Nat) : Int) - q.size) := Lib.hid (by omega)
  have hz' : Hid (((((p ++ A) ++ B) ++ C) ++ q).size = p.size + A.size + B.size + C.size + q.size) := Lib.hid hz
  clear ha hb hc hz la lb lc
  go_enter Try.func5, Try.ntmps5
  go_wp2_with (first
    | (go_at_call 14; refine (c1 _).mono ?_; rintro e w1 ⟨rfl, hb1⟩)
    | (go_at_call 16; refine (c2 _).mono ?_; rintro e w2 ⟨rfl, hb2⟩)
    | (go_at_call 18; refine (c3 _).mono ?_; rintro e w3 ⟨rfl, hb3⟩)
    | (go_at_call 7; refine (e1 _).mono ?_; rintro e w4 ⟨rfl, hb4⟩)
    | (go_at_call 9; refine (e2 _).mono ?_; rintro e w5 ⟨rfl, hb5⟩)
    | (go_at_call 11; refine (e3 _).mono ?_; rintro e w6 ⟨rfl, hb6⟩)
    | (go_at_call 13; refine (awake_any _).mono ?_; rintro e w7 ⟨rfl, hb7⟩))
  · go_ret
    exact ⟨rfl, bstep (bstep (bstep (bstep (bstep (bstep hb1 hb2) hb3) hb4) hb5) hb6) hb7⟩
  · exfalso
    have := hfin.out
    have := hz'.out
    omega


set_option maxRecDepth 100000 in
theorem codeBack_lifted (os : Os) (started : os.Started) (H : Type) (enc : TypeId × Value → H) :
    ReturnsInHanded {} Try.checked os 5 .any (Rows.codeBackSpec.pre6 enc Try.prog Try.f5 Rows.codeBackRow.domain false) (Rows.codeBackSpec.post enc Try.prog Try.f5 false true false false) := by
  refine returnsInHanded_of_change_sized (C := Try.checked) Try.own started (by kernel_rfl) Try.func5
    (ChangeSpec.witness6 (enc := enc) (C := Try.checked) false ⟨#[], #[.int .u64 0, .int .i64 0, .string ⟨#[]⟩, .string ⟨#[]⟩, .string ⟨#[]⟩], []⟩ 8 (by kernel_rfl) (by kernel_rfl) (by kernel_rfl) (by kernel_rfl)) ?_
  intro W base args ds gs before hval0 hW _ hsz0 _
  have hsz : (DataW.weightsEach Try.prog (Try.f5.params.toList ++ Rows.codeBackSpec.plain.varTypes Try.prog) (ds ++ gs)).all (· ≤ reachBytes) = true := hsz0
  clear hsz0
  have hval : ∀ (j : Nat) t v, Try.f5.params[j]? = some t → args[j]? = some v → Value.okWide Try.prog W .any base t v := hval0
  have hW' := hW
  obtain ⟨p, q, hA0, hV, rfl, _, _⟩ := hW
  have hA : DataW.TrodAll enc Try.prog W 0 (fun _ => true) true Try.f5.params.toList args.toList ds p := hA0
  rw [Try.params5] at hA hval hsz
  have hA' : DataW.TrodAll enc Try.prog W 0 (fun _ => true) true [22, 2, 9, 9, 9] args.toList ds p := hA
  obtain ⟨v0, vs0, d0, ds0, p0, q0, ea0, rfl, rfl, h0, r0⟩ := trodAll_cons hA'
  obtain ⟨v1, vs1, d1, ds1, p1, q1, ea1, rfl, rfl, h1, r1⟩ := trodAll_cons r0
  obtain ⟨v2, vs2, d2, ds2, p2, q2, ea2, rfl, rfl, h2, r2⟩ := trodAll_cons r1
  obtain ⟨v3, vs3, d3, ds3, p3, q3, ea3, rfl, rfl, h3, r3⟩ := trodAll_cons r2
  obtain ⟨v4, vs4, d4, ds4, p4, q4, ea4, rfl, rfl, h4, r4⟩ := trodAll_cons r3
  obtain ⟨el, rfl, rfl⟩ := trodAll_nil r4
  have ea : args = #[v0, v1, v2, v3, v4] := by apply Array.toList_inj.1; rw [ea0, ea1, ea2, ea3, ea4, el]
  subst ea
  obtain ⟨rfl, rfl⟩ := trodVars_none hV
  have h0k := h0
  have h1k := h1
  have h2k := h2
  have h3k := h3
  have h4k := h4
  obtain ⟨x, rfl, rfl, rfl, w0⟩ := open_int Try.underlying22 (hval 0 22 v0 rfl rfl) h0
  obtain ⟨i, rfl, rfl, rfl, w1⟩ := open_int Try.underlying2 (hval 1 2 v1 rfl rfl) h1
  obtain ⟨t, rfl, rfl, rfl, ws2⟩ := open_string Try.underlying9 (hval 2 9 v2 rfl rfl) h2
  obtain ⟨a, rfl, rfl, rfl, ws3⟩ := open_string Try.underlying9 (hval 3 9 v3 rfl rfl) h3
  obtain ⟨b, rfl, rfl, rfl, ws4⟩ := open_string Try.underlying9 (hval 4 9 v4 rfl rfl) h4
  obtain ⟨n0, rfl⟩ : ∃ m : Nat, x = m := ⟨x.toNat, by have := wf_u64 w0; omega⟩
  have hr2 : t.size ≤ 140737488351232 := by simpa [reachBytes] using sized_string hsz (j := 2) (t := 9) rfl rfl
  have hr3 : a.size ≤ 140737488351232 := by simpa [reachBytes] using sized_string hsz (j := 3) (t := 9) rfl rfl
  have hr4 : b.size ≤ 140737488351232 := by simpa [reachBytes] using sized_string hsz (j := 4) (t := 9) rfl rfl
  clear hA0 hval0
  simp only [List.append_nil] at hW'
  refine (back_any n0 i t a b W (by have := wf_u64 w0; omega) (wf_i64 w1) hr2 hr3 hr4).mono fun e W' ⟨he, hb⟩ => ?_
  subst he
  exact ⟨_, rfl, _, _, _, [], [], [], hW', trodAll_mk1 (shut_bool Try.underlying4 true), (tcons_mk (trod_uint64 h0k hb) (trodAll_mk4 (trod_int64 h1k hb) (trod_string h2k hb) (trod_string h3k hb) (trod_string h4k hb))), rfl, hb.frame _, fun h => by cases h⟩

theorem codeBack_holds : Rows.CodeBackSaid :=
  OpenClaim.holds_of_wide 5 Try.f5 rfl rfl rfl rfl rfl rfl rfl ⟨rfl, rfl, rfl, rfl, rfl⟩ rfl rfl rfl rfl rfl (by kernel_rfl) Try.func5 (by kernel_rfl)
    (of_decide_eq_true (by kernel_rfl)) (by unfold Func.isWrapper; first | (rw [if_pos (by decide +kernel)]; kernel_rfl) | (rw [if_neg (by decide +kernel)]; exact ⟨rfl, rfl⟩))
    (fun os started H enc _ => codeBack_lifted os started H enc)

#print axioms codeBack_holds
end Go.Proofs.Ytomikkcpahgoiaa
