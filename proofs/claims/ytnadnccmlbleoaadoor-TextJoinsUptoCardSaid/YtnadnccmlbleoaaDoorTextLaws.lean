/-
  Layer 8's four laws: each returns true.
-/
import Derived.Test.YtnadnccmlbleoaaDoorTextAwake
import Derived.Test.YtnadnccmlbleoaaDoorTextUnbS
import Derived.Test.YtnadnccmlbleoaaDoorTextUnpR
import Derived.Test.YtnadnccmlbleoaaDoorTextPctR
import Derived.Test.YtnadnccmlbleoaaDoorTextRune
import Derived.Test.YtnadnccmlbleoaaDoorTextTrimR
import Derived.Test.YtnadnccmlbleoaaDoorTextNumberR
namespace Go.Proofs.YtnadnccmlbleoaaDoor
open Go.RowKit

theorem two_same (a : ByteArray) : (a.toList == a.toList) = true := by simp

set_option maxRecDepth 100000 in
set_option maxHeartbeats 2000000 in
theorem codes_any (s : ByteArray) (hs : s.size ≤ 1048576) (w : World) (hf : Forms w) :
    Calls Tryd.prog 3 #[.string s] w fun e w' => e = .returned (.bool true) ∧ Below w.heap.size w w' := by
  have HF := Lib.hid hf
  have hs2 : s.size ≤ 16777216 := by omega
  have c1 := fun w => unpercent_any s hs2 w
  have c2 := fun w => refUnpercent_any s hs2 w
  have c3 := fun w => unbase64_any s hs2 w
  have c4 := fun w => refUnbase64_any s hs2 w
  have c5 := fun w hf => valid_any s hs2 w hf
  have c6 := fun w => refValid_any s hs2 w
  have c7 := fun w => percent_any s hs2 w
  have c8 := fun w => refPercent_any s hs2 w
  have c9 := fun w => base64_any s hs2 w
  have c10 := fun w => refBase64_any s hs2 w
  generalize (⟨(unpV s.data.toList).1.toArray⟩ : ByteArray) = u at c1 c2
  generalize (unpV s.data.toList).2 = ue at c1 c2
  generalize (⟨(unb s.data.toList).1.toArray⟩ : ByteArray) = v at c3 c4
  generalize (unb s.data.toList).2 = ve at c3 c4
  generalize vld s.data.toList = b at c5 c6
  generalize (⟨(pct s.data.toList).toArray⟩ : ByteArray) = p at c7 c8
  generalize (⟨(b64 s.data.toList).toArray⟩ : ByteArray) = q at c9 c10
  have t1 := two_same u
  have t2 := two_same v
  have t3 := two_same p
  have t4 := two_same q
  have t5 : (b == b) = true := by simp
  have t6 : (ue == ue) = true := by simp
  have t7 : (ve == ve) = true := by simp
  clear hf
  go_enter Tryd.func3, Tryd.ntmps3
  go_wp2_with (first
    | (go_at_call 7; ((with_reducible refine (c1 _).mono ?_); rintro e w1 ⟨rfl, hb1⟩))
    | (go_at_call 8; ((with_reducible refine (c2 _).mono ?_); rintro e w2 ⟨rfl, hb2⟩))
    | (go_at_call 9; ((with_reducible refine (c3 _).mono ?_); rintro e w3 ⟨rfl, hb3⟩))
    | (go_at_call 10; ((with_reducible refine (c4 _).mono ?_); rintro e w4 ⟨rfl, hb4⟩))
    | (go_at_call 11; ((with_reducible refine (c5 _ ((((HF.out.step hb1).step hb2).step hb3).step hb4)).mono ?_); rintro e w5 ⟨rfl, hb5⟩))
    | (go_at_call 12; ((with_reducible refine (c6 _).mono ?_); rintro e w' ⟨rfl, rfl⟩))
    | (go_at_call 13; ((with_reducible refine (c7 _).mono ?_); rintro e w7 ⟨rfl, hb7⟩))
    | (go_at_call 14; ((with_reducible refine (c8 _).mono ?_); rintro e w8 ⟨rfl, hb8⟩))
    | (go_at_call 15; ((with_reducible refine (c9 _).mono ?_); rintro e w9 ⟨rfl, hb9⟩))
    | (go_at_call 16; ((with_reducible refine (c10 _).mono ?_); rintro e w10 ⟨rfl, hb10⟩))
    | (go_at_call 17; ((with_reducible refine (awake_any _ (((((((((HF.out.step hb1).step hb2).step hb3).step hb4).step hb5).step hb7).step hb8).step hb9).step hb10)).mono ?_); rintro e w11 ⟨rfl, hb11⟩)))
  go_ret
  exact ⟨rfl, bstep (bstep (bstep (bstep (bstep (bstep (bstep (bstep (bstep hb1 hb2) hb3) hb4) hb5) hb7) hb8) hb9) hb10) hb11⟩

set_option maxRecDepth 100000 in
set_option maxHeartbeats 2000000 in
theorem letters_any (s t : ByteArray) (most : Int) (hs : s.size ≤ 1048576) (ht : t.size ≤ 1048576) (w : World) (hf : Forms w) (hm : MaxL w) :
    Calls Tryd.prog 4 #[.string s, .string t, .int .i64 most] w fun e w' => e = .returned (.bool true) ∧ Below w.heap.size w w' := by
  have HF := Lib.hid hf
  have HM := Lib.hid hm
  have hs2 : s.size ≤ 16777216 := by omega
  have ht2 : t.size ≤ 16777216 := by omega
  have c1 := fun w => number_any s hs2 most w
  have c2 := fun w => refNumber_any s hs2 most w
  have c3 := fun w => lower_any s hs2 w
  have c4 := fun w => refLower_any s hs2 w
  have c5 := fun w => alike_any s t hs2 ht2 w
  have c6 := fun w => refAlike_any s t hs2 ht2 w
  have c7 := fun w hm => within_any s t hs2 ht2 w hm
  have c8 := fun w => refWithin_any s t hs2 ht2 w
  have c9 := fun w => trim_any s hs2 w
  have c10 := fun w => refTrim_any s hs2 w
  generalize (numV s.data.toList most).1 = n at c1 c2
  generalize (numV s.data.toList most).2 = b at c1 c2
  generalize (⟨(lowL s.data.toList).toArray⟩ : ByteArray) = l at c3 c4
  generalize decide (lowL s.data.toList = lowL t.data.toList) = al at c5 c6
  generalize Lib.contains (lowL t.data.toList) (lowL s.data.toList) = wi at c7 c8
  generalize (⟨(trimL s.data.toList).toArray⟩ : ByteArray) = r at c9 c10
  have t1 := two_same l
  have t2 := two_same r
  have t3 : (n == n) = true := by simp
  have t4 : (b == b) = true := by simp
  have t5 : (al == al) = true := by simp
  have t6 : (wi == wi) = true := by simp
  clear hf hm
  go_enter Tryd.func4, Tryd.ntmps4
  go_wp2_with (first
    | (go_at_call 18; ((with_reducible refine (c1 _).mono ?_); rintro e w' ⟨rfl, rfl⟩))
    | (go_at_call 19; ((with_reducible refine (c2 _).mono ?_); rintro e w' ⟨rfl, rfl⟩))
    | (go_at_call 20; ((with_reducible refine (c3 _).mono ?_); rintro e w3 ⟨rfl, hb3⟩))
    | (go_at_call 21; ((with_reducible refine (c4 _).mono ?_); rintro e w4 ⟨rfl, hb4⟩))
    | (go_at_call 22; ((with_reducible refine (c5 _).mono ?_); rintro e w5 ⟨rfl, hb5⟩))
    | (go_at_call 23; ((with_reducible refine (c6 _).mono ?_); rintro e w6 ⟨rfl, hb6⟩))
    | (go_at_call 24; ((with_reducible refine (c7 _ ((((HM.out.step hb3).step hb4).step hb5).step hb6)).mono ?_); rintro e w7 ⟨rfl, hb7⟩))
    | (go_at_call 25; ((with_reducible refine (c8 _).mono ?_); rintro e w8 ⟨rfl, hb8⟩))
    | (go_at_call 26; ((with_reducible refine (c9 _).mono ?_); rintro e w9 ⟨rfl, hb9⟩))
    | (go_at_call 27; ((with_reducible refine (c10 _).mono ?_); rintro e w' ⟨rfl, rfl⟩))
    | (go_at_call 17; ((with_reducible refine (awake_any _ (((((((HF.out.step hb3).step hb4).step hb5).step hb6).step hb7).step hb8).step hb9)).mono ?_); rintro e w11 ⟨rfl, hb11⟩)))
  go_ret
  exact ⟨rfl, bstep (bstep (bstep (bstep (bstep (bstep (bstep hb3 hb4) hb5) hb6) hb7) hb8) hb9) hb11⟩

/-- The table of forms and the library's variable are there, and what lay before stays. -/
structure Kp (w0 w : World) : Prop where
  forms : Forms w
  max : MaxL w
  below : Below w0.heap.size w0 w
theorem Kp.step {w0 w w' : World} (h : Kp w0 w) (hb : Below w.heap.size w w') : Kp w0 w' := ⟨h.forms.step hb, h.max.step hb, bstep h.below hb⟩

set_option maxRecDepth 100000 in
set_option maxHeartbeats 2000000 in
theorem back_any (s : ByteArray) (hs : s.size ≤ 1048576) (w : World) (hf0 : Forms w) (hm0 : MaxL w) :
    Calls Tryd.prog 5 #[.string s] w fun e w' => e = .returned (.bool true) ∧ Below w.heap.size w w' := by
  have hf : Kp w w := ⟨hf0, hm0, Below.refl _ _⟩
  have KK := Lib.hid hf
  have hs2 : s.size ≤ 16777216 := by omega
  obtain ⟨p, hp⟩ : ∃ p : ByteArray, p = ⟨(pct s.data.toList).toArray⟩ := ⟨_, rfl⟩
  obtain ⟨q, hq⟩ : ∃ q : ByteArray, q = ⟨(b64 s.data.toList).toArray⟩ := ⟨_, rfl⟩
  have hpl : p.data.toList = pct s.data.toList := by rw [hp]
  have hql : q.data.toList = b64 s.data.toList := by rw [hq]
  have hqs : q.size = (s.size + 2) / 3 * 4 := by rw [bsize, hql, b64_length, bsize s]; unfold full; omega
  have hps : p.size ≤ 3 * s.size := by rw [bsize, hpl, bsize s]; exact pct_length _
  have c1 := fun w => percent_any s hs2 w
  have c2 := fun w => unpercent_any p (by omega) w
  have c3 := fun w => base64_any s hs2 w
  have c4 := fun w => unbase64_any q (by omega) w
  rw [← hp] at c1
  rw [← hq] at c3
  rw [hpl, unpV_pct, mk_toList] at c2
  rw [hql, unb_back, mk_toList] at c4
  have t1 := two_same s
  have t2 : ((q.size : Int) == ((s.size : Int) + 2) / 3 * 4) = true := by rw [hqs]; simp
  have t3 : IntKind.i64.wrap ((s.size : Int) + 2) = (s.size : Int) + 2 := IntWalk.i64_in _ (by omega)
  clear hf hp hq hpl hql hf0 hm0
  go_enter Tryd.func5, Tryd.ntmps5
  go_wp2_with (first
    | (go_at_call 13; ((with_reducible refine (c1 _).mono ?_); rintro e w1 ⟨rfl, hb⟩; replace KK := Lib.hid (KK.out.step hb); clear hb))
    | (go_at_call 7; ((with_reducible refine (c2 _).mono ?_); rintro e w2 ⟨rfl, hb⟩; replace KK := Lib.hid (KK.out.step hb); clear hb))
    | (go_at_call 15; ((with_reducible refine (c3 _).mono ?_); rintro e w3 ⟨rfl, hb⟩; replace KK := Lib.hid (KK.out.step hb); clear hb))
    | (go_at_call 9; ((with_reducible refine (c4 _).mono ?_); rintro e w4 ⟨rfl, hb⟩; replace KK := Lib.hid (KK.out.step hb); clear hb))
    | (go_at_call 17; ((with_reducible refine (awake_any _ KK.out.forms).mono ?_); rintro e w11 ⟨rfl, hb⟩; replace KK := Lib.hid (KK.out.step hb); clear hb)))
  go_ret
  exact ⟨rfl, KK.out.below⟩

theorem append_list (a b : ByteArray) : (a ++ b).data.toList = a.data.toList ++ b.data.toList := by simp [ByteArray.data_append]

set_option maxRecDepth 100000 in
set_option maxHeartbeats 4000000 in
theorem joins_any (a b c : ByteArray) (ha : a.size ≤ 1048576) (hb : b.size ≤ 1048576) (hc : c.size ≤ 1048576) (w : World) (hf : Forms w) (hm : MaxL w) :
    Calls Tryd.prog 6 #[.string a, .string b, .string c] w fun e w' => e = .returned (.bool true) ∧ Below w.heap.size w w' := by
  have KK := Lib.hid (show Kp w w from ⟨hf, hm, Below.refl _ _⟩)
  have e1 : (a ++ b).size = a.size + b.size := ByteArray.size_append ..
  have e2 : (c ++ a ++ b).size = c.size + a.size + b.size := by rw [ByteArray.size_append, ByteArray.size_append]
  have v1 := fun w hf => valid_any a (by omega) w hf
  have v2 := fun w hf => valid_any b (by omega) w hf
  have v3 := fun w hf => valid_any (a ++ b) (by omega) w hf
  have i1 := fun w hm => within_any a b (by omega) (by omega) w hm
  have i2 := fun w hm => within_any b c (by omega) (by omega) w hm
  have i3 := fun w hm => within_any a c (by omega) (by omega) w hm
  have i4 := fun w hm => within_any a (c ++ a ++ b) (by omega) (by omega) w hm
  have i5 := fun w hm => within_any a a (by omega) (by omega) w hm
  have l1 := fun w => lower_any a (by omega) w
  have hll : (⟨(lowL a.data.toList).toArray⟩ : ByteArray).size = a.size := by rw [bsize, bsize a]; exact lowL_length _
  have l2 := fun w => alike_any a ⟨(lowL a.data.toList).toArray⟩ (by omega) (by omega) w
  rw [show (⟨(lowL a.data.toList).toArray⟩ : ByteArray).data.toList = lowL a.data.toList by simp, lowL_low, decide_eq_true rfl] at l2
  rw [append_list, append_list, contains_mid] at i4
  rw [contains_self] at i5
  rw [append_list] at v3
  generalize (⟨(lowL a.data.toList).toArray⟩ : ByteArray) = l at l1 l2
  have HV : Hid (vld a.data.toList = true → vld b.data.toList = true → vld (a.data.toList ++ b.data.toList) = true) := Lib.hid (fun h1 h2 => vld_app _ _ _ (Nat.le_refl _) h1 h2)
  have HI : Hid (Lib.contains (lowL b.data.toList) (lowL a.data.toList) = true → Lib.contains (lowL c.data.toList) (lowL b.data.toList) = true → Lib.contains (lowL c.data.toList) (lowL a.data.toList) = true) := Lib.hid (fun h1 h2 => contains_trans h1 h2)
  generalize vld (a.data.toList ++ b.data.toList) = x3 at v3 HV
  generalize vld a.data.toList = x1 at v1 HV
  generalize vld b.data.toList = x2 at v2 HV
  generalize Lib.contains (lowL b.data.toList) (lowL a.data.toList) = y1 at i1 HI
  generalize Lib.contains (lowL c.data.toList) (lowL b.data.toList) = y2 at i2 HI
  generalize Lib.contains (lowL c.data.toList) (lowL a.data.toList) = y3 at i3 HI
  have r1 : ∀ w, (Op.stringOp .add c a).run Tryd.prog w = .ok (.string (c ++ a)) w := fun w => run_string_add_sum w _ _ (by omega)
  have r2 : ∀ w, (Op.stringOp .add (c ++ a) b).run Tryd.prog w = .ok (.string (c ++ a ++ b)) w := fun w => run_string_add_sum w _ _ (by rw [ByteArray.size_append]; omega)
  have r3 : ∀ w, (Op.stringOp .add a b).run Tryd.prog w = .ok (.string (a ++ b)) w := fun w => run_string_add_sum w _ _ (by omega)
  have g1 : ¬ 9223372036854775807 < c.size + a.size := by omega
  have g2 : ¬ 9223372036854775807 < (c ++ a).size + b.size := by rw [ByteArray.size_append]; omega
  have g3 : ¬ 9223372036854775807 < a.size + b.size := by omega
  have g4 : ¬ 9223372036854775807 < c.size + a.size + b.size := by omega
  clear hf hm ha hb hc e1 e2 hll
  have hx : x1 = false ∨ (x1 = true ∧ x2 = false) ∨ (x1 = true ∧ x2 = true ∧ x3 = true) := by
    cases x1 <;> cases x2 <;> simp
    exact HV.out rfl rfl
  have hy : y1 = false ∨ (y1 = true ∧ y2 = false) ∨ (y1 = true ∧ y2 = true ∧ y3 = true) := by
    cases y1 <;> cases y2 <;> simp
    exact HI.out rfl rfl
  clear HV HI
  go_enter Tryd.func6, Tryd.ntmps6
  rcases hx with rfl | ⟨rfl, rfl⟩ | ⟨rfl, rfl, rfl⟩ <;> rcases hy with rfl | ⟨rfl, rfl⟩ | ⟨rfl, rfl, rfl⟩
  all_goals
    go_wp2_with (first
      | (go_at_call 11; first
          | ((with_reducible refine (v1 _ KK.out.1).mono ?_); rintro e w1 ⟨rfl, hb⟩; replace KK := Lib.hid (KK.out.step hb); clear hb)
          | ((with_reducible refine (v2 _ KK.out.1).mono ?_); rintro e w1 ⟨rfl, hb⟩; replace KK := Lib.hid (KK.out.step hb); clear hb)
          | ((with_reducible refine (v3 _ KK.out.1).mono ?_); rintro e w1 ⟨rfl, hb⟩; replace KK := Lib.hid (KK.out.step hb); clear hb))
      | (go_at_call 24; first
          | ((with_reducible refine (i1 _ KK.out.2).mono ?_); rintro e w1 ⟨rfl, hb⟩; replace KK := Lib.hid (KK.out.step hb); clear hb)
          | ((with_reducible refine (i2 _ KK.out.2).mono ?_); rintro e w1 ⟨rfl, hb⟩; replace KK := Lib.hid (KK.out.step hb); clear hb)
          | ((with_reducible refine (i3 _ KK.out.2).mono ?_); rintro e w1 ⟨rfl, hb⟩; replace KK := Lib.hid (KK.out.step hb); clear hb)
          | ((with_reducible refine (i4 _ KK.out.2).mono ?_); rintro e w1 ⟨rfl, hb⟩; replace KK := Lib.hid (KK.out.step hb); clear hb)
          | ((with_reducible refine (i5 _ KK.out.2).mono ?_); rintro e w1 ⟨rfl, hb⟩; replace KK := Lib.hid (KK.out.step hb); clear hb))
      | (go_at_call 20; ((with_reducible refine (l1 _).mono ?_); rintro e w1 ⟨rfl, hb⟩; replace KK := Lib.hid (KK.out.step hb); clear hb))
      | (go_at_call 22; ((with_reducible refine (l2 _).mono ?_); rintro e w1 ⟨rfl, hb⟩; replace KK := Lib.hid (KK.out.step hb); clear hb))
      | (go_at_call 17; ((with_reducible refine (awake_any _ KK.out.1).mono ?_); rintro e w1 ⟨rfl, hb⟩; replace KK := Lib.hid (KK.out.step hb); clear hb)))
    go_ret
    exact ⟨rfl, KK.out.below⟩

end Go.Proofs.YtnadnccmlbleoaaDoor
