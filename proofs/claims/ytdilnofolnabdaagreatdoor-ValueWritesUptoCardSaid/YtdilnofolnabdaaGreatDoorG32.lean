/-
  The document's own answers of layer 13: a time, written.
-/
import Derived.Test.YtdilnofolnabdaaGreatDoorG29
import Derived.Test.YtdilnofolnabdaaGreatDoorG11
import Derived.Test.YtdilnofolnabdaaGreatDoorG23
import Derived.Test.YtdilnofolnabdaaGreatDoorG31
import Derived.Test.YtdilnofolnabdaaGreatDoorG24
import Derived.Test.YtdilnofolnabdaaGreatDoorG30
namespace Go.Proofs.YtdilnofolnabdaaGreatDoor
open Go.RowKit

set_option maxRecDepth 100000 in
set_option maxHeartbeats 8000000 in
theorem refTimeText_any (t : Wh) (ht : -9223372036854775808 ≤ t.secs ∧ t.secs < 9223372036854775808) (w : World) :
    Calls Tryz.prog 9 #[whV t] w fun e w' => e = .returned (.string ⟨(timT t).toArray⟩) ∧ Below w.heap.size w w' := by
  have hmx : Tryz.prog.follows .mixedOrders = true := by kernel_rfl
  have ha : Below w.heap.size w (w.alloc (.cells #[.int .i64 t.secs, .bool t.utc, .bool t.date] 23)) := (Below.refl _ w).alloc (Nat.le_refl _) _
  have hz := H3.new w t
  have HT := Lib.hid (timT_ref t)
  unfold timS at HT
  obtain ⟨ts, tu, td⟩ := t
  simp only at ht HT ha hz
  have cp := fun W => refParts_any ts ht W
  have ci := fun W => refIn_any ts W
  have cd := fun W => refDay_any (ts / 86400) (by omega) W
  have cs := fun W => refStamp_any ts ht W
  have hsz : (⟨(stampT ts).toArray⟩ : ByteArray).size ≤ 20 := by
    rw [mk_size]
    by_cases h : inD ts = true
    · rw [stampT_length h]; omega
    · rw [stampT_bad (by simpa using h)]; simp
  have HL := Lib.hid (mk_app (stampT ts) [90])
  unfold whV
  simp only
  generalize hS : (⟨(stampT ts).toArray⟩ : ByteArray) = S at *
  have HSS := Lib.hid hS
  clear hS
  have no1 : ¬ 9223372036854775807 < S.size + 1 := by omega
  have no2 : ¬ 9223372036854775806 < S.size := by omega
  have no3 : ¬ 9223372036854775807 ≤ S.size := by omega
  have no4 : ¬ 9223372036854775807 < S.size + (⟨#[90]⟩ : ByteArray).size := by show ¬ _ < S.size + 1; omega
  generalize hr : ts % 86400 = r at *
  generalize hq : ts / 86400 = q at *
  clear hr hq hsz ht
  cases hin : inD ts
  · rw [hin] at HT ci
    have HF : Hid (timT ⟨ts, tu, td⟩ = []) := Lib.hid (by rw [HT.out, if_pos (.inl rfl)])
    clear HT hin
    go_enter Tryz.func9, Tryz.ntmps9
    go_upto_region 1 with fail
    obtain ⟨w1, hw1⟩ : ∃ w1, w.alloc (.cells #[.int .i64 ts, .bool tu, .bool td] 23) = w1 := ⟨_, rfl⟩
    rw [hw1] at ha hz ⊢
    obtain ⟨x0, x1, x2⟩ := hz.cells
    have HB := Lib.hid ha
    clear hw1 ha hz
    go_wp2_with (first
      | (go_at_call 24; ((with_reducible refine (cp _).mono ?_); rintro e w' ⟨rfl, hw⟩; subst w'))
      | (go_at_call 25; ((with_reducible refine (ci _).mono ?_); rintro e w' ⟨rfl, hw⟩; subst w')))
    go_ret
    exact ⟨by rw [HF.out]; rfl, HB.out⟩
  · rw [hin] at HT ci
    cases td
    · cases tu
      · have HF : Hid (timT ⟨ts, false, false⟩ = stampT ts) := Lib.hid (by rw [HT.out, if_neg (by rintro (h | ⟨h, _⟩) <;> cases h)]; simp)
        clear HT hin
        go_enter Tryz.func9, Tryz.ntmps9
        go_upto_region 1 with fail
        obtain ⟨w1, hw1⟩ : ∃ w1, w.alloc (.cells #[.int .i64 ts, .bool false, .bool false] 23) = w1 := ⟨_, rfl⟩
        rw [hw1] at ha hz ⊢
        obtain ⟨x0, x1, x2⟩ := hz.cells
        have HB := Lib.hid ha
        clear hw1 ha hz
        go_wp2_with (first
          | (go_at_call 24; ((with_reducible refine (cp _).mono ?_); rintro e w' ⟨rfl, hw⟩; subst w'))
          | (go_at_call 25; ((with_reducible refine (ci _).mono ?_); rintro e w' ⟨rfl, hw⟩; subst w'))
          | (go_at_call 27; ((with_reducible refine (cs _).mono ?_); rintro e w2 ⟨rfl, hb2⟩; have HB2 := Lib.hid (bstep HB.out hb2))))
        go_ret
        exact ⟨by rw [HF.out, HSS.out]; rfl, HB2.out⟩
      · have HF : Hid (timT ⟨ts, true, false⟩ = stampT ts ++ [90]) := Lib.hid (by rw [HT.out, if_neg (by rintro (h | ⟨h, _⟩) <;> cases h)]; simp)
        clear HT hin
        go_enter Tryz.func9, Tryz.ntmps9
        go_upto_region 1 with fail
        obtain ⟨w1, hw1⟩ : ∃ w1, w.alloc (.cells #[.int .i64 ts, .bool true, .bool false] 23) = w1 := ⟨_, rfl⟩
        rw [hw1] at ha hz ⊢
        obtain ⟨x0, x1, x2⟩ := hz.cells
        have HB := Lib.hid ha
        clear hw1 ha hz
        go_wp2_with (first
          | (go_at_call 24; ((with_reducible refine (cp _).mono ?_); rintro e w' ⟨rfl, hw⟩; subst w'))
          | (go_at_call 25; ((with_reducible refine (ci _).mono ?_); rintro e w' ⟨rfl, hw⟩; subst w'))
          | (go_at_call 27; ((with_reducible refine (cs _).mono ?_); rintro e w2 ⟨rfl, hb2⟩; have HB2 := Lib.hid (bstep HB.out hb2))))
        go_ret
        exact ⟨by rw [HF.out, ← HL.out]; rfl, HB2.out⟩
    · cases tu
      · by_cases h0 : r = 0
        · subst h0
          have HF : Hid (timT ⟨ts, false, true⟩ = dayT q) := Lib.hid (by rw [HT.out, if_neg (by rintro (h | ⟨_, h | h⟩) <;> first | cases h | exact h rfl)]; simp)
          clear HT hin
          go_enter Tryz.func9, Tryz.ntmps9
          go_upto_region 1 with fail
          obtain ⟨w1, hw1⟩ : ∃ w1, w.alloc (.cells #[.int .i64 ts, .bool false, .bool true] 23) = w1 := ⟨_, rfl⟩
          rw [hw1] at ha hz ⊢
          obtain ⟨x0, x1, x2⟩ := hz.cells
          have HB := Lib.hid ha
          clear hw1 ha hz
          go_wp2_with (first
            | (go_at_call 24; ((with_reducible refine (cp _).mono ?_); rintro e w' ⟨rfl, hw⟩; subst w'))
            | (go_at_call 25; ((with_reducible refine (ci _).mono ?_); rintro e w' ⟨rfl, hw⟩; subst w'))
            | (go_at_call 26; ((with_reducible refine (cd _).mono ?_); rintro e w2 ⟨rfl, hb2⟩; have HB2 := Lib.hid (bstep HB.out hb2))))
          go_ret
          exact ⟨by rw [HF.out]; rfl, HB2.out⟩
        · have HF : Hid (timT ⟨ts, false, true⟩ = []) := Lib.hid (by rw [HT.out, if_pos (.inr ⟨rfl, .inr h0⟩)])
          have g1 : ((r : Int) == 0) = false := by rw [beq_eq_false_iff_ne]; exact h0
          have g2 : ((r : Int) != 0) = true := by simpa using h0
          clear HT hin
          go_enter Tryz.func9, Tryz.ntmps9
          go_upto_region 1 with fail
          obtain ⟨w1, hw1⟩ : ∃ w1, w.alloc (.cells #[.int .i64 ts, .bool false, .bool true] 23) = w1 := ⟨_, rfl⟩
          rw [hw1] at ha hz ⊢
          obtain ⟨x0, x1, x2⟩ := hz.cells
          have HB := Lib.hid ha
          clear hw1 ha hz
          go_wp2_with (first
            | (go_at_call 24; ((with_reducible refine (cp _).mono ?_); rintro e w' ⟨rfl, hw⟩; subst w'))
            | (go_at_call 25; ((with_reducible refine (ci _).mono ?_); rintro e w' ⟨rfl, hw⟩; subst w')))
          go_ret
          exact ⟨by rw [HF.out]; rfl, HB.out⟩
      · have HF : Hid (timT ⟨ts, true, true⟩ = []) := Lib.hid (by rw [HT.out, if_pos (.inr ⟨rfl, .inl rfl⟩)])
        clear HT hin
        go_enter Tryz.func9, Tryz.ntmps9
        go_upto_region 1 with fail
        obtain ⟨w1, hw1⟩ : ∃ w1, w.alloc (.cells #[.int .i64 ts, .bool true, .bool true] 23) = w1 := ⟨_, rfl⟩
        rw [hw1] at ha hz ⊢
        obtain ⟨x0, x1, x2⟩ := hz.cells
        have HB := Lib.hid ha
        clear hw1 ha hz
        go_wp2_with (first
          | (go_at_call 24; ((with_reducible refine (cp _).mono ?_); rintro e w' ⟨rfl, hw⟩; subst w'))
          | (go_at_call 25; ((with_reducible refine (ci _).mono ?_); rintro e w' ⟨rfl, hw⟩; subst w')))
        go_ret
        exact ⟨by rw [HF.out]; rfl, HB.out⟩
end Go.Proofs.YtdilnofolnabdaaGreatDoor

/-
  The document's own answers of layer 13: a period, written.
-/
namespace Go.Proofs.YtdilnofolnabdaaGreatDoor
open Go.RowKit

set_option maxRecDepth 100000 in
set_option maxHeartbeats 4000000 in
theorem refPerText_any (t : Wh) (n : Int) (ht : -9223372036854775808 ≤ t.secs ∧ t.secs < 9223372036854775808) (hn : -9223372036854775808 ≤ n ∧ n < 9223372036854775808) (w : World) :
    Calls Tryz.prog 11 #[perVal t n] w fun e w' => e = .returned (.string ⟨(perT t n).toArray⟩) ∧ Below w.heap.size w w' := by
  have hmx : Tryz.prog.follows .mixedOrders = true := by kernel_rfl
  have ha : Below w.heap.size w (w.alloc (.cells #[.int .i64 t.secs, .bool t.utc, .bool t.date, .int .i64 n] 25)) := (Below.refl _ w).alloc (Nat.le_refl _) _
  have hz := P4.new w t n
  have lt := timT_len t
  have ld := durT_len n
  have cA := fun W => refTimeText_any t ht W
  have cB := fun W => refDurText_any n hn W
  have e1 : (⟨(timT t).toArray⟩ : ByteArray) ++ ⟨#[47]⟩ ++ ⟨(durT n).toArray⟩ = ⟨(perS t n).toArray⟩ := by
    rw [show (⟨#[47]⟩ : ByteArray) = ⟨([47] : List UInt8).toArray⟩ from rfl, mk_app, mk_app]
    unfold perS
    simp
  have s1 : (⟨(timT t).toArray⟩ : ByteArray).size ≤ 16 := by rw [mk_size]; exact lt
  have s2 : (⟨(durT n).toArray⟩ : ByteArray).size ≤ 60 := by rw [mk_size]; exact ld
  have s3 : (⟨(perS t n).toArray⟩ : ByteArray).size ≤ 1048576 := by rw [mk_size]; unfold perS; simp; omega
  have cP := fun W => refPer13_any ⟨(perS t n).toArray⟩ s3 W
  rw [mk_listV] at cP
  have HTT : Hid (perT t n = if perV (perS t n) = ((t, n), 0) then perS t n else []) := Lib.hid (by unfold perT; split <;> simp_all)
  have htc := perV_case (perS t n)
  obtain ⟨⟨⟨got, gn⟩, er⟩, hge⟩ : ∃ p, perV (perS t n) = p := ⟨_, rfl⟩
  rw [hge] at cP HTT htc
  have HE1 := Lib.hid e1
  generalize hS : (⟨(perS t n).toArray⟩ : ByteArray) = S at *
  have HS := Lib.hid hS
  generalize (⟨(timT t).toArray⟩ : ByteArray) = a1 at *
  generalize (⟨(durT n).toArray⟩ : ByteArray) = a2 at *
  have no1 : ¬ 9223372036854775807 < a1.size + 1 := by omega
  have no2 : ¬ 9223372036854775807 < (a1 ++ ⟨#[47]⟩).size + a2.size := by rw [ByteArray.size_append, show (⟨#[47]⟩ : ByteArray).size = 1 from rfl]; omega
  have no3 : ¬ 9223372036854775807 ≤ a1.size := by omega
  clear hge hS e1 s1 s2 s3 lt ld
  unfold perVal
  unfold perVal at cP
  unfold whV at cA
  simp only at htc cP
  go_enter Tryz.func11, Tryz.ntmps11
  go_upto_region 1 with fail
  obtain ⟨w1, hw1⟩ : ∃ w1, w.alloc (.cells #[.int .i64 t.secs, .bool t.utc, .bool t.date, .int .i64 n] 25) = w1 := ⟨_, rfl⟩
  rw [hw1] at ha hz ⊢
  have HB1 := Lib.hid ha
  refine region_heldV (C := HoldP w1 w.heap.size t n) hmx (by kernel_rfl) (HoldP.step ⟨hz, Below.refl _ _⟩ (Below.refl _ _).drew) ?_
  repeat (first
    | go_big_quiet_skip
    | (go_big_quiet_want; go_big_quiet_op; first
        | go_big_quiet_on
        | (refine ⟨_, fun _ _ => rfl, ?_⟩; go_big_quiet_on)
        | (apply Exists.intro
           refine ⟨fun w5 hw5 => ?_, ?_⟩
           · (obtain ⟨q0, q1, q2, q3⟩ := hw5.p.cells
              simp only [q0, q1, q2, q3, Result.andThen_ok]
              first | exact ⟨trivial, rfl⟩ | exact ⟨rfl, rfl⟩)
           go_big_quiet_on)
        | (apply Exists.intro
           refine ⟨fun w5 hw5 => ?_, ?_⟩
           · ((with_reducible refine (cA _).mono ?_); rintro e w6 ⟨rfl, hbx⟩; exact ⟨rfl, hw5.step hbx⟩)
           go_big_quiet_on)
        | (apply Exists.intro
           refine ⟨fun w5 hw5 => ?_, ?_⟩
           · ((with_reducible refine (cB _).mono ?_); rintro e w6 ⟨rfl, hbx⟩; exact ⟨rfl, hw5.step hbx⟩)
           go_big_quiet_on)))
  refine wpQuiet_nil ?_
  intro w2 hw2
  have HZ2 := Lib.hid hw2.p
  have HB2 := Lib.hid (bstep HB1.out hw2.below)
  clear hw2 hz ha hw1
  rw [HE1.out]
  have HER : (er = 10 ∧ got = Wh.zero ∧ gn = 0) ∨ (er = 0 ∧ ((got = t ∧ gn = n) ∨ ((¬ got.secs = t.secs) ∨ (got.secs = t.secs ∧ ¬ got.utc = t.utc) ∨ (got.secs = t.secs ∧ got.utc = t.utc ∧ ¬ got.date = t.date) ∨ (got = t ∧ ¬ gn = n)))) := by
    rcases htc with h | h
    · refine .inr ⟨h, ?_⟩
      by_cases hg : got = t
      · by_cases hx : gn = n
        · exact .inl ⟨hg, hx⟩
        · exact .inr (.inr (.inr (.inr ⟨hg, hx⟩)))
      · rcases wh_ne hg with h1 | h1 | h1
        · exact .inr (.inl h1)
        · exact .inr (.inr (.inl h1))
        · exact .inr (.inr (.inr (.inl h1)))
    · injection h with h1 h2
      injection h1 with h3 h4
      exact .inl ⟨h2, h3, h4⟩
  clear htc
  rcases HER with ⟨rfl, rfl, rfl⟩ | ⟨rfl, HER⟩
  · have HF : Hid (perT t n = []) := Lib.hid (by rw [HTT.out, if_neg (by intro h; injection h with _ h; revert h; decide)])
    go_wp2_with (go_at_call 29; refine (cP _).mono ?_; rintro e w3 ⟨rfl, hb3⟩)
    go_ret
    exact ⟨by rw [HF.out]; rfl, (bstep HB2.out hb3).alloc (bstep HB2.out hb3).size _⟩
  · rcases HER with ⟨rfl, rfl⟩ | HER
    · have HF : Hid (perT got gn = perS got gn) := Lib.hid (by rw [HTT.out, if_pos rfl])
      go_wp2_with (go_at_call 29; refine (cP _).mono ?_; rintro e w3 ⟨rfl, hb3⟩
                   have hz3 := HZ2.out.step hb3
                   have ha3 : Below w3.heap.size w3 (w3.alloc (.cells #[.int .i64 got.secs, .bool got.utc, .bool got.date, .int .i64 gn] 25)) := (Below.refl _ w3).alloc (Nat.le_refl _) _
                   obtain ⟨y0, y1, y2, y3⟩ := (hz3.step ha3).cells
                   obtain ⟨z0, z1, z2, z3⟩ := hz3.cells
                   obtain ⟨u0, u1, u2, u3⟩ := (P4.new w3 ⟨got.secs, got.utc, got.date⟩ gn).cells
                   have HB3 := Lib.hid (bstep HB2.out hb3)
                   clear hz3 ha3 hb3)
      go_ret
      exact ⟨by rw [HF.out, HS.out]; rfl, HB3.out.alloc HB3.out.size _⟩
    · have HF : Hid (perT t n = []) := Lib.hid (by
        rw [HTT.out, if_neg]
        intro h
        injection h with h _
        injection h with h h'
        subst h
        rcases HER with h | ⟨_, h⟩ | ⟨_, _, h⟩ | ⟨_, h⟩
        · exact h rfl
        · exact h rfl
        · exact h rfl
        · exact h h')
      clear HTT
      obtain ⟨gs, gu, gd⟩ := got
      obtain ⟨ts, tu, td⟩ := t
      simp only at cP HER
      rcases HER with h1 | ⟨h1, h2⟩ | ⟨h1, h2, h3⟩ | ⟨h1, h2⟩
      · go_wp2_with (go_at_call 29; refine (cP _).mono ?_; rintro e w3 ⟨rfl, hb3⟩
                     have hz3 := HZ2.out.step hb3
                     have ha3 : Below w3.heap.size w3 (w3.alloc (.cells #[.int .i64 gs, .bool gu, .bool gd, .int .i64 gn] 25)) := (Below.refl _ w3).alloc (Nat.le_refl _) _
                     obtain ⟨y0, y1, y2, y3⟩ := (hz3.step ha3).cells
                     obtain ⟨z0, z1, z2, z3⟩ := hz3.cells
                     obtain ⟨u0, u1, u2, u3⟩ := (P4.new w3 ⟨gs, gu, gd⟩ gn).cells
                     have HB3 := Lib.hid (bstep HB2.out hb3)
                     clear hz3 ha3 hb3)
        go_ret
        exact ⟨by rw [HF.out]; rfl, HB3.out.alloc HB3.out.size _⟩
      · subst h1
        go_wp2_with (go_at_call 29; refine (cP _).mono ?_; rintro e w3 ⟨rfl, hb3⟩
                     have hz3 := HZ2.out.step hb3
                     have ha3 : Below w3.heap.size w3 (w3.alloc (.cells #[.int .i64 gs, .bool gu, .bool gd, .int .i64 gn] 25)) := (Below.refl _ w3).alloc (Nat.le_refl _) _
                     obtain ⟨y0, y1, y2, y3⟩ := (hz3.step ha3).cells
                     obtain ⟨z0, z1, z2, z3⟩ := hz3.cells
                     obtain ⟨u0, u1, u2, u3⟩ := (P4.new w3 ⟨gs, gu, gd⟩ gn).cells
                     have HB3 := Lib.hid (bstep HB2.out hb3)
                     clear hz3 ha3 hb3)
        go_ret
        exact ⟨by rw [HF.out]; rfl, HB3.out.alloc HB3.out.size _⟩
      · subst h1; subst h2
        go_wp2_with (go_at_call 29; refine (cP _).mono ?_; rintro e w3 ⟨rfl, hb3⟩
                     have hz3 := HZ2.out.step hb3
                     have ha3 : Below w3.heap.size w3 (w3.alloc (.cells #[.int .i64 gs, .bool gu, .bool gd, .int .i64 gn] 25)) := (Below.refl _ w3).alloc (Nat.le_refl _) _
                     obtain ⟨y0, y1, y2, y3⟩ := (hz3.step ha3).cells
                     obtain ⟨z0, z1, z2, z3⟩ := hz3.cells
                     obtain ⟨u0, u1, u2, u3⟩ := (P4.new w3 ⟨gs, gu, gd⟩ gn).cells
                     have HB3 := Lib.hid (bstep HB2.out hb3)
                     clear hz3 ha3 hb3)
        go_ret
        exact ⟨by rw [HF.out]; rfl, HB3.out.alloc HB3.out.size _⟩
      · injection h1 with h3 h4 h5; subst h3; subst h4; subst h5
        go_wp2_with (go_at_call 29; refine (cP _).mono ?_; rintro e w3 ⟨rfl, hb3⟩
                     have hz3 := HZ2.out.step hb3
                     have ha3 : Below w3.heap.size w3 (w3.alloc (.cells #[.int .i64 gs, .bool gu, .bool gd, .int .i64 gn] 25)) := (Below.refl _ w3).alloc (Nat.le_refl _) _
                     obtain ⟨y0, y1, y2, y3⟩ := (hz3.step ha3).cells
                     obtain ⟨z0, z1, z2, z3⟩ := hz3.cells
                     obtain ⟨u0, u1, u2, u3⟩ := (P4.new w3 ⟨gs, gu, gd⟩ gn).cells
                     have HB3 := Lib.hid (bstep HB2.out hb3)
                     clear hz3 ha3 hb3)
        go_ret
        exact ⟨by rw [HF.out]; rfl, HB3.out.alloc HB3.out.size _⟩
end Go.Proofs.YtdilnofolnabdaaGreatDoor

/-
  How values are written is the document's way (layer 13): the law ValueWrites.
-/
namespace Go.Proofs.YtdilnofolnabdaaGreatDoor
open Go.RowKit

structure HoldW (w0 : World) (g1 g2 : Nat) (t p : Wh) (m : Int) (W : World) : Prop where
  h : H3 W g1 t
  p : P4 W g2 p m
  below : Below w0.heap.size w0 W
theorem HoldW.step {w0 W W' : World} {g1 g2 : Nat} {t p : Wh} {m : Int} (h : HoldW w0 g1 g2 t p m W) (hb : Below W.heap.size W W') : HoldW w0 g1 g2 t p m W' := ⟨h.h.step hb, h.p.step hb, bstep h.below hb⟩
set_option maxRecDepth 100000 in
set_option maxHeartbeats 16000000 in
theorem writes13_any (n : Int) (t p : Wh) (m : Int) (s : ByteArray) (hn : -9223372036854775808 ≤ n ∧ n < 9223372036854775808) (ht : -9223372036854775808 ≤ t.secs ∧ t.secs < 9223372036854775808) (hp : -9223372036854775808 ≤ p.secs ∧ p.secs < 9223372036854775808) (hm : -9223372036854775808 ≤ m ∧ m < 9223372036854775808) (hs : s.size ≤ 1048576) (w : World) (hv : VV w) :
    Calls Tryz.prog 3 #[.int .i64 n, whV t, perVal p m, .string s] w fun e w' => e = .returned (.bool true) ∧ Below w.heap.size w w' := by
  have a1 := fun W (hV : VV W) => pDurText_any n hn W hV.dv
  have a2 := fun W => refDurText_any n hn W
  have a3 := fun W (hV : VV W) => pOffText_any n hn W hV.dv
  have a4 := fun W => refOffText_any n hn W
  have a5 := fun W (hV : VV W) => pTimeText_any t ht W hV
  have a6 := fun W => refTimeText_any t ht W
  have a7 := fun W (hV : VV W) => pPerText_any p m hp hm W hV
  have a8 := fun W => refPerText_any p m hp hm W
  have a9 := fun W => pEsc_any s hs W
  have a10 := fun W => refEsc_any s hs W
  have HC := Lib.hid awake13_any
  have HVV := Lib.hid hv
  have hmx : Tryz.prog.follows .mixedOrders = true := by kernel_rfl
  have ha : Below w.heap.size w ((w.alloc (.cells #[.int .i64 t.secs, .bool t.utc, .bool t.date] 23)).alloc (.cells #[.int .i64 p.secs, .bool p.utc, .bool p.date, .int .i64 m] 25)) := ((Below.refl _ w).alloc (Nat.le_refl _) _).alloc (by simp) _
  have hz1 := (H3.new w t).step ((Below.refl _ _).alloc (Nat.le_refl _) (.cells #[.int .i64 p.secs, .bool p.utc, .bool p.date, .int .i64 m] 25))
  have hz2 := P4.new (w.alloc (.cells #[.int .i64 t.secs, .bool t.utc, .bool t.date] 23)) p m
  rw [World.size_alloc] at hz2
  unfold whV at a5 a6 ⊢
  unfold perVal at a7 a8 ⊢
  generalize (⟨(durT n).toArray⟩ : ByteArray) = T1 at *
  generalize (⟨(offT n).toArray⟩ : ByteArray) = T2 at *
  generalize (⟨(timT t).toArray⟩ : ByteArray) = T3 at *
  generalize (⟨(perT p m).toArray⟩ : ByteArray) = T4 at *
  generalize (⟨(escL s.data.toList).toArray⟩ : ByteArray) = T5 at *
  clear hv hn ht hp hm
  go_enter Tryz.func3, Tryz.ntmps3
  go_upto_region 1 with fail
  generalize (w.alloc (.cells #[.int .i64 t.secs, .bool t.utc, .bool t.date] 23)).alloc (.cells #[.int .i64 p.secs, .bool p.utc, .bool p.date, .int .i64 m] 25) = w0 at ha hz1 hz2 ⊢
  have hb0 := Lib.hid ha
  have hV0 := HVV.out.step ha
  refine region_heldV (C := HoldW w0 w.heap.size (w.heap.size + 1) t p m) hmx (by kernel_rfl) (HoldW.step ⟨hz1, hz2, Below.refl _ _⟩ (Below.refl _ _).drew) ?_
  try dsimp only [List.append]
  repeat (first
    | go_big_quiet_skip
    | (go_big_quiet_want; go_big_quiet_op; first
        | go_big_quiet_on
        | (refine ⟨_, fun _ _ => rfl, ?_⟩; go_big_quiet_on)
        | (apply Exists.intro
           refine ⟨fun w5 hw5 => ?_, ?_⟩
           · (obtain ⟨q0, q1, q2⟩ := hw5.h.cells
              simp only [q0, q1, q2, Result.andThen_ok]
              first | exact ⟨trivial, rfl⟩ | exact ⟨rfl, rfl⟩)
           go_big_quiet_on)
        | (apply Exists.intro
           refine ⟨fun w5 hw5 => ?_, ?_⟩
           · (obtain ⟨q0, q1, q2, q3⟩ := hw5.p.cells
              simp only [q0, q1, q2, q3, Result.andThen_ok]
              first | exact ⟨trivial, rfl⟩ | exact ⟨rfl, rfl⟩)
           go_big_quiet_on)
        | (apply Exists.intro
           refine ⟨fun w5 hw5 => ?_, ?_⟩
           · ((with_reducible refine (a1 _ (hV0.step hw5.below)).mono ?_); rintro e w6 ⟨rfl, hbx⟩; exact ⟨rfl, hw5.step hbx⟩)
           go_big_quiet_on)
        | (apply Exists.intro
           refine ⟨fun w5 hw5 => ?_, ?_⟩
           · ((with_reducible refine (a2 _).mono ?_); rintro e w6 ⟨rfl, hbx⟩; exact ⟨rfl, hw5.step hbx⟩)
           go_big_quiet_on)
        | (apply Exists.intro
           refine ⟨fun w5 hw5 => ?_, ?_⟩
           · ((with_reducible refine (a3 _ (hV0.step hw5.below)).mono ?_); rintro e w6 ⟨rfl, hbx⟩; exact ⟨rfl, hw5.step hbx⟩)
           go_big_quiet_on)
        | (apply Exists.intro
           refine ⟨fun w5 hw5 => ?_, ?_⟩
           · ((with_reducible refine (a4 _).mono ?_); rintro e w6 ⟨rfl, hbx⟩; exact ⟨rfl, hw5.step hbx⟩)
           go_big_quiet_on)
        | (apply Exists.intro
           refine ⟨fun w5 hw5 => ?_, ?_⟩
           · ((with_reducible refine (a5 _ (hV0.step hw5.below)).mono ?_); rintro e w6 ⟨rfl, hbx⟩; exact ⟨rfl, hw5.step hbx⟩)
           go_big_quiet_on)
        | (apply Exists.intro
           refine ⟨fun w5 hw5 => ?_, ?_⟩
           · ((with_reducible refine (a6 _).mono ?_); rintro e w6 ⟨rfl, hbx⟩; exact ⟨rfl, hw5.step hbx⟩)
           go_big_quiet_on)
        | (apply Exists.intro
           refine ⟨fun w5 hw5 => ?_, ?_⟩
           · ((with_reducible refine (a7 _ (hV0.step hw5.below)).mono ?_); rintro e w6 ⟨rfl, hbx⟩; exact ⟨rfl, hw5.step hbx⟩)
           go_big_quiet_on)
        | (apply Exists.intro
           refine ⟨fun w5 hw5 => ?_, ?_⟩
           · ((with_reducible refine (a8 _).mono ?_); rintro e w6 ⟨rfl, hbx⟩; exact ⟨rfl, hw5.step hbx⟩)
           go_big_quiet_on)
        | (apply Exists.intro
           refine ⟨fun w5 hw5 => ?_, ?_⟩
           · ((with_reducible refine (a9 _).mono ?_); rintro e w6 ⟨rfl, hbx⟩; exact ⟨rfl, hw5.step hbx⟩)
           go_big_quiet_on)
        | (apply Exists.intro
           refine ⟨fun w5 hw5 => ?_, ?_⟩
           · ((with_reducible refine (a10 _).mono ?_); rintro e w6 ⟨rfl, hbx⟩; exact ⟨rfl, hw5.step hbx⟩)
           go_big_quiet_on)
        | (apply Exists.intro
           refine ⟨fun w5 hw5 => ?_, ?_⟩
           · ((with_reducible refine (HC.out _ (hV0.step hw5.below)).mono ?_); rintro e w6 ⟨rfl, hbx⟩; exact ⟨rfl, hw5.step hbx⟩)
           go_big_quiet_on)))
  refine wpQuiet_nil ?_
  intro w2 hw2
  have HB2 := Lib.hid (bstep hb0.out hw2.below)
  clear hw2
  go_wp2
  go_ret
  exact ⟨rfl, HB2.out⟩
end Go.Proofs.YtdilnofolnabdaaGreatDoor
