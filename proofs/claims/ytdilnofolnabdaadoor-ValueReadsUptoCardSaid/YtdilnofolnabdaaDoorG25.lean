/-
  The program's own functions of layer 13: a period, written.
-/
import Derived.Test.YtdilnofolnabdaaDoorG22
import Derived.Test.YtdilnofolnabdaaDoorG24
import Derived.BigQuiet
namespace Go.Proofs.YtdilnofolnabdaaDoor
open Go.RowKit

theorem durT_len (n : Int) : (durT n).length ≤ 60 := by
  unfold durT
  split
  · simp
  · rename_i h
    have l1 := dec_len 6 (n.natAbs / 604800) (by omega)
    have l2 := dec_len 6 (n.natAbs / 86400) (by omega)
    have l3 := clkQ_len (n.natAbs % 86400) (by omega)
    have hb : (bodyT n.natAbs).length ≤ 50 := by
      unfold bodyT
      split
      · simp; omega
      · rw [List.length_append]
        have : (if 0 < n.natAbs / 86400 then Lib.decDigits (n.natAbs / 86400) ++ [68] else []).length ≤ 8 := by split <;> simp; omega
        have : (if n.natAbs % 86400 = 0 ∧ 0 < n.natAbs then [] else 84 :: clkQ (n.natAbs % 86400)).length ≤ 31 := by split <;> simp; omega
        omega
    rw [List.length_append]
    have : (if n < 0 then ([45, 80] : List UInt8) else [80]).length ≤ 2 := by split <;> simp
    omega
theorem timT_len (w : Wh) : (timT w).length ≤ 16 := by
  unfold timT
  split
  · exact timS_len w
  · simp
theorem perV_case (l : List UInt8) : (perV l).2 = 0 ∨ perV l = ((Wh.zero, 0), 10) := by
  unfold perV
  split
  · split
    · split
      · exact .inr rfl
      · exact .inl rfl
    · split
      · exact .inl rfl
      · exact .inr rfl
  · exact .inr rfl
structure HoldP (w1 : World) (g : Nat) (t : Wh) (n : Int) (w' : World) : Prop where
  p : P4 w' g t n
  below : Below w1.heap.size w1 w'
theorem HoldP.step {w1 w2 w3 : World} {g : Nat} {t : Wh} {n : Int} (h : HoldP w1 g t n w2) (hb : Below w2.heap.size w2 w3) : HoldP w1 g t n w3 := ⟨h.p.step hb, bstep h.below hb⟩
theorem region_heldV {P : Program} {id : Nat} {Q : Exit → Act → World → Prop} {a : Act} {w : World} {l : List Oper} {C : World → Prop} (hm : P.follows .mixedOrders = true) (hB : Region.lexB .any l.toArray = true) (hC : C w.drew)
    (h : wpQuiet P l.toArray C (fun a' => ∀ w', C w' → Q .normal a' w') l a) : (Code.region id l.toArray true).wp P Q a w :=
  wp_region_quiet (C := C) hm hB hC (by simpa using h)
set_option maxRecDepth 100000 in
set_option maxHeartbeats 4000000 in
theorem pPerText_any (t : Wh) (n : Int) (ht : -9223372036854775808 ≤ t.secs ∧ t.secs < 9223372036854775808) (hn : -9223372036854775808 ≤ n ∧ n < 9223372036854775808) (w : World) (hv : VV w) :
    Calls Tryd.prog 22 #[perVal t n] w fun e w' => e = .returned (.string ⟨(perT t n).toArray⟩) ∧ Below w.heap.size w w' := by
  have hmx : Tryd.prog.follows .mixedOrders = true := by kernel_rfl
  have ha : Below w.heap.size w (w.alloc (.cells #[.int .i64 t.secs, .bool t.utc, .bool t.date, .int .i64 n] 43)) := (Below.refl _ w).alloc (Nat.le_refl _) _
  have hz := P4.new w t n
  have lt := timT_len t
  have ld := durT_len n
  have cA := fun W (hV : VV W) => pTimeText_any t ht W hV
  have cB := fun W (hV : DV W) => pDurText_any n hn W hV
  have e1 : (⟨(timT t).toArray⟩ : ByteArray) ++ ⟨#[47]⟩ ++ ⟨(durT n).toArray⟩ = ⟨(perS t n).toArray⟩ := by
    rw [show (⟨#[47]⟩ : ByteArray) = ⟨([47] : List UInt8).toArray⟩ from rfl, mk_app, mk_app]
    unfold perS
    simp
  have s1 : (⟨(timT t).toArray⟩ : ByteArray).size ≤ 16 := by rw [mk_size]; exact lt
  have s2 : (⟨(durT n).toArray⟩ : ByteArray).size ≤ 60 := by rw [mk_size]; exact ld
  have s3 : (⟨(perS t n).toArray⟩ : ByteArray).size ≤ 1048576 := by rw [mk_size]; unfold perS; simp; omega
  have cP := fun W (hV : VV W) => pPer_any ⟨(perS t n).toArray⟩ s3 W hV
  rw [mk_listV] at cP
  have HTT : Hid (perT t n = if perV (perS t n) = ((t, n), 0) then perS t n else []) := Lib.hid (by unfold perT; split <;> simp_all)
  have htc := perV_case (perS t n)
  obtain ⟨⟨⟨got, gn⟩, er⟩, hge⟩ : ∃ p, perV (perS t n) = p := ⟨_, rfl⟩
  rw [hge] at cP HTT htc
  have HE1 := Lib.hid e1
  generalize hS : (⟨(perS t n).toArray⟩ : ByteArray) = S at *
  have HS := Lib.hid hS
  generalize (⟨(timT t).toArray⟩ : ByteArray) = a1 at *
  generalize (⟨(durT n).toArray⟩ : ByteArray) = a2 at *
  have no1 : ¬ 9223372036854775807 < a1.size + 1 := by omega
  have no2 : ¬ 9223372036854775807 < (a1 ++ ⟨#[47]⟩).size + a2.size := by rw [ByteArray.size_append, show (⟨#[47]⟩ : ByteArray).size = 1 from rfl]; omega
  have no3 : ¬ 9223372036854775807 ≤ a1.size := by omega
  have HVV := Lib.hid hv
  clear hge hS e1 s1 s2 s3 lt ld hv
  unfold perVal
  unfold perVal at cP
  unfold whV at cA
  simp only at htc cP
  go_enter Tryd.func22, Tryd.ntmps22
  go_upto_region 1 with fail
  obtain ⟨w1, hw1⟩ : ∃ w1, w.alloc (.cells #[.int .i64 t.secs, .bool t.utc, .bool t.date, .int .i64 n] 43) = w1 := ⟨_, rfl⟩
  rw [hw1] at ha hz ⊢
  have HB1 := Lib.hid ha
  have hV1 := HVV.out.step ha
  refine region_heldV (C := HoldP w1 w.heap.size t n) hmx (by kernel_rfl) (HoldP.step ⟨hz, Below.refl _ _⟩ (Below.refl _ _).drew) ?_
  repeat (first
    | go_big_quiet_skip
    | (go_big_quiet_want; go_big_quiet_op; first
        | go_big_quiet_on
        | (refine ⟨_, fun _ _ => rfl, ?_⟩; go_big_quiet_on)
        | (apply Exists.intro
           refine ⟨fun w5 hw5 => ?_, ?_⟩
           · (obtain ⟨q0, q1, q2, q3⟩ := hw5.p.cells
              simp only [q0, q1, q2, q3, Result.andThen_ok]
              first | exact ⟨trivial, rfl⟩ | exact ⟨rfl, rfl⟩)
           go_big_quiet_on)
        | (apply Exists.intro
           refine ⟨fun w5 hw5 => ?_, ?_⟩
           · ((with_reducible refine (cA _ (hV1.step hw5.below)).mono ?_); rintro e w6 ⟨rfl, hbx⟩; exact ⟨rfl, hw5.step hbx⟩)
           go_big_quiet_on)
        | (apply Exists.intro
           refine ⟨fun w5 hw5 => ?_, ?_⟩
           · ((with_reducible refine (cB _ (hV1.step hw5.below).dv).mono ?_); rintro e w6 ⟨rfl, hbx⟩; exact ⟨rfl, hw5.step hbx⟩)
           go_big_quiet_on)))
  refine wpQuiet_nil ?_
  intro w2 hw2
  have HZ2 := Lib.hid hw2.p
  have HB2 := Lib.hid (bstep HB1.out hw2.below)
  clear hw2 hz ha hw1 hV1
  rw [HE1.out]
  have HER : (er = 10 ∧ got = Wh.zero ∧ gn = 0) ∨ (er = 0 ∧ ((got = t ∧ gn = n) ∨ ((¬ got.secs = t.secs) ∨ (got.secs = t.secs ∧ ¬ got.utc = t.utc) ∨ (got.secs = t.secs ∧ got.utc = t.utc ∧ ¬ got.date = t.date) ∨ (got = t ∧ ¬ gn = n)))) := by
    rcases htc with h | h
    · refine .inr ⟨h, ?_⟩
      by_cases hg : got = t
      · by_cases hx : gn = n
        · exact .inl ⟨hg, hx⟩
        · exact .inr (.inr (.inr (.inr ⟨hg, hx⟩)))
      · rcases wh_ne hg with h1 | h1 | h1
        · exact .inr (.inl h1)
        · exact .inr (.inr (.inl h1))
        · exact .inr (.inr (.inr (.inl h1)))
    · injection h with h1 h2
      injection h1 with h3 h4
      exact .inl ⟨h2, h3, h4⟩
  clear htc
  rcases HER with ⟨rfl, rfl, rfl⟩ | ⟨rfl, HER⟩
  · have HF : Hid (perT t n = []) := Lib.hid (by rw [HTT.out, if_neg (by intro h; injection h with _ h; revert h; decide)])
    go_wp2_with (go_at_call 15; refine (cP _ (HVV.out.step HB2.out)).mono ?_; rintro e w3 ⟨rfl, hb3⟩)
    go_ret
    exact ⟨by rw [HF.out]; rfl, (bstep HB2.out hb3).alloc (bstep HB2.out hb3).size _⟩
  · rcases HER with ⟨rfl, rfl⟩ | HER
    · have HF : Hid (perT got gn = perS got gn) := Lib.hid (by rw [HTT.out, if_pos rfl])
      go_wp2_with (go_at_call 15; refine (cP _ (HVV.out.step HB2.out)).mono ?_; rintro e w3 ⟨rfl, hb3⟩
                   have hz3 := HZ2.out.step hb3
                   have ha3 : Below w3.heap.size w3 (w3.alloc (.cells #[.int .i64 got.secs, .bool got.utc, .bool got.date, .int .i64 gn] 43)) := (Below.refl _ w3).alloc (Nat.le_refl _) _
                   obtain ⟨y0, y1, y2, y3⟩ := (hz3.step ha3).cells
                   obtain ⟨z0, z1, z2, z3⟩ := hz3.cells
                   obtain ⟨u0, u1, u2, u3⟩ := (P4.new w3 ⟨got.secs, got.utc, got.date⟩ gn).cells
                   have HB3 := Lib.hid (bstep HB2.out hb3)
                   clear hz3 ha3 hb3)
      go_ret
      exact ⟨by rw [HF.out, HS.out]; rfl, HB3.out.alloc HB3.out.size _⟩
    · have HF : Hid (perT t n = []) := Lib.hid (by
        rw [HTT.out, if_neg]
        intro h
        injection h with h _
        injection h with h h'
        subst h
        rcases HER with h | ⟨_, h⟩ | ⟨_, _, h⟩ | ⟨_, h⟩
        · exact h rfl
        · exact h rfl
        · exact h rfl
        · exact h h')
      clear HTT
      obtain ⟨gs, gu, gd⟩ := got
      obtain ⟨ts, tu, td⟩ := t
      simp only at cP HER
      rcases HER with h1 | ⟨h1, h2⟩ | ⟨h1, h2, h3⟩ | ⟨h1, h2⟩
      · go_wp2_with (go_at_call 15; refine (cP _ (HVV.out.step HB2.out)).mono ?_; rintro e w3 ⟨rfl, hb3⟩
                     have hz3 := HZ2.out.step hb3
                     have ha3 : Below w3.heap.size w3 (w3.alloc (.cells #[.int .i64 gs, .bool gu, .bool gd, .int .i64 gn] 43)) := (Below.refl _ w3).alloc (Nat.le_refl _) _
                     obtain ⟨y0, y1, y2, y3⟩ := (hz3.step ha3).cells
                     obtain ⟨z0, z1, z2, z3⟩ := hz3.cells
                     obtain ⟨u0, u1, u2, u3⟩ := (P4.new w3 ⟨gs, gu, gd⟩ gn).cells
                     have HB3 := Lib.hid (bstep HB2.out hb3)
                     clear hz3 ha3 hb3)
        go_ret
        exact ⟨by rw [HF.out]; rfl, HB3.out.alloc HB3.out.size _⟩
      · subst h1
        go_wp2_with (go_at_call 15; refine (cP _ (HVV.out.step HB2.out)).mono ?_; rintro e w3 ⟨rfl, hb3⟩
                     have hz3 := HZ2.out.step hb3
                     have ha3 : Below w3.heap.size w3 (w3.alloc (.cells #[.int .i64 gs, .bool gu, .bool gd, .int .i64 gn] 43)) := (Below.refl _ w3).alloc (Nat.le_refl _) _
                     obtain ⟨y0, y1, y2, y3⟩ := (hz3.step ha3).cells
                     obtain ⟨z0, z1, z2, z3⟩ := hz3.cells
                     obtain ⟨u0, u1, u2, u3⟩ := (P4.new w3 ⟨gs, gu, gd⟩ gn).cells
                     have HB3 := Lib.hid (bstep HB2.out hb3)
                     clear hz3 ha3 hb3)
        go_ret
        exact ⟨by rw [HF.out]; rfl, HB3.out.alloc HB3.out.size _⟩
      · subst h1; subst h2
        go_wp2_with (go_at_call 15; refine (cP _ (HVV.out.step HB2.out)).mono ?_; rintro e w3 ⟨rfl, hb3⟩
                     have hz3 := HZ2.out.step hb3
                     have ha3 : Below w3.heap.size w3 (w3.alloc (.cells #[.int .i64 gs, .bool gu, .bool gd, .int .i64 gn] 43)) := (Below.refl _ w3).alloc (Nat.le_refl _) _
                     obtain ⟨y0, y1, y2, y3⟩ := (hz3.step ha3).cells
                     obtain ⟨z0, z1, z2, z3⟩ := hz3.cells
                     obtain ⟨u0, u1, u2, u3⟩ := (P4.new w3 ⟨gs, gu, gd⟩ gn).cells
                     have HB3 := Lib.hid (bstep HB2.out hb3)
                     clear hz3 ha3 hb3)
        go_ret
        exact ⟨by rw [HF.out]; rfl, HB3.out.alloc HB3.out.size _⟩
      · injection h1 with h3 h4 h5; subst h3; subst h4; subst h5
        go_wp2_with (go_at_call 15; refine (cP _ (HVV.out.step HB2.out)).mono ?_; rintro e w3 ⟨rfl, hb3⟩
                     have hz3 := HZ2.out.step hb3
                     have ha3 : Below w3.heap.size w3 (w3.alloc (.cells #[.int .i64 gs, .bool gu, .bool gd, .int .i64 gn] 43)) := (Below.refl _ w3).alloc (Nat.le_refl _) _
                     obtain ⟨y0, y1, y2, y3⟩ := (hz3.step ha3).cells
                     obtain ⟨z0, z1, z2, z3⟩ := hz3.cells
                     obtain ⟨u0, u1, u2, u3⟩ := (P4.new w3 ⟨gs, gu, gd⟩ gn).cells
                     have HB3 := Lib.hid (bstep HB2.out hb3)
                     clear hz3 ha3 hb3)
        go_ret
        exact ⟨by rw [HF.out]; rfl, HB3.out.alloc HB3.out.size _⟩
end Go.Proofs.YtdilnofolnabdaaDoor
