/-
  The program's own functions of layer 13: a period, written.
-/
import Derived.Test.YtdilnofolnabdaaGreatDoorG20
import Derived.Test.YtdilnofolnabdaaGreatDoorG22
import Derived.BigQuiet
import Derived.Test.YtdilnofolnabdaaGreatDoorCards
import Derived.Test.YtdilnofolnabdaaGreatDoorTie
import Derived.SizedLaws
import Derived.ProofKit
import Derived.OpenShut
import Derived.ChangeMaps5
import Derived.Deep.DeepHandedRow
import Derived.Deep.DeepWitnessRowRef
import Derived.Deep.DeepLaidRun
import Derived.Lay
import Derived.LaidMore
import Derived.Lib.LaidU8
import Derived.Lib.SmallJoins
import Derived.Shelf.Vars
namespace Go.Proofs.YtdilnofolnabdaaGreatDoor
open Go.RowKit

theorem durT_len (n : Int) : (durT n).length ≤ 60 := by
  unfold durT
  split
  · simp
  · rename_i h
    have l1 := dec_len 6 (n.natAbs / 604800) (by omega)
    have l2 := dec_len 6 (n.natAbs / 86400) (by omega)
    have l3 := clkQ_len (n.natAbs % 86400) (by omega)
    have hb : (bodyT n.natAbs).length ≤ 50 := by
      unfold bodyT
      split
      · simp; omega
      · rw [List.length_append]
        have : (if 0 < n.natAbs / 86400 then Lib.decDigits (n.natAbs / 86400) ++ [68] else []).length ≤ 8 := by split <;> simp; omega
        have : (if n.natAbs % 86400 = 0 ∧ 0 < n.natAbs then [] else 84 :: clkQ (n.natAbs % 86400)).length ≤ 31 := by split <;> simp; omega
        omega
    rw [List.length_append]
    have : (if n < 0 then ([45, 80] : List UInt8) else [80]).length ≤ 2 := by split <;> simp
    omega
theorem timT_len (w : Wh) : (timT w).length ≤ 16 := by
  unfold timT
  split
  · exact timS_len w
  · simp
theorem perV_case (l : List UInt8) : (perV l).2 = 0 ∨ perV l = ((Wh.zero, 0), 10) := by
  unfold perV
  split
  · split
    · split
      · exact .inr rfl
      · exact .inl rfl
    · split
      · exact .inl rfl
      · exact .inr rfl
  · exact .inr rfl
structure HoldP (w1 : World) (g : Nat) (t : Wh) (n : Int) (w' : World) : Prop where
  p : P4 w' g t n
  below : Below w1.heap.size w1 w'
theorem HoldP.step {w1 w2 w3 : World} {g : Nat} {t : Wh} {n : Int} (h : HoldP w1 g t n w2) (hb : Below w2.heap.size w2 w3) : HoldP w1 g t n w3 := ⟨h.p.step hb, bstep h.below hb⟩
theorem region_heldV {P : Program} {id : Nat} {Q : Exit → Act → World → Prop} {a : Act} {w : World} {l : List Oper} {C : World → Prop} (hm : P.follows .mixedOrders = true) (hB : Region.lexB .any l.toArray = true) (hC : C w.drew)
    (h : wpQuiet P l.toArray C (fun a' => ∀ w', C w' → Q .normal a' w') l a) : (Code.region id l.toArray true).wp P Q a w :=
  wp_region_quiet (C := C) hm hB hC (by simpa using h)
set_option maxRecDepth 100000 in
set_option maxHeartbeats 4000000 in
theorem pPerText_any (t : Wh) (n : Int) (ht : -9223372036854775808 ≤ t.secs ∧ t.secs < 9223372036854775808) (hn : -9223372036854775808 ≤ n ∧ n < 9223372036854775808) (w : World) (hv : VV w) :
    Calls Tryz.prog 10 #[perVal t n] w fun e w' => e = .returned (.string ⟨(perT t n).toArray⟩) ∧ Below w.heap.size w w' := by
  have hmx : Tryz.prog.follows .mixedOrders = true := by kernel_rfl
  have ha : Below w.heap.size w (w.alloc (.cells #[.int .i64 t.secs, .bool t.utc, .bool t.date, .int .i64 n] 25)) := (Below.refl _ w).alloc (Nat.le_refl _) _
  have hz := P4.new w t n
  have lt := timT_len t
  have ld := durT_len n
  have cA := fun W (hV : VV W) => pTimeText_any t ht W hV
  have cB := fun W (hV : DV W) => pDurText_any n hn W hV
  have e1 : (⟨(timT t).toArray⟩ : ByteArray) ++ ⟨#[47]⟩ ++ ⟨(durT n).toArray⟩ = ⟨(perS t n).toArray⟩ := by
    rw [show (⟨#[47]⟩ : ByteArray) = ⟨([47] : List UInt8).toArray⟩ from rfl, mk_app, mk_app]
    unfold perS
    simp
  have s1 : (⟨(timT t).toArray⟩ : ByteArray).size ≤ 16 := by rw [mk_size]; exact lt
  have s2 : (⟨(durT n).toArray⟩ : ByteArray).size ≤ 60 := by rw [mk_size]; exact ld
  have s3 : (⟨(perS t n).toArray⟩ : ByteArray).size ≤ 1048576 := by rw [mk_size]; unfold perS; simp; omega
  have cP := fun W (hV : VV W) => pPer_any ⟨(perS t n).toArray⟩ s3 W hV
  rw [mk_listV] at cP
  have HTT : Hid (perT t n = if perV (perS t n) = ((t, n), 0) then perS t n else []) := Lib.hid (by unfold perT; split <;> simp_all)
  have htc := perV_case (perS t n)
  obtain ⟨⟨⟨got, gn⟩, er⟩, hge⟩ : ∃ p, perV (perS t n) = p := ⟨_, rfl⟩
  rw [hge] at cP HTT htc
  have HE1 := Lib.hid e1
  generalize hS : (⟨(perS t n).toArray⟩ : ByteArray) = S at *
  have HS := Lib.hid hS
  generalize (⟨(timT t).toArray⟩ : ByteArray) = a1 at *
  generalize (⟨(durT n).toArray⟩ : ByteArray) = a2 at *
  have no1 : ¬ 9223372036854775807 < a1.size + 1 := by omega
  have no2 : ¬ 9223372036854775807 < (a1 ++ ⟨#[47]⟩).size + a2.size := by rw [ByteArray.size_append, show (⟨#[47]⟩ : ByteArray).size = 1 from rfl]; omega
  have no3 : ¬ 9223372036854775807 ≤ a1.size := by omega
  have HVV := Lib.hid hv
  clear hge hS e1 s1 s2 s3 lt ld hv
  unfold perVal
  unfold perVal at cP
  unfold whV at cA
  simp only at htc cP
  go_enter Tryz.func10, Tryz.ntmps10
  go_upto_region 1 with fail
  obtain ⟨w1, hw1⟩ : ∃ w1, w.alloc (.cells #[.int .i64 t.secs, .bool t.utc, .bool t.date, .int .i64 n] 25) = w1 := ⟨_, rfl⟩
  rw [hw1] at ha hz ⊢
  have HB1 := Lib.hid ha
  have hV1 := HVV.out.step ha
  refine region_heldV (C := HoldP w1 w.heap.size t n) hmx (by kernel_rfl) (HoldP.step ⟨hz, Below.refl _ _⟩ (Below.refl _ _).drew) ?_
  repeat (first
    | go_big_quiet_skip
    | (go_big_quiet_want; go_big_quiet_op; first
        | go_big_quiet_on
        | (refine ⟨_, fun _ _ => rfl, ?_⟩; go_big_quiet_on)
        | (apply Exists.intro
           refine ⟨fun w5 hw5 => ?_, ?_⟩
           · (obtain ⟨q0, q1, q2, q3⟩ := hw5.p.cells
              simp only [q0, q1, q2, q3, Result.andThen_ok]
              first | exact ⟨trivial, rfl⟩ | exact ⟨rfl, rfl⟩)
           go_big_quiet_on)
        | (apply Exists.intro
           refine ⟨fun w5 hw5 => ?_, ?_⟩
           · ((with_reducible refine (cA _ (hV1.step hw5.below)).mono ?_); rintro e w6 ⟨rfl, hbx⟩; exact ⟨rfl, hw5.step hbx⟩)
           go_big_quiet_on)
        | (apply Exists.intro
           refine ⟨fun w5 hw5 => ?_, ?_⟩
           · ((with_reducible refine (cB _ (hV1.step hw5.below).dv).mono ?_); rintro e w6 ⟨rfl, hbx⟩; exact ⟨rfl, hw5.step hbx⟩)
           go_big_quiet_on)))
  refine wpQuiet_nil ?_
  intro w2 hw2
  have HZ2 := Lib.hid hw2.p
  have HB2 := Lib.hid (bstep HB1.out hw2.below)
  clear hw2 hz ha hw1 hV1
  rw [HE1.out]
  have HER : (er = 10 ∧ got = Wh.zero ∧ gn = 0) ∨ (er = 0 ∧ ((got = t ∧ gn = n) ∨ ((¬ got.secs = t.secs) ∨ (got.secs = t.secs ∧ ¬ got.utc = t.utc) ∨ (got.secs = t.secs ∧ got.utc = t.utc ∧ ¬ got.date = t.date) ∨ (got = t ∧ ¬ gn = n)))) := by
    rcases htc with h | h
    · refine .inr ⟨h, ?_⟩
      by_cases hg : got = t
      · by_cases hx : gn = n
        · exact .inl ⟨hg, hx⟩
        · exact .inr (.inr (.inr (.inr ⟨hg, hx⟩)))
      · rcases wh_ne hg with h1 | h1 | h1
        · exact .inr (.inl h1)
        · exact .inr (.inr (.inl h1))
        · exact .inr (.inr (.inr (.inl h1)))
    · injection h with h1 h2
      injection h1 with h3 h4
      exact .inl ⟨h2, h3, h4⟩
  clear htc
  rcases HER with ⟨rfl, rfl, rfl⟩ | ⟨rfl, HER⟩
  · have HF : Hid (perT t n = []) := Lib.hid (by rw [HTT.out, if_neg (by intro h; injection h with _ h; revert h; decide)])
    go_wp2_with (go_at_call 28; refine (cP _ (HVV.out.step HB2.out)).mono ?_; rintro e w3 ⟨rfl, hb3⟩)
    go_ret
    exact ⟨by rw [HF.out]; rfl, (bstep HB2.out hb3).alloc (bstep HB2.out hb3).size _⟩
  · rcases HER with ⟨rfl, rfl⟩ | HER
    · have HF : Hid (perT got gn = perS got gn) := Lib.hid (by rw [HTT.out, if_pos rfl])
      go_wp2_with (go_at_call 28; refine (cP _ (HVV.out.step HB2.out)).mono ?_; rintro e w3 ⟨rfl, hb3⟩
                   have hz3 := HZ2.out.step hb3
                   have ha3 : Below w3.heap.size w3 (w3.alloc (.cells #[.int .i64 got.secs, .bool got.utc, .bool got.date, .int .i64 gn] 25)) := (Below.refl _ w3).alloc (Nat.le_refl _) _
                   obtain ⟨y0, y1, y2, y3⟩ := (hz3.step ha3).cells
                   obtain ⟨z0, z1, z2, z3⟩ := hz3.cells
                   obtain ⟨u0, u1, u2, u3⟩ := (P4.new w3 ⟨got.secs, got.utc, got.date⟩ gn).cells
                   have HB3 := Lib.hid (bstep HB2.out hb3)
                   clear hz3 ha3 hb3)
      go_ret
      exact ⟨by rw [HF.out, HS.out]; rfl, HB3.out.alloc HB3.out.size _⟩
    · have HF : Hid (perT t n = []) := Lib.hid (by
        rw [HTT.out, if_neg]
        intro h
        injection h with h _
        injection h with h h'
        subst h
        rcases HER with h | ⟨_, h⟩ | ⟨_, _, h⟩ | ⟨_, h⟩
        · exact h rfl
        · exact h rfl
        · exact h rfl
        · exact h h')
      clear HTT
      obtain ⟨gs, gu, gd⟩ := got
      obtain ⟨ts, tu, td⟩ := t
      simp only at cP HER
      rcases HER with h1 | ⟨h1, h2⟩ | ⟨h1, h2, h3⟩ | ⟨h1, h2⟩
      · go_wp2_with (go_at_call 28; refine (cP _ (HVV.out.step HB2.out)).mono ?_; rintro e w3 ⟨rfl, hb3⟩
                     have hz3 := HZ2.out.step hb3
                     have ha3 : Below w3.heap.size w3 (w3.alloc (.cells #[.int .i64 gs, .bool gu, .bool gd, .int .i64 gn] 25)) := (Below.refl _ w3).alloc (Nat.le_refl _) _
                     obtain ⟨y0, y1, y2, y3⟩ := (hz3.step ha3).cells
                     obtain ⟨z0, z1, z2, z3⟩ := hz3.cells
                     obtain ⟨u0, u1, u2, u3⟩ := (P4.new w3 ⟨gs, gu, gd⟩ gn).cells
                     have HB3 := Lib.hid (bstep HB2.out hb3)
                     clear hz3 ha3 hb3)
        go_ret
        exact ⟨by rw [HF.out]; rfl, HB3.out.alloc HB3.out.size _⟩
      · subst h1
        go_wp2_with (go_at_call 28; refine (cP _ (HVV.out.step HB2.out)).mono ?_; rintro e w3 ⟨rfl, hb3⟩
                     have hz3 := HZ2.out.step hb3
                     have ha3 : Below w3.heap.size w3 (w3.alloc (.cells #[.int .i64 gs, .bool gu, .bool gd, .int .i64 gn] 25)) := (Below.refl _ w3).alloc (Nat.le_refl _) _
                     obtain ⟨y0, y1, y2, y3⟩ := (hz3.step ha3).cells
                     obtain ⟨z0, z1, z2, z3⟩ := hz3.cells
                     obtain ⟨u0, u1, u2, u3⟩ := (P4.new w3 ⟨gs, gu, gd⟩ gn).cells
                     have HB3 := Lib.hid (bstep HB2.out hb3)
                     clear hz3 ha3 hb3)
        go_ret
        exact ⟨by rw [HF.out]; rfl, HB3.out.alloc HB3.out.size _⟩
      · subst h1; subst h2
        go_wp2_with (go_at_call 28; refine (cP _ (HVV.out.step HB2.out)).mono ?_; rintro e w3 ⟨rfl, hb3⟩
                     have hz3 := HZ2.out.step hb3
                     have ha3 : Below w3.heap.size w3 (w3.alloc (.cells #[.int .i64 gs, .bool gu, .bool gd, .int .i64 gn] 25)) := (Below.refl _ w3).alloc (Nat.le_refl _) _
                     obtain ⟨y0, y1, y2, y3⟩ := (hz3.step ha3).cells
                     obtain ⟨z0, z1, z2, z3⟩ := hz3.cells
                     obtain ⟨u0, u1, u2, u3⟩ := (P4.new w3 ⟨gs, gu, gd⟩ gn).cells
                     have HB3 := Lib.hid (bstep HB2.out hb3)
                     clear hz3 ha3 hb3)
        go_ret
        exact ⟨by rw [HF.out]; rfl, HB3.out.alloc HB3.out.size _⟩
      · injection h1 with h3 h4 h5; subst h3; subst h4; subst h5
        go_wp2_with (go_at_call 28; refine (cP _ (HVV.out.step HB2.out)).mono ?_; rintro e w3 ⟨rfl, hb3⟩
                     have hz3 := HZ2.out.step hb3
                     have ha3 : Below w3.heap.size w3 (w3.alloc (.cells #[.int .i64 gs, .bool gu, .bool gd, .int .i64 gn] 25)) := (Below.refl _ w3).alloc (Nat.le_refl _) _
                     obtain ⟨y0, y1, y2, y3⟩ := (hz3.step ha3).cells
                     obtain ⟨z0, z1, z2, z3⟩ := hz3.cells
                     obtain ⟨u0, u1, u2, u3⟩ := (P4.new w3 ⟨gs, gu, gd⟩ gn).cells
                     have HB3 := Lib.hid (bstep HB2.out hb3)
                     clear hz3 ha3 hb3)
        go_ret
        exact ⟨by rw [HF.out]; rfl, HB3.out.alloc HB3.out.size _⟩
end Go.Proofs.YtdilnofolnabdaaGreatDoor

/-
  What every statement of layer 13 says of its arguments and of the world: what the listed variables hold; a world that fits.
-/
namespace Go.Proofs.YtdilnofolnabdaaGreatDoor
open Go.ChangeShapes Go.WideShapes Go.ChangeAt Go.RowKit Go.ChangeMaps Go.Joins Go.Deep
theorem Tryz.own : ownKnob Tryz.prog.godebug = none := by kernel_rfl
theorem Tryz.laidOut : laidOutB Tryz.prog = true := by kernel_rfl
theorem tcons_mk {H : Type} {enc : TypeId × Value → H} {P : Program} {w : World} {base : Nat} {spare : Nat → Bool} {held : Bool} {t : TypeId} {ts : List TypeId} {v : Value} {vs : List Value} {d : DataW H} {ds : List (DataW H)} {p p' : List MemPlace}
    (h : DataW.Trod enc P w base spare held t v d p) (hs : DataW.TrodAll enc P w base spare held ts vs ds p') : DataW.TrodAll enc P w base spare held (t :: ts) (v :: vs) (d :: ds) (p ++ p') := ⟨p, p', h, hs, rfl⟩
theorem i64_in {x : Int} (h : (Lit.int .i64 x).wf = true) : -9223372036854775808 ≤ x ∧ x < 9223372036854775808 := by
  have h1 : IntKind.i64.min = -9223372036854775808 := rfl
  have h2 : IntKind.i64.max = 9223372036854775807 := rfl
  simp only [Lit.wf, Bool.and_eq_true, decide_eq_true_eq] at h
  omega
theorem gParts : Tryz.prog.globalNamed "almanac/value.durationParts" = some 0 := by kernel_rfl
theorem gPartsT : (Tryz.prog.globals[0]?).map (·.type) = some 86 := by kernel_rfl
theorem cellsPart : Tryz.prog.cellsOf 67 = 3 := by kernel_rfl
theorem cellsU8 : Tryz.prog.cellsOf 5 = 1 := by kernel_rfl
theorem cellsI64 : Tryz.prog.cellsOf 2 = 1 := by kernel_rfl
theorem cellsStr : Tryz.prog.cellsOf 9 = 1 := by kernel_rfl
theorem cellsBool : Tryz.prog.cellsOf 4 = 1 := by kernel_rfl
theorem cellsWhen : Tryz.prog.cellsOf 23 = 3 := by kernel_rfl
theorem undParts : Tryz.prog.underlying 86 = some (.array 7 67) := by kernel_rfl
theorem at_take {cs : List Value} {k : Nat} {v : Value} (h : (cs.drop k).take 1 = [v]) : cs[k]? = some v := by
  have := congrArg (·[0]?) h
  simpa [List.getElem?_take, List.getElem?_drop] using this
/-- One part of the table, as the program holds it. -/
theorem part_cells {H : Type} {enc : TypeId × Value → H} {w : World} {base : Nat} {sp : Nat → Bool} {held : Bool} {fuel : Nat} {cs : List Value} {a : Int} {b : List UInt8} {c : Int} {p : List MemPlace}
    (h : DataW.trod enc Tryz.prog w base sp held fuel 67 cs = some (.agg [.lit (.int .u8 a), .lit (.string b), .lit (.int .i64 c)], p)) :
    cs[0]? = some (.int .u8 a) ∧ cs[1]? = some (.string ⟨b.toArray⟩) ∧ cs[2]? = some (.int .i64 c) := by
  obtain ⟨x0, x1, x2, n, hx, _, f0, f1, f2⟩ := trod_struct3 Tryz.underlying67 h
  simp only [Prod.mk.injEq, DataW.agg.injEq, List.cons.injEq, and_true] at hx
  obtain ⟨⟨e0, e1, e2⟩, _⟩ := hx
  change DataW.trod _ _ _ _ _ _ _ 5 ((cs.drop 0).take (Tryz.prog.cellsOf 5)) = some x0 at f0
  change DataW.trod _ _ _ _ _ _ _ 9 ((cs.drop 1).take (Tryz.prog.cellsOf 9)) = some x1 at f1
  change DataW.trod _ _ _ _ _ _ _ 2 ((cs.drop 2).take (Tryz.prog.cellsOf 2)) = some x2 at f2
  rw [cellsU8] at f0
  rw [cellsStr] at f1
  rw [cellsI64] at f2
  refine ⟨?_, ?_, ?_⟩
  · obtain ⟨z, hz, hx', _⟩ := DataW.trod_int Tryz.underlying5 f0
    rw [hx'] at e0; cases e0; exact at_take hz
  · obtain ⟨s, hz, hx', _⟩ := DataW.trod_string Tryz.underlying9 f1
    rw [hx'] at e1
    simp only [DataW.lit.injEq, Lit.string.injEq] at e1
    rw [at_take hz]
    congr 2
    apply ByteArray.ext
    rw [← Array.toList_inj]
    simp [e1]
  · obtain ⟨z, hz, hx', _⟩ := DataW.trod_int Tryz.underlying2 f2
    rw [hx'] at e2; cases e2; exact at_take hz
theorem three_at {cs : List Value} {i : Nat} {v0 v1 v2 : Value} (h : ((cs.drop (i * 3)).take 3)[0]? = some v0 ∧ ((cs.drop (i * 3)).take 3)[1]? = some v1 ∧ ((cs.drop (i * 3)).take 3)[2]? = some v2) :
    cs[i * 3 + 0]? = some v0 ∧ cs[i * 3 + 1]? = some v1 ∧ cs[i * 3 + 2]? = some v2 := by
  simpa [List.getElem?_take, List.getElem?_drop] using h
def partsD : List (DataW Unit) := [.agg [.lit (.int .u8 80), .lit (.string []), .lit (.int .i64 0)], .agg [.lit (.int .u8 87), .lit (.string [80]), .lit (.int .i64 604800)], .agg [.lit (.int .u8 68), .lit (.string [80]), .lit (.int .i64 86400)], .agg [.lit (.int .u8 84), .lit (.string [80, 68]), .lit (.int .i64 0)], .agg [.lit (.int .u8 72), .lit (.string [84]), .lit (.int .i64 3600)], .agg [.lit (.int .u8 77), .lit (.string [84, 72]), .lit (.int .i64 60)], .agg [.lit (.int .u8 83), .lit (.string [84, 77]), .lit (.int .i64 1)]]
/-- What reads as the table of parts holds it. -/
theorem parts_of {W : World} (h : Lib.VarReads Tryz.prog W "almanac/value.durationParts" Rows.laid_almanac_value_durationParts) : CellsAt W 0 partsV := by
  obtain ⟨g, t, cs, fuel, p, k1, k2, k3, k4⟩ := h
  obtain rfl := Option.some.inj (gParts.symm.trans k1)
  obtain rfl := Option.some.inj (gPartsT.symm.trans k2)
  have hc := World.var?_cell gParts k3
  have el : ∀ i, i < 7 → ∃ fuel' d q, partsD[i]? = some d ∧ DataW.trod (fun _ => ()) Tryz.prog W 0 (fun _ => true) false fuel' 67 ((cs.toList.drop (i * Tryz.prog.cellsOf 67)).take (Tryz.prog.cellsOf 67)) = some (d, q) := fun i hi => Go.Lib.array_elem undParts k4 i hi
  rw [cellsPart] at el
  have hx : ∀ i v, cs.toList[i]? = some v → W.cell? ⟨0, i, none⟩ = some v := fun i v h => by rw [hc i]; simpa using h
  have e := fun i hi => el i hi
  obtain ⟨_, _, _, a1, a2⟩ := el 0 (by omega)
  obtain ⟨_, _, _, b1, b2⟩ := el 1 (by omega)
  obtain ⟨_, _, _, c1, c2⟩ := el 2 (by omega)
  obtain ⟨_, _, _, d1, d2⟩ := el 3 (by omega)
  obtain ⟨_, _, _, e1, e2⟩ := el 4 (by omega)
  obtain ⟨_, _, _, f1, f2⟩ := el 5 (by omega)
  obtain ⟨_, _, _, g1, g2⟩ := el 6 (by omega)
  simp only [partsD, List.getElem?_cons_zero, List.getElem?_cons_succ, Option.some.injEq] at a1 b1 c1 d1 e1 f1 g1
  subst a1 b1 c1 d1 e1 f1 g1
  obtain ⟨a0, a1, a2⟩ := three_at (part_cells a2)
  obtain ⟨b0, b1, b2⟩ := three_at (part_cells b2)
  obtain ⟨c0, c1, c2⟩ := three_at (part_cells c2)
  obtain ⟨d0, d1, d2⟩ := three_at (part_cells d2)
  obtain ⟨e0, e1, e2⟩ := three_at (part_cells e2)
  obtain ⟨f0, f1, f2⟩ := three_at (part_cells f2)
  obtain ⟨g0, g1, g2⟩ := three_at (part_cells g2)
  intro i v hv
  refine hx i v ?_
  have hi : i < 21 := (List.getElem?_eq_some_iff.1 hv).1
  have : i = 0 ∨ i = 1 ∨ i = 2 ∨ i = 3 ∨ i = 4 ∨ i = 5 ∨ i = 6 ∨ i = 7 ∨ i = 8 ∨ i = 9 ∨ i = 10 ∨ i = 11 ∨ i = 12 ∨ i = 13 ∨ i = 14 ∨ i = 15 ∨ i = 16 ∨ i = 17 ∨ i = 18 ∨ i = 19 ∨ i = 20 := by omega
  rcases this with rfl | rfl | rfl | rfl | rfl | rfl | rfl | rfl | rfl | rfl | rfl | rfl | rfl | rfl | rfl | rfl | rfl | rfl | rfl | rfl | rfl <;> (have := Option.some.inj hv; subst this; assumption)
/-- A listed array of numbers holds them. -/
theorem ints_of_reads {w : World} {n : String} {g : Nat} {t e : TypeId} {N : Nat} {k : IntKind} (zs : List Int) (h : Lib.VarReads Tryz.prog w n (Lib.tabData k zs)) (hg : Tryz.prog.globalNamed n = some g) (hty : (Tryz.prog.globals[g]?).map (·.type) = some t)
    (hu : Tryz.prog.underlying t = some (.array N e)) (he : Tryz.prog.underlying e = some (.int k)) (hce : Tryz.prog.cellsOf e = 1) (hct : Tryz.prog.cellsOf t = N) : Lib.TabIs Tryz.prog w n k zs := by
  obtain ⟨g', t', cs, fuel, p, k1, k2, k3, k4⟩ := h
  obtain rfl := Option.some.inj (hg.symm.trans k1)
  obtain rfl := Option.some.inj (hty.symm.trans k2)
  unfold Lib.TabIs
  rw [k3, ← Lib.cells_of_tab hu he hce hct k4]
theorem cells_of_tabIs {w : World} {n : String} {g : Nat} {k : IntKind} {zs : List Int} (h : Lib.TabIs Tryz.prog w n k zs) (hg : Tryz.prog.globalNamed n = some g) : CellsAt w g (zs.map fun z => .int k z) := by
  intro i v hv
  rw [World.var?_cell hg h i]
  simpa using hv
/-- The library's own variable holds some number: out of the world's shape. -/
theorem maxn_of {W : World} (h : W.ShapedOpen Tryz.prog) : ∃ m, W.cell? ⟨3, 0, none⟩ = some (.int .i64 m) :=
  cell_of_shapedOpen_int (zero := #[.int .i64 0]) (t := 3) (k := .i64) h (of_decide_eq_true (by kernel_rfl)) (by kernel_rfl) rfl (by kernel_rfl) (by kernel_rfl) Tryz.underlying3
theorem vv_all {W : World} {L : List (String × DataW Unit)} (h : laidMet Tryz.prog L W) (m1 : ("internal/strconv.uint64pow10", Rows.laid_internal_strconv_uint64pow10) ∈ L) (m2 : ("almanac/date.lengths", Rows.laid_almanac_date_lengths) ∈ L) (m3 : ("almanac/value.durationParts", Rows.laid_almanac_value_durationParts) ∈ L) (hs : W.ShapedOpen Tryz.prog) : VV W := by
  have r2 := Lib.laidMet.reads h (n := "internal/strconv.uint64pow10") (d := Rows.laid_internal_strconv_uint64pow10) m1
  have r3 := Lib.laidMet.reads h (n := "almanac/date.lengths") (d := Rows.laid_almanac_date_lengths) m2
  have r4 := Lib.laidMet.reads h (n := "almanac/value.durationParts") (d := Rows.laid_almanac_value_durationParts) m3
  refine ⟨⟨?_, ?_⟩, parts_of r4, maxn_of hs⟩
  · exact cells_of_tabIs (ints_of_reads (k := .i64) [31, 28, 31, 30, 31, 30, 31, 31, 30, 31, 30, 31] r3 (t := 96) (e := 3) (g := 1) (by kernel_rfl) (by kernel_rfl) Tryz.underlying96 Tryz.underlying3 (by kernel_rfl) (by kernel_rfl)) (by kernel_rfl)
  · exact ints_of_reads (k := .u64) Lib.pow10Tab r2 (t := 119) (e := 90) (g := 2) (by kernel_rfl) (by kernel_rfl) Tryz.underlying119 Tryz.underlying90 (by kernel_rfl) (by kernel_rfl)
section
variable {H : Type} {enc : TypeId × Value → H} {W : World} {base : Nat} {spare : Nat → Bool} {held : Bool}
set_option maxRecDepth 100000 in
/-- A time. -/
theorem open_when {r : Reach} {b0 : Nat} {v : Value} {d : DataW H} {p : List MemPlace} (hv : Value.okWide Tryz.prog W r b0 23 v) (h : DataW.Trod enc Tryz.prog W base spare held 23 v d p) :
    ∃ t : Wh, v = whV t ∧ p = [] ∧ -9223372036854775808 ≤ t.secs ∧ t.secs < 9223372036854775808 := by
  obtain ⟨v0, v1, v2, y0, y1, y2, n, rfl, rfl, rfl, h0, h1, h2⟩ := open_agg3 Tryz.underlying23 (by kernel_rfl) (by kernel_rfl) hv h
  obtain ⟨l, e0, f0, hwf⟩ := DataW.trod_int Tryz.underlying2 h0
  obtain ⟨b, e1, f1⟩ := DataW.trod_bool Tryz.underlying4 h1
  obtain ⟨c, e2, f2⟩ := DataW.trod_bool Tryz.underlying4 h2
  injection e0 with e0 _
  injection e1 with e1 _
  injection e2 with e2 _
  subst e0; subst e1; subst e2
  exact ⟨⟨l, b, c⟩, rfl, by rw [f0, f1, f2]; rfl, i64_in hwf⟩
set_option maxRecDepth 100000 in
/-- A period. -/
theorem open_period {r : Reach} {b0 : Nat} {v : Value} {d : DataW H} {p : List MemPlace} (hv : Value.okWide Tryz.prog W r b0 25 v) (h : DataW.Trod enc Tryz.prog W base spare held 25 v d p) :
    ∃ (t : Wh) (m : Int), v = perVal t m ∧ p = [] ∧ (-9223372036854775808 ≤ t.secs ∧ t.secs < 9223372036854775808) ∧ (-9223372036854775808 ≤ m ∧ m < 9223372036854775808) := by
  obtain ⟨cs, rfl, hsz⟩ := okWide_struct Tryz.underlying25 hv
  obtain ⟨c0, c1, c2, c3, rfl⟩ := array4 (hsz.trans (show Tryz.prog.cellsOf 25 = 4 by kernel_rfl))
  obtain ⟨fuel, hf⟩ := h
  obtain ⟨y0, y1, n, hx, _, h0, h1⟩ := trod_struct2 Tryz.underlying25 hf
  change DataW.trod _ _ _ _ _ _ _ 23 (([c0, c1, c2, c3].drop 0).take (Tryz.prog.cellsOf 23)) = some y0 at h0
  change DataW.trod _ _ _ _ _ _ _ 2 (([c0, c1, c2, c3].drop 3).take (Tryz.prog.cellsOf 2)) = some y1 at h1
  rw [cellsWhen] at h0
  rw [cellsI64] at h1
  obtain ⟨x0, x1, x2, n2, hx2, _, f0, f1, f2⟩ := trod_struct3 Tryz.underlying23 h0
  change DataW.trod _ _ _ _ _ _ _ 2 (([c0, c1, c2].drop 0).take (Tryz.prog.cellsOf 2)) = some x0 at f0
  change DataW.trod _ _ _ _ _ _ _ 4 (([c0, c1, c2].drop 1).take (Tryz.prog.cellsOf 4)) = some x1 at f1
  change DataW.trod _ _ _ _ _ _ _ 4 (([c0, c1, c2].drop 2).take (Tryz.prog.cellsOf 4)) = some x2 at f2
  rw [cellsI64] at f0
  rw [cellsBool] at f1 f2
  obtain ⟨l, e0, g0, hwf⟩ := DataW.trod_int Tryz.underlying2 f0
  obtain ⟨b, e1, g1⟩ := DataW.trod_bool Tryz.underlying4 f1
  obtain ⟨c, e2, g2⟩ := DataW.trod_bool Tryz.underlying4 f2
  obtain ⟨m, e3, g3, hwm⟩ := DataW.trod_int Tryz.underlying2 h1
  change [c0] = [_] at e0
  change [c1] = [_] at e1
  change [c2] = [_] at e2
  change [c3] = [_] at e3
  injection e0 with e0 _
  injection e1 with e1 _
  injection e2 with e2 _
  injection e3 with e3 _
  subst e0; subst e1; subst e2; subst e3
  simp only [Prod.mk.injEq] at hx
  refine ⟨⟨l, b, c⟩, m, rfl, ?_, i64_in hwf, i64_in hwm⟩
  rw [hx.2, hx2, g0, g1, g2, g3]
  rfl
end
end Go.Proofs.YtdilnofolnabdaaGreatDoor
