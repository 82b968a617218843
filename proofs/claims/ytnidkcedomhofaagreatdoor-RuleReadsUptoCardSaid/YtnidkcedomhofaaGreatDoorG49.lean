/-
  The document's own answers of layer 14: which rules can be.
-/
import Derived.Test.YtnidkcedomhofaaGreatDoorG43
import Derived.Test.YtnidkcedomhofaaGreatDoorG38
import Derived.Test.YtnidkcedomhofaaGreatDoorG48
import Derived.Deep.DeepCutAuto
import Derived.Deep.CutBlock
namespace Go.Proofs.YtnidkcedomhofaaGreatDoor
open Go.RowKit

/-- What 'within' answers. -/
def WiA (l : List Int) (lo hi : Int) (e : Ending) : Prop := ∃ b : Bool, e = .returned (.bool b) ∧ (b = true ↔ OkI l lo hi)
theorem WiA.yes {l : List Int} {lo hi : Int} (h : OkI l lo hi) : WiA l lo hi (.returned (.bool true)) := ⟨true, rfl, fun _ => h, fun _ => rfl⟩
theorem WiA.no {l : List Int} {lo hi : Int} (h : ¬ OkI l lo hi) : WiA l lo hi (.returned (.bool false)) := ⟨false, rfl, fun k => (by cases k), fun k => absurd k h⟩
set_option maxRecDepth 100000 in
set_option maxHeartbeats 2000000 in
theorem refWithin_any (A : Option Addr) (n cp : Nat) (l : List Int) (lo hi : Int) (w : World) (h : Sl w (.slice A n cp) n 1 (intC l)) (hn : n ≤ 100000000) :
    Calls Tryz.prog 33 #[.slice A n cp, .int .i64 lo, .int .i64 hi] w fun e w' => WiA l lo hi e ∧ w' = w := by
  have HS := Lib.hid h
  have hl := h.1
  rw [intC_len] at hl
  have HN : Hid (l.length = n) := Lib.hid (by omega)
  clear h hl
  go_enter Tryz.func33, Tryz.ntmps33
  go_wp2
  go_loopg [7] n (fun g s7 wr => ∃ i : Nat, i ≤ n ∧ n - i ≤ g ∧ s7 = .int .i64 i ∧ wr = w ∧ Hid (∀ k, k < i → l.getD k 0 ≠ 0 ∧ lo ≤ l.getD k 0 ∧ l.getD k 0 ≤ hi))
  case atStart => exact ⟨0, Nat.zero_le _, by omega, rfl, rfl, Lib.hid fun k hk => absurd hk (Nat.not_lt_zero _)⟩
  case round =>
    obtain ⟨i, hi', hg, rfl, rfl, J⟩ := hrel
    by_cases hlt : i < n
    · have hin : (i : Int) < (n : Int) := by omega
      obtain ⟨b1, o1, rfl, g1⟩ := HS.out.int hlt
      have hm : l.getD i 0 ∈ l := by rw [List.getD_eq_getElem?_getD, List.getElem?_eq_getElem (by rw [HN.out]; exact hlt)]; exact List.getElem_mem _
      have HM : Hid (¬ (l.getD i 0 ≠ 0 ∧ lo ≤ l.getD i 0 ∧ l.getD i 0 ≤ hi) → ¬ OkI l lo hi) := Lib.hid fun h k => h (k.2 _ hm)
      have JN : Hid ((l.getD i 0 ≠ 0 ∧ lo ≤ l.getD i 0 ∧ l.getD i 0 ≤ hi) → ∀ k, k < i + 1 → l.getD k 0 ≠ 0 ∧ lo ≤ l.getD k 0 ∧ l.getD k 0 ≤ hi) := Lib.hid fun h k hk => by
        by_cases e : k = i
        · rw [e]; exact h
        · exact J.out k (by omega)
      clear hm
      generalize l.getD i 0 = x at g1 HM JN
      by_cases hx0 : x = 0
      · have E : Hid (¬ OkI l lo hi) := Lib.hid (HM.out fun h => h.1 hx0)
        have hxb : (x == 0) = true := by rw [beq_iff_eq]; exact hx0
        clear hx0
        go_wp2
        go_ret
        exact ⟨WiA.no E.out, rfl⟩
      have hxb : (x == 0) = false := by rw [beq_eq_false_iff_ne]; exact hx0
      by_cases hxl : x < lo
      · have E : Hid (¬ OkI l lo hi) := Lib.hid (HM.out fun h => by omega)
        clear hx0
        go_wp2
        go_ret
        exact ⟨WiA.no E.out, rfl⟩
      by_cases hxh : hi < x
      · have E : Hid (¬ OkI l lo hi) := Lib.hid (HM.out fun h => by omega)
        clear hx0
        go_wp2
        go_ret
        exact ⟨WiA.no E.out, rfl⟩
      have JN2 := Lib.hid (JN.out ⟨hx0, by omega, by omega⟩)
      clear hx0
      go_wp2
      go_roundg (n - (i + 1))
      case measure => omega
      case rel => exact ⟨i + 1, by omega, Nat.le_refl _, by go_num, rfl, JN2⟩
    · obtain rfl : i = n := by omega
      have HA : Hid (∀ x ∈ l, x ≠ 0 ∧ lo ≤ x ∧ x ≤ hi) := Lib.hid fun x hx => by
        obtain ⟨k, hk, rfl⟩ := List.mem_iff_getElem.1 hx
        have := J.out k (by rw [← HN.out]; exact hk)
        rw [List.getD_eq_getElem?_getD, List.getElem?_eq_getElem hk] at this
        exact this
      by_cases h24 : i ≤ 24
      · have hi24 : (i : Int) ≤ 24 := by omega
        go_wp2
        go_ret
        exact ⟨WiA.yes ⟨by rw [HN.out]; exact h24, HA.out⟩, rfl⟩
      · have hi24 : ¬ (i : Int) ≤ 24 := by omega
        go_wp2
        go_ret
        exact ⟨WiA.no fun h => h24 (by rw [← HN.out]; exact h.1), rfl⟩
/-- Until goes with the rule's other parts. -/
def UnT (hs : Bool) (u : Wh) : Prop := (hs = true → timT u ≠ []) ∧ (hs = false → u = Wh.zero)
def DyF (f : Int) (d : Int × Int) : Prop := 0 ≤ d.2 ∧ d.2 ≤ 6 ∧ -53 ≤ d.1 ∧ d.1 ≤ 53 ∧ (f < 3 → d.1 = 0)
structure Fit1 (r : RuV) : Prop where
  freq : 1 ≤ r.freq ∧ r.freq ≤ 4
  intv : 1 ≤ r.intv ∧ r.intv ≤ 1000
  cnt : 0 ≤ r.cnt ∧ r.cnt ≤ 1000
  no : r.has = true → r.cnt = 0
  wk : 0 ≤ r.wk ∧ r.wk ≤ 6
set_option maxRecDepth 100000 in
set_option maxHeartbeats 16000000 in
theorem refFit14_any (r : RuV) (v1 v2 v3 v4 : Value) (w : World) (hu : UOk r) (h : RuS w r v1 v2 v3 v4) :
    Calls Tryz.prog 12 #[ruV r v1 v2 v3 v4] w fun e w' => e = .returned (.bool (fitV r)) ∧ Below w.heap.size w w' := by
  obtain ⟨a1, c1, rfl⟩ := h.s1.lit
  obtain ⟨a2, c2, rfl⟩ := h.s2.lit
  obtain ⟨a3, c3, rfl⟩ := h.s3.lit
  obtain ⟨a4, c4, rfl⟩ := h.s4.lit
  have hb0 := (Below.refl w.heap.size w).alloc (Nat.le_refl _) (.cells (ruA r (.slice a1 r.mon.length c1) (.slice a2 r.md.length c2) (.slice a3 r.dys.length c3) (.slice a4 r.pos.length c4)) 27)
  have HALL := Lib.hid (And.intro (RVar.new w r (.slice a1 r.mon.length c1) (.slice a2 r.md.length c2) (.slice a3 r.dys.length c3) (.slice a4 r.pos.length c4)) (And.intro (h.step hb0) hb0))
  have HU := Lib.hid hu
  obtain ⟨rb, hrb⟩ : ∃ rb, fitV r = rb := ⟨_, rfl⟩
  rw [hrb]
  have HT : Hid (FitV r → rb = true) := Lib.hid fun k => hrb.symm.trans ((fitV_iff r).2 k)
  have HF : Hid (¬ FitV r → rb = false) := Lib.hid fun k => hrb.symm.trans ((fitV_not r).2 k)
  clear h hu hb0 hrb
  go_enter Tryz.func12, Tryz.ntmps12
  go_upto_region 1 with fail
  change Code.wp _ _ _ _ (w.alloc (.cells (ruA r (.slice a1 r.mon.length c1) (.slice a2 r.md.length c2) (.slice a3 r.dys.length c3) (.slice a4 r.pos.length c4)) 27))
  change Hid (RVar (w.alloc (.cells (ruA r (.slice a1 r.mon.length c1) (.slice a2 r.md.length c2) (.slice a3 r.dys.length c3) (.slice a4 r.pos.length c4)) 27)) _ _ _ _ _ _ ∧ _) at HALL
  generalize w.alloc (.cells (ruA r (.slice a1 r.mon.length c1) (.slice a2 r.md.length c2) (.slice a3 r.dys.length c3) (.slice a4 r.pos.length c4)) 27) = w1 at HALL ⊢
  generalize ruV r (.slice a1 r.mon.length c1) (.slice a2 r.md.length c2) (.slice a3 r.dys.length c3) (.slice a4 r.pos.length c4) = VA
  obtain ⟨x0, x1, x2, x3, x4, x5, x6, x7, x8, x9, x10, x11⟩ := HALL.out.1.cells
  obtain ⟨f, i, c, hs, ⟨us, uu, ud⟩, mo, md, dy, po, wk⟩ := r
  simp only at x0 x1 x2 x3 x4 x5 x6 x7 x8 x9 x10 x11
  go_cut [51] (fun s wc => wc = w1 ∧ ∃ b : Bool, s = .bool b ∧ Hid (b = true → rb = false) ∧ Hid (b = false → Fit1 ⟨f, i, c, hs, ⟨us, uu, ud⟩, mo, md, dy, po, wk⟩))
  case first =>
    as_aux_lemma =>
      by_cases h0 : f < 1
      · have E : Hid (rb = false) := Lib.hid (HF.out fun h => by have := h.freq; simp only at this; omega)
        go_wp2
        go_meet
        case rel => exact ⟨rfl, true, rfl, Lib.hid (fun _ => E.out), Lib.hid (fun h => (by cases h))⟩
      by_cases h1 : 5 ≤ f
      · have E : Hid (rb = false) := Lib.hid (HF.out fun h => by have := h.freq; simp only at this; omega)
        go_wp2
        go_meet
        case rel => exact ⟨rfl, true, rfl, Lib.hid (fun _ => E.out), Lib.hid (fun h => (by cases h))⟩
      by_cases h2 : i < 1
      · have E : Hid (rb = false) := Lib.hid (HF.out fun h => by have := h.intv; simp only at this; omega)
        go_wp2
        go_meet
        case rel => exact ⟨rfl, true, rfl, Lib.hid (fun _ => E.out), Lib.hid (fun h => (by cases h))⟩
      by_cases h3 : 1000 < i
      · have E : Hid (rb = false) := Lib.hid (HF.out fun h => by have := h.intv; simp only at this; omega)
        go_wp2
        go_meet
        case rel => exact ⟨rfl, true, rfl, Lib.hid (fun _ => E.out), Lib.hid (fun h => (by cases h))⟩
      by_cases h4 : c < 0
      · have E : Hid (rb = false) := Lib.hid (HF.out fun h => by have := h.cnt; simp only at this; omega)
        go_wp2
        go_meet
        case rel => exact ⟨rfl, true, rfl, Lib.hid (fun _ => E.out), Lib.hid (fun h => (by cases h))⟩
      by_cases h5 : 1000 < c
      · have E : Hid (rb = false) := Lib.hid (HF.out fun h => by have := h.cnt; simp only at this; omega)
        go_wp2
        go_meet
        case rel => exact ⟨rfl, true, rfl, Lib.hid (fun _ => E.out), Lib.hid (fun h => (by cases h))⟩
      by_cases h6 : 0 < c ∧ hs = true
      · obtain ⟨h6, rfl⟩ := h6
        have E : Hid (rb = false) := Lib.hid (HF.out fun h => by have := (h.yes rfl).1; simp only at this; omega)
        go_wp2
        go_meet
        case rel => exact ⟨rfl, true, rfl, Lib.hid (fun _ => E.out), Lib.hid (fun h => (by cases h))⟩
      by_cases h7 : wk < 0
      · have E : Hid (rb = false) := Lib.hid (HF.out fun h => by have := h.wk; simp only at this; omega)
        by_cases h8 : 0 < c
        · have hs0 : hs = false := by cases hs; rfl; exact absurd ⟨h8, rfl⟩ h6
          subst hs0
          clear h6
          go_wp2
          go_meet
          case rel => exact ⟨rfl, true, rfl, Lib.hid (fun _ => E.out), Lib.hid (fun h => (by cases h))⟩
        · clear h6
          go_wp2
          go_meet
          case rel => exact ⟨rfl, true, rfl, Lib.hid (fun _ => E.out), Lib.hid (fun h => (by cases h))⟩
      by_cases h9 : 6 < wk
      · have E : Hid (rb = false) := Lib.hid (HF.out fun h => by have := h.wk; simp only at this; omega)
        by_cases h8 : 0 < c
        · have hs0 : hs = false := by cases hs; rfl; exact absurd ⟨h8, rfl⟩ h6
          subst hs0
          clear h6
          go_wp2
          go_meet
          case rel => exact ⟨rfl, true, rfl, Lib.hid (fun _ => E.out), Lib.hid (fun h => (by cases h))⟩
        · clear h6
          go_wp2
          go_meet
          case rel => exact ⟨rfl, true, rfl, Lib.hid (fun _ => E.out), Lib.hid (fun h => (by cases h))⟩
      have E : Hid (Fit1 ⟨f, i, c, hs, ⟨us, uu, ud⟩, mo, md, dy, po, wk⟩) := Lib.hid ⟨by simp only; omega, by simp only; omega, by simp only; omega, fun h => by simp only at h ⊢; subst h; have : ¬ 0 < c := fun k => h6 ⟨k, rfl⟩; omega, by simp only; omega⟩
      by_cases h8 : 0 < c
      · have hs0 : hs = false := by cases hs; rfl; exact absurd ⟨h8, rfl⟩ h6
        subst hs0
        clear h6
        go_wp2
        go_meet
        case rel => exact ⟨rfl, false, rfl, Lib.hid (fun h => (by cases h)), Lib.hid fun _ => E.out⟩
      · clear h6
        go_wp2
        go_meet
        case rel => exact ⟨rfl, false, rfl, Lib.hid (fun h => (by cases h)), Lib.hid fun _ => E.out⟩
  case rest =>
    obtain ⟨hw, b, rfl, HB1, HG1⟩ := hcut
    have hw2 := hw.symm
    clear hw
    subst hw2
    cases b
    rotate_left
    · have E := Lib.hid (HB1.out rfl)
      go_wp2
      go_ret
      exact ⟨by rw [E.out]; rfl, HALL.out.2.2⟩
    have F1 := Lib.hid (HG1.out rfl)
    clear HB1 HG1
    go_upto_region 3 with fail
    go_cut [70] (fun s wd => Hid (Below w1.heap.size w1 wd) ∧ ∃ b : Bool, s = .bool b ∧ Hid (b = true → rb = false) ∧ Hid (b = false → UnT hs ⟨us, uu, ud⟩))
    case first =>
      cases hs
      · as_aux_lemma =>
        have HN0 : Hid (¬ (us = 0 ∧ uu = false ∧ ud = false) → rb = false) := Lib.hid fun hz => HF.out fun h => hz (by have := h.no rfl; simp only [Wh.zero] at this; injection this with p q r; exact ⟨p, q, r⟩)
        go_wp2
        all_goals
          go_meet
          case rel =>
            refine ⟨Lib.hid (Below.refl _ _), _, rfl, Lib.hid (fun hb => ?_), Lib.hid (fun hb => ⟨fun h => (by cases h), fun _ => ?_⟩)⟩
            · first
                | exact absurd hb (by decide)
                | exact HN0.out (fun hz => by obtain ⟨rfl, rfl, rfl⟩ := hz; contradiction)
            · first
                | exact absurd hb (by decide)
                | (have hu0 : us = 0 := by assumption
                   rw [hu0]
                   cases uu <;> cases ud <;> first | rfl | contradiction | exact absurd rfl (by assumption))
      · as_aux_lemma =>
        have ct := fun W => refTimeText_any ⟨us, uu, ud⟩ HU.out W
        unfold whV at ct
        simp only at ct
        have hl0 : ((⟨(timT ⟨us, uu, ud⟩).toArray⟩ : ByteArray)).data.toList = timT ⟨us, uu, ud⟩ := by simp
        have HH : Hid (timT ⟨us, uu, ud⟩ = [] → rb = false) := Lib.hid fun k => HF.out fun h => (h.yes rfl).2 k
        have HG : Hid (timT ⟨us, uu, ud⟩ ≠ [] → UnT true ⟨us, uu, ud⟩) := Lib.hid fun k => ⟨fun _ => k, fun k => (by cases k)⟩
        generalize (⟨(timT ⟨us, uu, ud⟩).toArray⟩ : ByteArray) = T at ct hl0
        obtain ⟨z, hz⟩ : ∃ z, T.toList.isEmpty = z := ⟨_, rfl⟩
        have hz3 : z = true ↔ timT ⟨us, uu, ud⟩ = [] := by rw [← hz, Lib.toList_data, hl0]; exact List.isEmpty_iff
        cases z
        · have E2 := Lib.hid (HG.out fun h => by cases hz3.2 h)
          clear hl0 HH HG hz3
          go_wp2_with (go_at_call 32; refine (ct _).mono ?_; rintro e w2 ⟨rfl, hb2⟩; clear ct; obtain ⟨_, _, _, y3, _, _, _, _, _, _, _, _⟩ := (HALL.out.1.step hb2).cells)
          go_meet
          case rel => exact ⟨Lib.hid hb2, false, rfl, Lib.hid (fun h => (by cases h)), Lib.hid (fun _ => E2.out)⟩
        · have E1 := Lib.hid (HH.out (hz3.1 rfl))
          clear hl0 HH HG hz3
          go_wp2_with (go_at_call 32; refine (ct _).mono ?_; rintro e w2 ⟨rfl, hb2⟩; clear ct; obtain ⟨_, _, _, y3, _, _, _, _, _, _, _, _⟩ := (HALL.out.1.step hb2).cells)
          go_meet
          case rel => exact ⟨Lib.hid hb2, true, rfl, Lib.hid (fun _ => E1.out), Lib.hid (fun h => (by cases h))⟩
    case rest =>
      obtain ⟨HB2, b, rfl, HB1, HG1⟩ := hcut
      cases b
      rotate_left
      · have E := Lib.hid (HB1.out rfl)
        go_wp2
        go_ret
        exact ⟨by rw [E.out]; rfl, bstep HALL.out.2.2 HB2.out⟩
      have F2 := Lib.hid (HG1.out rfl)
      have HV := Lib.hid (And.intro (HALL.out.1.step HB2.out) (And.intro (HALL.out.2.1.step HB2.out) (bstep HALL.out.2.2 HB2.out)))
      clear HB1 HG1 HB2 HALL x0 x1 x2 x3 x4 x5 x6 x7 x8 x9 x10 x11
      obtain ⟨x0, x1, x2, x3, x4, x5, x6, x7, x8, x9, x10, x11⟩ := HV.out.1.cells
      simp only at x0 x1 x2 x3 x4 x5 x6 x7 x8 x9 x10 x11
      go_upto_region 5 with fail
      go_cut [92] (fun s we => we = wc ∧ ∃ b : Bool, s = .bool b ∧ Hid (b = true → rb = false) ∧ Hid (b = false → OkI mo 1 12 ∧ OkI md (-31) 31 ∧ OkI po (-366) 366 ∧ dy.length ≤ 24))
      case first => -- 5
        as_aux_lemma =>
          have wy : ∀ {A : Option Addr} {n cp : Nat} {l : List Int} {lo hi : Int}, OkI l lo hi → Sl wc (.slice A n cp) n 1 (intC l) → n ≤ 100000000 → Calls Tryz.prog 33 #[.slice A n cp, .int .i64 lo, .int .i64 hi] wc fun e w' => e = .returned (.bool true) ∧ w' = wc := fun ho h hn => (refWithin_any _ _ _ _ _ _ _ h hn).mono fun e w' k => by
            obtain ⟨⟨b, rfl, hb⟩, hw⟩ := k
            exact ⟨by rw [hb.2 ho], hw⟩
          have wn : ∀ {A : Option Addr} {n cp : Nat} {l : List Int} {lo hi : Int}, ¬ OkI l lo hi → Sl wc (.slice A n cp) n 1 (intC l) → n ≤ 100000000 → Calls Tryz.prog 33 #[.slice A n cp, .int .i64 lo, .int .i64 hi] wc fun e w' => e = .returned (.bool false) ∧ w' = wc := fun ho h hn => (refWithin_any _ _ _ _ _ _ _ h hn).mono fun e w' k => by
            obtain ⟨⟨b, rfl, hb⟩, hw⟩ := k
            cases b
            · exact ⟨rfl, hw⟩
            · exact absurd (hb.1 rfl) ho
          have HW := Lib.hid (And.intro @wy @wn)
          clear wy wn
          by_cases o1 : OkI mo 1 12
          rotate_left
          · have E : Hid (rb = false) := Lib.hid (HF.out fun h => o1 h.mon)
            have q1 := HW.out.2 o1 HV.out.2.1.s1 HV.out.2.1.l1
            go_wp2_with (go_at_call 33; refine q1.mono ?_; rintro e w' ⟨rfl, hw⟩; subst w'; clear q1)
            go_meet
            case rel => exact ⟨rfl, true, rfl, Lib.hid (fun _ => E.out), Lib.hid (fun h => (by cases h))⟩
          have q1 := HW.out.1 o1 HV.out.2.1.s1 HV.out.2.1.l1
          by_cases o2 : OkI md (-31) 31
          rotate_left
          · have E : Hid (rb = false) := Lib.hid (HF.out fun h => o2 h.md)
            have q2 := HW.out.2 o2 HV.out.2.1.s2 HV.out.2.1.l2
            go_wp2_with (first
              | (go_at_call 33; (with_reducible refine q1.mono ?_); rintro e w' ⟨rfl, hw⟩; subst w'; clear q1)
              | (go_at_call 33; refine q2.mono ?_; rintro e w' ⟨rfl, hw⟩; subst w'; clear q2))
            go_meet
            case rel => exact ⟨rfl, true, rfl, Lib.hid (fun _ => E.out), Lib.hid (fun h => (by cases h))⟩
          have q2 := HW.out.1 o2 HV.out.2.1.s2 HV.out.2.1.l2
          by_cases o3 : OkI po (-366) 366
          rotate_left
          · have E : Hid (rb = false) := Lib.hid (HF.out fun h => o3 h.pos)
            have q3 := HW.out.2 o3 HV.out.2.1.s4 HV.out.2.1.l4
            go_wp2_with (first
              | (go_at_call 33; (with_reducible refine q1.mono ?_); rintro e w' ⟨rfl, hw⟩; subst w'; clear q1)
              | (go_at_call 33; (with_reducible refine q2.mono ?_); rintro e w' ⟨rfl, hw⟩; subst w'; clear q2)
              | (go_at_call 33; refine q3.mono ?_; rintro e w' ⟨rfl, hw⟩; subst w'; clear q3))
            go_meet
            case rel => exact ⟨rfl, true, rfl, Lib.hid (fun _ => E.out), Lib.hid (fun h => (by cases h))⟩
          have q3 := HW.out.1 o3 HV.out.2.1.s4 HV.out.2.1.l4
          obtain ⟨nd, hnd⟩ : ∃ nd, dy.length = nd := ⟨_, rfl⟩
          have HND := Lib.hid hnd
          simp only [hnd] at x9
          clear hnd
          have HO := Lib.hid (And.intro o1 (And.intro o2 o3))
          by_cases o4 : 24 < nd
          · have E : Hid (rb = false) := Lib.hid (HF.out fun h => by have := h.dys.1; have := HND.out; simp only at *; omega)
            have o4i : (24 : Int) < (nd : Int) := by omega
            go_wp2_with (first
              | (go_at_call 33; (with_reducible refine q1.mono ?_); rintro e w' ⟨rfl, hw⟩; subst w'; clear q1)
              | (go_at_call 33; (with_reducible refine q2.mono ?_); rintro e w' ⟨rfl, hw⟩; subst w'; clear q2)
              | (go_at_call 33; refine q3.mono ?_; rintro e w' ⟨rfl, hw⟩; subst w'; clear q3))
            go_meet
            case rel => exact ⟨rfl, true, rfl, Lib.hid (fun _ => E.out), Lib.hid (fun h => (by cases h))⟩
          · have E : Hid (dy.length ≤ 24) := Lib.hid (by have := HND.out; omega)
            have o4i : ¬ (24 : Int) < (nd : Int) := by omega
            have o4d : decide ((24 : Int) < (nd : Int)) = false := decide_eq_false o4i
            go_wp2_with (first
              | (go_at_call 33; (with_reducible refine q1.mono ?_); rintro e w' ⟨rfl, hw⟩; subst w'; clear q1)
              | (go_at_call 33; (with_reducible refine q2.mono ?_); rintro e w' ⟨rfl, hw⟩; subst w'; clear q2)
              | (go_at_call 33; refine q3.mono ?_; rintro e w' ⟨rfl, hw⟩; subst w'; clear q3))
            go_meet
            case rel => exact ⟨rfl, false, rfl, Lib.hid (fun h => (by cases h)), Lib.hid (fun _ => ⟨HO.out.1, HO.out.2.1, HO.out.2.2, E.out⟩)⟩
      case rest => -- 5
        obtain ⟨hw, b, rfl, HB1, HG1⟩ := hcut
        have hw2 := hw.symm
        clear hw
        subst hw2
        cases b
        rotate_left
        · have E := Lib.hid (HB1.out rfl)
          go_wp2
          go_ret
          exact ⟨by rw [E.out]; rfl, HV.out.2.2⟩
        have F3 := Lib.hid (HG1.out rfl)
        clear HB1 HG1
        obtain ⟨nd, hnd⟩ : ∃ nd, dy.length = nd := ⟨_, rfl⟩
        have hd3 := HV.out.2.1.s3
        have hdl := HV.out.2.1.l3
        simp only [hnd] at x9 hd3 hdl
        have HND := Lib.hid hnd
        have HD := Lib.hid hd3
        clear hnd hd3
        go_wp2
        go_loopg [3] nd (fun g s3 wr => ∃ k : Nat, k ≤ nd ∧ nd - k ≤ g ∧ s3 = .int .i64 k ∧ Hid (Below wc.heap.size wc wr ∧ ∀ j, j < k → DyF f (dy.getD j (0, 0))))
        case atStart => exact ⟨0, Nat.zero_le _, by omega, rfl, Lib.hid ⟨Below.refl _ _, fun j hj => absurd hj (Nat.not_lt_zero _)⟩⟩
        case round =>
          obtain ⟨k, hk, hg, rfl, HJ⟩ := hrel
          clear x0 x1 x2 x3 x4 x5 x6 x7 x8 x10 x11 x9
          obtain ⟨x0, x1, x2, x3, x4, x5, x6, x7, x8, x9, x10, x11⟩ := (HV.out.1.step HJ.out.1).cells
          simp only at x0 x1 x2 x3 x4 x5 x6 x7 x8 x9 x10 x11
          rw [HND.out] at x9
          by_cases hlt : k < nd
          · have hin : (k : Int) < (nd : Int) := by omega
            as_aux_lemma =>
              obtain ⟨b1, o1, rfl, g0, g1⟩ := (HD.out.step HJ.out.1).wd hlt
              have hm : dy.getD k (0, 0) ∈ dy := by rw [List.getD_eq_getElem?_getD, List.getElem?_eq_getElem (by rw [HND.out]; exact hlt)]; exact List.getElem_mem _
              have HM : Hid (¬ DyF f (dy.getD k (0, 0)) → rb = false) := Lib.hid fun h => HF.out fun q => h ⟨(q.dys.2 _ hm).1, (q.dys.2 _ hm).2.1, (q.dys.2 _ hm).2.2.1, (q.dys.2 _ hm).2.2.2, fun h3 => q.few h3 _ hm⟩
              have JN : Hid (DyF f (dy.getD k (0, 0)) → ∀ j, j < k + 1 → DyF f (dy.getD j (0, 0))) := Lib.hid fun h j hj => by
                by_cases e : j = k
                · rw [e]; exact h
                · exact HJ.out.2 j (by omega)
              clear hm
              generalize dy.getD k (0, 0) = d at g0 g1 HM JN
              obtain ⟨dn, dd⟩ := d
              simp only at g0 g1
              go_upto_region 11 with fail
              have hal := (Below.refl wr.heap.size wr).alloc (Nat.le_refl _) (.cells #[.int .i64 dn, .int .i64 dd] 57)
              obtain ⟨y0, y1⟩ := (D2.new wr dn dd).cells
              have HJB := Lib.hid (bstep HJ.out.1 hal)
              clear x0 x1 x2 x3 x4 x5 x6 x7 x8 x9 x10 x11 g0 g1
              obtain ⟨x0, _, _, _, _, _, _, _, _, _, _, _⟩ := (HV.out.1.step HJB.out).cells
              simp only at x0
              clear hal
              generalize wr.alloc (.cells #[.int .i64 dn, .int .i64 dd] 57) = w6 at HJB x0 y0 y1 ⊢
              by_cases t1 : dd < 0
              · have E : Hid (rb = false) := Lib.hid (HM.out fun h => by have := h.1; simp only at this; omega)
                go_wp2
                go_ret
                exact ⟨by rw [E.out]; rfl, bstep HV.out.2.2 HJB.out⟩
              by_cases t2 : 6 < dd
              · have E : Hid (rb = false) := Lib.hid (HM.out fun h => by have := h.2.1; simp only at this; omega)
                go_wp2
                go_ret
                exact ⟨by rw [E.out]; rfl, bstep HV.out.2.2 HJB.out⟩
              by_cases t3 : dn < -53
              · have E : Hid (rb = false) := Lib.hid (HM.out fun h => by have := h.2.2.1; simp only at this; omega)
                go_wp2
                go_ret
                exact ⟨by rw [E.out]; rfl, bstep HV.out.2.2 HJB.out⟩
              by_cases t4 : 53 < dn
              · have E : Hid (rb = false) := Lib.hid (HM.out fun h => by have := h.2.2.2.1; simp only at this; omega)
                go_wp2
                go_ret
                exact ⟨by rw [E.out]; rfl, bstep HV.out.2.2 HJB.out⟩
              by_cases t5 : dn = 0
              · have JN2 := Lib.hid (JN.out ⟨by simp only; omega, by simp only; omega, by simp only; omega, by simp only; omega, fun _ => t5⟩)
                have t5b : (dn != 0) = false := by rw [t5]; rfl
                clear t5
                go_wp2
                go_roundg (nd - (k + 1))
                case measure => omega
                case rel => exact ⟨k + 1, by omega, Nat.le_refl _, by go_num, Lib.hid ⟨HJB.out, JN2.out⟩⟩
              · have t5b : (dn != 0) = true := by rw [bne_iff_ne]; exact t5
                by_cases t6 : f < 3
                · have E : Hid (rb = false) := Lib.hid (HM.out fun h => t5 (h.2.2.2.2 t6))
                  clear t5
                  go_wp2
                  go_ret
                  exact ⟨by rw [E.out]; rfl, bstep HV.out.2.2 HJB.out⟩
                · have JN2 := Lib.hid (JN.out ⟨by simp only; omega, by simp only; omega, by simp only; omega, by simp only; omega, fun h => absurd h t6⟩)
                  clear t5
                  go_wp2
                  go_roundg (nd - (k + 1))
                  case measure => omega
                  case rel => exact ⟨k + 1, by omega, Nat.le_refl _, by go_num, Lib.hid ⟨HJB.out, JN2.out⟩⟩
          · obtain rfl : k = nd := by omega
            have HDY : Hid (OkD dy ∧ (f < 3 → ∀ d ∈ dy, d.1 = 0)) := Lib.hid (by
              have key : ∀ d ∈ dy, DyF f d := fun d hd => by
                obtain ⟨j, hj, rfl⟩ := List.mem_iff_getElem.1 hd
                have := HJ.out.2 j (by rw [← HND.out]; exact hj)
                rw [List.getD_eq_getElem?_getD, List.getElem?_eq_getElem hj] at this
                exact this
              exact ⟨⟨F3.out.2.2.2, fun d hd => ⟨(key d hd).1, (key d hd).2.1, (key d hd).2.2.1, (key d hd).2.2.2.1⟩⟩, fun h d hd => (key d hd).2.2.2.2 h⟩)
            have HBJ := Lib.hid (bstep HV.out.2.2 HJ.out.1)
            have hl1 := HV.out.2.1.l1
            have hl2 := HV.out.2.1.l2
            have hl4 := HV.out.2.1.l4
            simp only at hl1 hl2 hl4
            have HYES : Hid (¬ (f = 2 ∧ 0 < md.length) → ¬ (0 < po.length ∧ mo.length + md.length + dy.length = 0) → rb = true) := Lib.hid fun k1 k2 => HT.out
              ⟨F1.out.freq, F1.out.intv, F1.out.cnt, fun h => ⟨F1.out.no h, F2.out.1 h⟩, fun h => F2.out.2 h, F3.out.1, F3.out.2.1, HDY.out.1, F3.out.2.2.1, HDY.out.2, fun h => by
                simp only at h ⊢
                cases hm : md with
                | nil => rfl
                | cons a b => exact absurd ⟨h, by rw [hm]; simp⟩ k1, fun h => by
                simp only at h ⊢
                rcases hq1 : mo with _ | ⟨a, b⟩
                · rcases hq2 : md with _ | ⟨a, b⟩
                  · rcases hq3 : dy with _ | ⟨a, b⟩
                    · exact absurd ⟨List.length_pos_iff.2 h, by rw [hq1, hq2, hq3]; rfl⟩ k2
                    · exact .inr (.inr (by simp))
                  · exact .inr (.inl (by simp))
                · exact .inl (by simp), F1.out.wk⟩
            have HNO1 : Hid (f = 2 → 0 < md.length → rb = false) := Lib.hid fun e k1 => HF.out fun h => by
              have := h.week e
              simp only at this
              rw [this] at k1
              exact absurd k1 (by simp)
            have HNO2 : Hid (0 < po.length → mo.length + md.length + dy.length = 0 → rb = false) := Lib.hid fun k1 k2 => HF.out fun h => by
              have h1 : po ≠ [] := List.length_pos_iff.1 k1
              rcases h.alone h1 with h2 | h2 | h2
              · exact absurd (List.length_pos_iff.2 h2) (by simp only; omega)
              · exact absurd (List.length_pos_iff.2 h2) (by simp only; omega)
              · exact absurd (List.length_pos_iff.2 h2) (by simp only; omega)
            rw [HND.out] at HYES HNO2
            generalize mo.length = n1 at x7 hl1 HYES HNO2
            generalize md.length = n2 at x8 hl2 HYES HNO1 HNO2
            generalize po.length = n4 at x10 hl4 HYES HNO2
            clear HV HD HND F1 F2 F3
            as_aux_lemma =>
              by_cases e1 : f = 2
              · have e1b : (f == 2) = true := by rw [beq_iff_eq]; exact e1
                by_cases e2 : 0 < n2
                · have e2i : (0 : Int) < (n2 : Int) := by omega
                  have E := Lib.hid (HNO1.out e1 e2)
                  clear e1
                  go_wp2
                  go_ret
                  exact ⟨by rw [E.out]; rfl, HBJ.out⟩
                · have e2i : ¬ (0 : Int) < (n2 : Int) := by omega
                  have HE1 := Lib.hid e1
                  clear e1
                  by_cases e3 : 0 < n4
                  · have e3i : (0 : Int) < (n4 : Int) := by omega
                    by_cases e4 : n1 + n2 + k = 0
                    · have E := Lib.hid (HNO2.out e3 e4)
                      have e4b : (((n1 : Int) + (n2 : Int) + (k : Int)) == 0) = true := by rw [beq_iff_eq]; omega
                      clear e4
                      go_wp2
                      go_ret
                      exact ⟨by rw [E.out]; rfl, HBJ.out⟩
                    · have E := Lib.hid (HYES.out (fun h => e2 h.2) (fun h => e4 h.2))
                      have e4b : (((n1 : Int) + (n2 : Int) + (k : Int)) == 0) = false := by rw [beq_eq_false_iff_ne]; omega
                      clear e4
                      go_wp2
                      go_ret
                      exact ⟨by rw [E.out]; rfl, HBJ.out⟩
                  · have e3i : ¬ (0 : Int) < (n4 : Int) := by omega
                    have E := Lib.hid (HYES.out (fun h => e2 h.2) (fun h => e3 h.1))
                    go_wp2
                    go_ret
                    exact ⟨by rw [E.out]; rfl, HBJ.out⟩
              · have e1b : (f == 2) = false := by rw [beq_eq_false_iff_ne]; exact e1
                by_cases e3 : 0 < n4
                · have e3i : (0 : Int) < (n4 : Int) := by omega
                  by_cases e4 : n1 + n2 + k = 0
                  · have E := Lib.hid (HNO2.out e3 e4)
                    have e4b : (((n1 : Int) + (n2 : Int) + (k : Int)) == 0) = true := by rw [beq_iff_eq]; omega
                    clear e4
                    go_wp2
                    go_ret
                    exact ⟨by rw [E.out]; rfl, HBJ.out⟩
                  · have E := Lib.hid (HYES.out (fun h => e1 h.1) (fun h => e4 h.2))
                    have e4b : (((n1 : Int) + (n2 : Int) + (k : Int)) == 0) = false := by rw [beq_eq_false_iff_ne]; omega
                    clear e4
                    go_wp2
                    go_ret
                    exact ⟨by rw [E.out]; rfl, HBJ.out⟩
                · have e3i : ¬ (0 : Int) < (n4 : Int) := by omega
                  have E := Lib.hid (HYES.out (fun h => e1 h.1) (fun h => e3 h.1))
                  go_wp2
                  go_ret
                  exact ⟨by rw [E.out]; rfl, HBJ.out⟩
end Go.Proofs.YtnidkcedomhofaaGreatDoor
