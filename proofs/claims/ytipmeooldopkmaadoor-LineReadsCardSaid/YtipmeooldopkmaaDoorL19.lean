/-
  The program's functions of layer 11: which properties can be, and how they are written.
-/
import Derived.Test.YtipmeooldopkmaaDoorL18
import Derived.Test.YtipmeooldopkmaaDoorL17
import Derived.Test.YtipmeooldopkmaaDoorL10
import Derived.RangeFuncNested
import Derived.RangeFuncBound
import Derived.RangeFuncCalls
import Derived.RangeFuncLeaves
import Derived.RangeFuncBox
import Derived.Shelf.Abstract
import Derived.Shelf.RegionOpen
import Derived.OwnWalkIn
import Derived.TacticsInMore
import Derived.RegionIn
import Derived.LoopNIn
import Derived.LoopIn
import Derived.Maps.AppendAt
namespace Go.Proofs.YtipmeooldopkmaaDoor
open Go.RowKit

theorem qt_pv (l : List UInt8) : (l.all fun c => qtN c.toNat) = l.all (pvC false) := by
  congr 1; funext c; unfold pvC qtN; rw [st_ctl]; simp
theorem st_pv (l : List UInt8) : (l.all fun c => stN c.toNat) = l.all (pvC true) := by
  congr 1; funext c; unfold pvC; rw [st_ctl]; simp
set_option maxRecDepth 100000 in
set_option maxHeartbeats 8000000 in
theorem pFit_x (nm vl : ByteArray) (L : Option Addr) (n c : Nat) (l : List PR) (w : World) (hR : Reads w w.heap.size 2 L n (encP l)) (hP : ∀ r ∈ l, POk w w.heap.size r) (hn : n ≤ c) (hc : c ≤ maxLen) (hsz : nm.size + psizes l + vl.size ≤ 1048576) (hf : Forms w) :
    Calls Tryd.prog 12 #[.agg #[.string nm, .slice L n c, .string vl]] w fun e w' => e = .returned (.bool (fitB (proOf nm l vl))) ∧ Below w.heap.size w w' := by
  have hb0 : Below w.heap.size w (w.alloc (.cells #[.string nm, .slice L n c, .string vl] 24)) := (Below.refl _ w).alloc (Nat.le_refl _) _
  have HA := Lib.hid (And.intro (PA.new hR hP hn hc nm vl) (And.intro hb0 (hf.step hb0)))
  have hnm : n ≤ 9223372036854775807 := by have := hc; unfold maxLen at this; omega
  have HSZ := Lib.hid hsz
  have HPS : Hid (∀ r, r ∈ l → r.name.size ≤ 1048576 ∧ ∀ v ∈ r.vs, v.size ≤ 1048576) := Lib.hid fun r hr => by
    have h1 := psize_le hr
    unfold psize at h1
    refine ⟨by omega, fun v hv => ?_⟩
    have : v.size + 1 ≤ vsize r.vs := vsize_le hv
    omega
  have hvl : vl.size ≤ 1048576 := by omega
  have c1 := fun W => isName_any nm (by omega) W
  have egQ : ∀ args W, (callFunc 39 args).run Tryd.prog W = .ok (.enter 39 args) W := enters_of Tryd.func39 (by kernel_rfl) rfl
  have egS : ∀ args W, (callFunc 40 args).run Tryd.prog W = .ok (.enter 40 args) W := enters_of Tryd.func40 (by kernel_rfl) rfl
  have cQ := Lib.hid fun (v : ByteArray) (hv : v.size ≤ 16777216) (W : World) => hasOnly_any 39 (fun c => qtN c.toNat) egQ (fun c W => pQuote_any c.toNat c.toNat_lt W) v hv W
  have cS := fun (W : World) => hasOnly_any 40 (fun c => stN c.toNat) egS (fun c W => pStand_any c.toNat c.toNat_lt W) vl (by omega) W
  have HL := Lib.hid HA.out.1.len
  have E0 := Lib.hid (show fitB (proOf nm l vl) = (nameB nm.data.toList && (decide (n ≤ 16) && ((l.map parOf).all parB && ((vld vl.data.toList && vl.data.toList.all fun c => stN c.toNat) && decide ((textL (proOf nm l vl)).length ≤ 1024))))) by
    unfold fitB
    rw [show (proOf nm l vl).pars.length = n by unfold proOf; rw [List.length_map]; exact HL.out, st_pv]
    show (nameB nm.data.toList && (decide (n ≤ 16) && ((vl.data.toList.all (pvC true) && vld vl.data.toList) && ((l.map parOf).all parB && _)))) = _
    generalize vl.data.toList.all (pvC true) = a
    generalize vld vl.data.toList = b
    generalize (l.map parOf).all parB = d
    cases a <;> cases b <;> cases d <;> simp)
  have HCS : Hid (∀ W, Calls Tryd.prog 38 #[.string vl, .func (.func 40) #[] #[]] W fun e w' => e = .returned (.bool (vl.data.toList.all fun c => stN c.toNat)) ∧ w' = W) := Lib.hid cS
  clear hR hP hn hc hsz hf hb0 cS egQ egS
  generalize (vl.data.toList.all fun c => stN c.toNat) = sv at *
  obtain ⟨vv, hvv⟩ : ∃ vv, vld vl.data.toList = vv := ⟨_, rfl⟩
  rw [hvv] at E0
  have HVD := Lib.hid hvv
  clear hvv
  obtain ⟨F, hF⟩ : ∃ F, fitB (proOf nm l vl) = F := ⟨_, rfl⟩
  rw [hF] at E0 ⊢
  clear hF
  generalize nameB nm.data.toList = b1 at *
  go_enter Tryd.func12, Tryd.ntmps12
  generalize hW : w.alloc (.cells #[.string nm, .slice L n c, .string vl] 24) = w1 at HA
  obtain ⟨x0, x1, x2⟩ := HA.out.1.bx.cells
  have HW := Lib.hid hW
  cases b1
  · have E : Hid (F = false) := Lib.hid (by rw [E0.out]; rfl)
    go_wp2_with (go_at_call 37; ((with_reducible refine (c1 _).mono ?_); rintro e w' ⟨rfl, hw⟩; subst w'))
    go_ret
    exact ⟨by rw [E.out]; rfl, HA.out.2.1⟩
  rw [Bool.true_and] at E0
  by_cases h16 : n ≤ 16
  · rw [decide_eq_true h16, Bool.true_and] at E0
    have g16 : decide ((16 : Int) < (n : Int)) = false := decide_eq_false (by omega)
    go_wp2_with (go_at_call 37; ((with_reducible refine (c1 _).mono ?_); rintro e w' ⟨rfl, hw⟩; subst w'))
    clear x0 x1 x2 c1 g16 hW
    go_loopg [20] n (fun g s3 wr => ∃ i : Nat, s3 = .int .i64 i ∧ i ≤ n ∧ n - i ≤ g ∧ Hid (PA wr w.heap.size nm vl L n c l ∧ Below w.heap.size w wr ∧ Forms wr) ∧ Hid ((l.map parOf).all parB = ((l.map parOf).drop i).all parB))
    case atStart => exact ⟨0, rfl, Nat.zero_le _, by omega, HA, Lib.hid rfl⟩
    case round =>
      clear HA
      obtain ⟨i, rfl, hi, hg, HJ, HV⟩ := hrel
      obtain ⟨x0, x1, x2⟩ := HJ.out.1.bx.cells
      by_cases hlt : i < n
      · obtain ⟨r, hr⟩ : ∃ r, l[i]? = some r := ⟨l[i]'(by have := HL.out; omega), List.getElem?_eq_getElem (by have := HL.out; omega)⟩
        obtain ⟨b, o, hLe, q0, q1⟩ := HJ.out.1.at hr
        have hmem := List.mem_of_getElem? hr
        have HST := Lib.hid (alls_drop (f := parB) (l := l.map parOf) (i := i) (x := parOf r) (by rw [List.getElem?_map, hr]; rfl))
        obtain ⟨hrn, hvv⟩ := HPS.out r hmem
        have HVV := Lib.hid hvv
        have cn := fun W => isName_any r.name (by omega) W
        have HPB := Lib.hid (show parB (parOf r) = (nameB r.name.data.toList && (decide (r.vs.map (fun v => v.data.toList) ≠ []) && (r.vs.map (fun v => v.data.toList)).all fun v => plainB v false)) from rfl)
        have hxb : Below wr.heap.size wr (wr.alloc (.cells #[.string r.name, .slice r.K r.k r.kc] 57)) := (Below.refl _ wr).alloc (Nat.le_refl _) _
        have HX := Lib.hid (X2.new wr r)
        have HJ2 := Lib.hid (And.intro (HJ.out.1.step hxb) (And.intro (bstep HJ.out.2.1 hxb) (HJ.out.2.2.step hxb)))
        have HLM : Hid (r ∈ l) := Lib.hid hmem
        have HKL := Lib.hid (HJ.out.1.vs r hmem).len
        have hkm : r.k ≤ 9223372036854775807 := by have a := (HJ.out.1.vs r hmem).le; have b := (HJ.out.1.vs r hmem).cap; unfold maxLen at b; omega
        clear hr hmem hvv hxb HJ
        subst hLe
        generalize nameB r.name.data.toList = bn at *
        cases bn
        · have E : Hid (F = false) := Lib.hid (by rw [E0.out, HV.out, HST.out, HPB.out]; rfl)
          go_wp2_with (go_at_call 37; ((with_reducible refine (cn _).mono ?_); rintro e w' ⟨rfl, hw⟩; subst w'))
          go_ret
          exact ⟨by rw [E.out]; rfl, HJ2.out.2.1⟩
        by_cases hk0 : r.k = 0
        · have hv : r.vs = [] := List.eq_nil_of_length_eq_zero (by rw [HKL.out]; exact hk0)
          have E : Hid (F = false) := Lib.hid (by rw [E0.out, HV.out, HST.out, HPB.out, hv]; rfl)
          have k0 : ((r.k : Int) == 0) = true := by rw [beq_iff_eq]; omega
          clear hv hk0
          go_wp2_with (go_at_call 37; ((with_reducible refine (cn _).mono ?_); rintro e w' ⟨rfl, hw⟩; subst w'))
          go_ret
          exact ⟨by rw [E.out]; rfl, HJ2.out.2.1⟩
        have hvne : r.vs.map (fun v => v.data.toList) ≠ [] := fun e => by
          have := congrArg List.length e
          rw [List.length_map, HKL.out, List.length_nil] at this
          exact hk0 this
        rw [Bool.true_and, decide_eq_true hvne, Bool.true_and] at HPB
        have k0 : ((r.k : Int) == 0) = false := by rw [beq_eq_false_iff_ne]; omega
        clear hvne
        go_wp2_with (go_at_call 37; ((with_reducible refine (cn _).mono ?_); rintro e w' ⟨rfl, hw⟩; subst w'))
        generalize hpx : wr.heap.size = X at *
        clear cn k0 q0 q1 x0 x1 x2 HX hpx
        obtain ⟨rK, hrK⟩ : ∃ rK, r.K = rK := ⟨_, rfl⟩
        rw [hrK] at HJ2 ⊢
        have HRK := Lib.hid hrK
        clear hrK
        go_loopg [37] r.k (fun g2 s5 wr2 => ∃ k : Nat, s5 = .int .i64 k ∧ k ≤ r.k ∧ r.k - k ≤ g2 ∧ Hid (PA wr2 w.heap.size nm vl (some ⟨b, o, none⟩) n c l ∧ Below w.heap.size w wr2 ∧ Forms wr2) ∧ Hid (((r.vs.map (fun v => v.data.toList)).all fun v => plainB v false) = (((r.vs.map (fun v => v.data.toList)).drop k).all fun v => plainB v false)))
        case atStart => exact ⟨0, rfl, Nat.zero_le _, by omega, HJ2, Lib.hid rfl⟩
        case round =>
          clear HJ2
          obtain ⟨k, rfl, hk, hg2, HJ3, HU⟩ := hrel
          by_cases hlt2 : k < r.k
          · obtain ⟨v, hv⟩ : ∃ v, r.vs[k]? = some v := ⟨r.vs[k]'(by have := HKL.out; omega), List.getElem?_eq_getElem (by have := HKL.out; omega)⟩
            obtain ⟨b2, o2, hKe, q2⟩ := (HJ3.out.1.vs r HLM.out).at hv
            have hvs := HVV.out v (List.mem_of_getElem? hv)
            have HUS := Lib.hid (alls_drop (f := fun v => plainB v false) (l := r.vs.map fun v => v.data.toList) (i := k) (x := v.data.toList) (by rw [List.getElem?_map, hv]; rfl))
            have HPV := Lib.hid (show plainB v.data.toList false = ((v.data.toList.all fun c => qtN c.toNat) && vld v.data.toList) by rw [qt_pv]; rfl)
            have cv := valid_any v (by omega) _ HJ3.out.2.2
            have co := fun W => cQ.out v (by omega) W
            have hK2 := HRK.out.symm.trans hKe
            subst hK2
            clear hv hKe
            generalize (v.data.toList.all fun c => qtN c.toNat) = bq at *
            generalize vld v.data.toList = bv at *
            go_wp2_with fail
            refine cv.mono ?_
            rintro e w7 ⟨rfl, hb7⟩
            have HJ4 := Lib.hid (And.intro (HJ3.out.1.step hb7) (And.intro (bstep HJ3.out.2.1 hb7) (HJ3.out.2.2.step hb7)))
            clear cv hb7 HJ3 q2
            cases bv
            · have E : Hid (F = false) := Lib.hid (by rw [E0.out, HV.out, HST.out, HPB.out, HU.out, HUS.out, HPV.out]; simp)
              go_wp2
              go_ret
              exact ⟨by rw [E.out]; rfl, HJ4.out.2.1⟩
            cases bq
            · have E : Hid (F = false) := Lib.hid (by rw [E0.out, HV.out, HST.out, HPB.out, HU.out, HUS.out, HPV.out]; simp)
              go_wp2_with (go_at_call 38; ((with_reducible refine (co _).mono ?_); rintro e w' ⟨rfl, hw⟩; subst w'))
              go_ret
              exact ⟨by rw [E.out]; rfl, HJ4.out.2.1⟩
            · have HU2 := Lib.hid (HU.out.trans HUS.out)
              rw [HPV.out, Bool.and_self, Bool.true_and] at HU2
              go_wp2_with (go_at_call 38; ((with_reducible refine (co _).mono ?_); rintro e w' ⟨rfl, hw⟩; subst w'))
              go_roundg (r.k - (k + 1))
              case measure => omega
              case rel => exact ⟨k + 1, by go_num, by omega, by omega, HJ4, HU2⟩
          · obtain rfl : k = r.k := by omega
            have HV2 : Hid ((l.map parOf).all parB = ((l.map parOf).drop (i + 1)).all parB) := Lib.hid (by
              rw [HV.out, HST.out, HPB.out, HU.out, List.drop_eq_nil_of_le (by rw [List.length_map, HKL.out]; exact Nat.le_refl _)]; rfl)
            go_wp2
            go_roundg (n - (i + 1))
            case measure => omega
            case rel => exact ⟨i + 1, by go_num, by omega, by omega, HJ3, HV2⟩
      · obtain rfl : i = n := by omega
        have hall : (l.map parOf).all parB = true := by rw [HV.out, List.drop_eq_nil_of_le (by rw [List.length_map, HL.out]; exact Nat.le_refl _)]; rfl
        rw [hall, Bool.true_and] at E0
        have HNE : Hid (∀ r ∈ l, r.vs ≠ []) := Lib.hid fun r hr e => by
          have h1 := List.all_eq_true.1 hall (parOf r) (List.mem_map_of_mem hr)
          unfold parB parOf at h1
          rw [e] at h1
          simp at h1
        clear hall
        have cv := valid_any vl (by omega) wr HJ.out.2.2
        rw [HVD.out] at cv
        go_wp2_with fail
        refine cv.mono ?_
        rintro e w7 ⟨rfl, hb7⟩
        have HJ4 := Lib.hid (And.intro (HJ.out.1.step hb7) (And.intro (bstep HJ.out.2.1 hb7) (HJ.out.2.2.step hb7)))
        clear cv hb7 HJ x0 x1 x2
        obtain ⟨x0, x1, x2⟩ := HJ4.out.1.bx.cells
        have co := fun W => HCS.out W
        cases vv
        · have E : Hid (F = false) := Lib.hid (by rw [E0.out]; rfl)
          go_wp2
          go_ret
          exact ⟨by rw [E.out]; rfl, HJ4.out.2.1⟩
        cases sv
        · have E : Hid (F = false) := Lib.hid (by rw [E0.out]; rfl)
          go_wp2_with (go_at_call 38; ((with_reducible refine (co _).mono ?_); rintro e w' ⟨rfl, hw⟩; subst w'))
          go_ret
          exact ⟨by rw [E.out]; rfl, HJ4.out.2.1⟩
        rw [Bool.and_self, Bool.true_and] at E0
        have ct := written_any nm vl L i c l w7 HJ4.out.1.rd HJ4.out.1.vs HJ4.out.1.le HJ4.out.1.cap HSZ.out HNE.out
        have hts : (⟨(textL (proOf nm l vl)).toArray⟩ : ByteArray).size = (textL (proOf nm l vl)).length := mk_sizeL _
        generalize (⟨(textL (proOf nm l vl)).toArray⟩ : ByteArray) = T at *
        have HTS := Lib.hid hts
        clear hts
        by_cases h1024 : T.size ≤ 1024
        · have E : Hid (F = true) := Lib.hid (by rw [E0.out, ← HTS.out]; exact decide_eq_true h1024)
          go_wp2_with (first
            | (go_at_call 38; ((with_reducible refine (co _).mono ?_); rintro e w' ⟨rfl, hw⟩; subst w'))
            | (go_at_call 41; ((with_reducible refine ct.mono ?_); rintro e w8 ⟨rfl, hb8⟩)))
          go_ret
          exact ⟨by rw [E.out]; first | rfl | (simp; done) | (simp; omega), bstep HJ4.out.2.1 (by assumption)⟩
        · have E : Hid (F = false) := Lib.hid (by rw [E0.out, ← HTS.out]; exact decide_eq_false h1024)
          have hi2 : decide ((T.size : Int) ≤ 1024) = false := decide_eq_false (by omega)
          go_wp2_with (first
            | (go_at_call 38; ((with_reducible refine (co _).mono ?_); rintro e w' ⟨rfl, hw⟩; subst w'))
            | (go_at_call 41; ((with_reducible refine ct.mono ?_); rintro e w8 ⟨rfl, hb8⟩)))
          go_ret
          exact ⟨by rw [E.out]; first | rfl | (simp; done) | (simp; omega), bstep HJ4.out.2.1 (by assumption)⟩
  · have E : Hid (F = false) := Lib.hid (by rw [E0.out, decide_eq_false h16]; rfl)
    have g16 : decide ((16 : Int) < (n : Int)) = true := decide_eq_true (by omega)
    go_wp2_with (go_at_call 37; ((with_reducible refine (c1 _).mono ?_); rintro e w' ⟨rfl, hw⟩; subst w'))
    go_ret
    exact ⟨by rw [E.out]; rfl, HA.out.2.1⟩
set_option maxRecDepth 100000 in
set_option maxHeartbeats 2000000 in
theorem pPrint_x (nm vl : ByteArray) (L : Option Addr) (n c : Nat) (l : List PR) (w : World) (hR : Reads w w.heap.size 2 L n (encP l)) (hP : ∀ r ∈ l, POk w w.heap.size r) (hn : n ≤ c) (hc : c ≤ maxLen) (hsz : nm.size + psizes l + vl.size ≤ 1048576) (hf : Forms w) :
    Calls Tryd.prog 14 #[.agg #[.string nm, .slice L n c, .string vl]] w fun e w' => e = .returned (.string ⟨(prnL (proOf nm l vl)).toArray⟩) ∧ Below w.heap.size w w' := by
  have hb0 : Below w.heap.size w (w.alloc (.cells #[.string nm, .slice L n c, .string vl] 24)) := (Below.refl _ w).alloc (Nat.le_refl _) _
  have HA := Lib.hid (And.intro (PA.new hR hP hn hc nm vl) (And.intro hb0 (hf.step hb0)))
  have HSZ := Lib.hid hsz
  have cf := pFit_x nm vl L n c l _ HA.out.1.rd HA.out.1.vs hn hc hsz HA.out.2.2
  have HPN := Lib.hid (show prnL (proOf nm l vl) = if fitB (proOf nm l vl) = true then textL (proOf nm l vl) else [] from rfl)
  have HNE : Hid (fitB (proOf nm l vl) = true → ∀ r ∈ l, r.vs ≠ []) := Lib.hid fun hfit r hr e => by
    have hok := (fitB_iff _).1 hfit
    have := (hok.2.2.2.1 (parOf r) (List.mem_map_of_mem hr)).2.1
    unfold parOf at this
    rw [e] at this
    exact this rfl
  generalize fitB (proOf nm l vl) = F at *
  clear hR hP hn hc hsz hf hb0
  go_enter Tryd.func14, Tryd.ntmps14
  generalize hW : w.alloc (.cells #[.string nm, .slice L n c, .string vl] 24) = w1 at HA cf
  obtain ⟨x0, x1, x2⟩ := HA.out.1.bx.cells
  cases F
  · rw [if_neg (by decide)] at HPN
    go_wp2_with fail
    refine cf.mono ?_
    rintro e w2 ⟨rfl, hb2⟩
    have HB2 := Lib.hid (bstep HA.out.2.1 hb2)
    clear hb2 cf x0 x1 x2
    go_wp2
    go_ret
    exact ⟨by rw [HPN.out]; rfl, HB2.out⟩
  · rw [if_pos rfl] at HPN
    go_wp2_with fail
    refine cf.mono ?_
    rintro e w2 ⟨rfl, hb2⟩
    have HA2 := Lib.hid (And.intro (HA.out.1.step hb2) (bstep HA.out.2.1 hb2))
    clear hb2 cf hW HA x0 x1 x2
    obtain ⟨x0, x1, x2⟩ := HA2.out.1.bx.cells
    have ct := written_any nm vl L n c l w2 HA2.out.1.rd HA2.out.1.vs HA2.out.1.le HA2.out.1.cap HSZ.out (by first | exact HNE.out rfl | exact HNE.out trivial)
    go_wp2_with fail
    refine ct.mono ?_
    rintro e w3 ⟨rfl, hb3⟩
    have HB3 := Lib.hid (bstep HA2.out.2 hb3)
    clear hb3 ct x0 x1 x2
    go_wp2
    go_ret
    exact ⟨by rw [HPN.out]; rfl, HB3.out⟩
end Go.Proofs.YtipmeooldopkmaaDoor

/-
  The program's iterator over the pieces of a line.
-/
namespace Go.Proofs.YtipmeooldopkmaaDoor
open Go.RowKit Go.Shelf
attribute [local go_sem] Oper.semAt_some

/-- What is handed out: a piece with what stands ahead of it. -/
abbrev Piece := { x : ByteArray // x.size ≤ 100 }
abbrev encsP (x : Piece) : Array Value := #[.string x.1]
theorem pieF_end {f : Nat} {l ah : List UInt8} (hl : l.length ≤ f) (hc : cutL l (75 - ah.length) = l.length) : pieF f l ah = [ah ++ l] := by
  cases f with
  | zero => rfl
  | succ f => rw [pieF, if_pos hc]
theorem pieF_on {f : Nat} {l ah : List UInt8} (hl : l.length ≤ f) (hc : cutL l (75 - ah.length) ≠ l.length) (ha : ah.length ≤ 1) : ∃ f', (l.drop (cutL l (75 - ah.length))).length ≤ f' ∧ pieF f l ah = (ah ++ l.take (cutL l (75 - ah.length))) :: pieF f' (l.drop (cutL l (75 - ah.length))) [32] := by
  have hb : 75 - ah.length < l.length := by
    rcases Nat.lt_or_ge (75 - ah.length) l.length with h | h
    · exact h
    · exact absurd (cut_small h) hc
  obtain ⟨a1, a2, a3, a4⟩ := cut_big (l := l) (most := 75 - ah.length) (by omega) (by omega) hb
  cases f with
  | zero => omega
  | succ f => exact ⟨f, by rw [List.length_drop]; omega, by rw [pieF, if_neg hc]⟩
theorem cut_le (l : List UInt8) (most : Nat) (h1 : 4 ≤ most) (h2 : most ≤ 75) : cutL l most ≤ l.length ∧ cutL l most ≤ 75 := by
  by_cases h : l.length ≤ most
  · rw [cut_small h]; omega
  · have := cut_big (l := l) h1 h2 (by omega); omega
theorem pieF_len : ∀ (f : Nat) (l ah : List UInt8), l.length ≤ f → ah.length ≤ 1 → (pieF f l ah).length ≤ l.length + 1 ∧ ∀ x ∈ pieF f l ah, x.length ≤ 76
  | 0, l, ah, h1, h2 => by
    have : l = [] := List.eq_nil_of_length_eq_zero (by omega)
    subst this
    exact ⟨by simp [pieF], fun x hx => by simp [pieF] at hx; subst hx; omega⟩
  | f + 1, l, ah, h1, h2 => by
    rw [pieF]
    by_cases h : l.length ≤ 75 - ah.length
    · rw [if_pos (cut_small h)]
      exact ⟨by simp, fun x hx => by simp at hx; subst hx; simp; omega⟩
    · obtain ⟨a1, a2, a3, a4⟩ := cut_big (l := l) (most := 75 - ah.length) (by omega) (by omega) (by omega)
      rw [if_neg (by omega)]
      have ih := pieF_len f (l.drop (cutL l (75 - ah.length))) [32] (by simp; omega) (by simp)
      rw [List.length_drop] at ih
      refine ⟨by rw [List.length_cons]; omega, fun x hx => ?_⟩
      rcases List.mem_cons.1 hx with rfl | hx
      · simp; omega
      · exact ih.2 x hx
/-- What a round keeps: what lay below n₀, and the box of the line. -/
structure KpL (n₀ By : Nat) (A B : World) : Prop where
  below : Below n₀ A B
  box : B.heap[By]? = A.heap[By]?
theorem KpL.trans {n₀ By : Nat} {A B C : World} (h : KpL n₀ By A B) (k : KpL n₀ By B C) : KpL n₀ By A C := ⟨h.below.trans k.below, k.box.trans h.box⟩
theorem belowL_put {n₀ z l : Nat} (hn : n₀ ≤ z) (hl : z ≤ l) (W : World) (o o' : Obj) (ho : W.heap[l]? = some o) (_hc : o.isCells = false) : Below n₀ W (W.putObj l o') :=
  (Below.refl n₀ W).grown (grownBy_putObj' W l o') (by have := (Array.getElem?_eq_some_iff.1 ho).1; omega) fun j ej => by cases ej; omega
theorem kpL_put {n₀ By z : Nat} (hn : n₀ ≤ z) (hs : By < z) (W : World) (l : Nat) (o o' : Obj) (hl : z ≤ l) (ho : W.heap[l]? = some o) (hc : o.isCells = false) (_hw : o.isWalk = false) : KpL n₀ By W (W.putObj l o') :=
  ⟨(Below.refl n₀ W).trans (belowL_put hn hl W o o' ho hc), World.putObj_heap_other (by omega)⟩
theorem grown_below {W W' : World} (h : Below W.heap.size W W') : W.grownBy W' none := ⟨h.os, h.tape, h.output, h.size, fun k hk _ => h.block k hk⟩

set_option maxRecDepth 100000 in
set_option maxHeartbeats 4000000 in
theorem pie1_in {Wb : World} (n : Nat) (hn : 1 ≤ n) (l By n₀ : Nat) (s : ByteArray) (hs : s.size ≤ 1048576) (J Jx : List Piece → World → Prop) (hJ : AbidesFrom Wb.heap.size J)
    (hY : ∀ (pre : List Piece) (i : Piece) (W : World), J pre W → pre.length < (pieL s.data.toList).length → YieldAt Fence.wide (n - 1) Tryd.prog l (encsP i) W fun e W' =>
      (e = .returned (.bool true) ∧ J (pre ++ [i]) W' ∧ KpL n₀ By W W') ∨ (e = .returned (.bool false) ∧ Jx (pre ++ [i]) W'))
    (hBy : Wb.cell? ⟨By, 0, none⟩ = some (.string s)) (hlt : By < Wb.heap.size) (h0 : J [] Wb) :
    CallsIn Fence.wide n Tryd.prog 63 #[.func (.yield l) #[] #[], .pointer (some ⟨By, 0, none⟩)] Wb fun e W' => (∃ v, e = .returned v) ∧
      ((∃ ys : List Piece, (ys.map fun x => x.1.data.toList) = pieL s.data.toList ∧ J ys W') ∨ (∃ pre : List Piece, True ∧ Jx pre W')) := by
  refine callsIn_of_wp Tryd.func63 rfl trivial ?_ rfl
  simp only [Tryd.ntmps63, List.size_toArray, List.length_cons, List.length_nil, Nat.reduceAdd, Nat.reduceSub, Array.replicate_succ, Array.replicate_zero, List.push_toArray, List.append_toArray, List.nil_append, List.cons_append]
  have hlen := Lib.hid (bsize s)
  gi_wp2
  gi_loopw [3, 4] (fun a p wr => ∃ (ah : ByteArray) (k f : Nat) (pre : List Piece), a = .string ah ∧ p = .int .i64 k ∧ ah.size ≤ 1 ∧ k ≤ s.size ∧ J pre wr ∧ wr.cell? ⟨By, 0, none⟩ = some (.string s) ∧ By < wr.heap.size ∧ s.size ≤ k + f ∧
    Hid ((pre.map fun x => x.1.data.toList) ++ pieF f (s.data.toList.drop k) ah.data.toList = pieL s.data.toList)) (fun _ p _ => s.size - (intOf p).toNat)
  case atStart => exact ⟨⟨#[]⟩, 0, s.size, [], rfl, rfl, by decide, Nat.zero_le _, h0, hBy, hlt, by omega, Lib.hid (by show [] ++ pieF s.size (s.data.toList.drop 0) [] = _; rw [List.drop_zero, hlen.out]; rfl)⟩
  case round =>
    obtain ⟨ah, k, f, pre, rfl, rfl, ha, hk, hJ1, hc, hBl, hf, HP⟩ := hrel
    have hm : (75 : Int) - (ah.size : Int) = ((75 - ah.size : Nat) : Int) := by omega
    have hxd : (s.extract k s.size).data.toList = s.data.toList.drop k := by
      rw [ByteArray.data_extract]
      simp [List.take_of_length_le]
    have hxs : (s.extract k s.size).size = s.size - k := by rw [bsize, hxd, List.length_drop, ← hlen.out]
    have ct := fun W => firstCut_any (s.extract k s.size) (by omega) (75 - ah.size) (by omega) W
    rw [hxd] at ct
    have hcl := cut_le (s.data.toList.drop k) (75 - ah.size) (by omega) (by omega)
    rw [List.length_drop, ← hlen.out] at hcl
    obtain ⟨K, hK⟩ : ∃ K, K = cutL (s.data.toList.drop k) (75 - ah.size) := ⟨_, rfl⟩
    rw [← hK] at ct hcl
    have HK := Lib.hid hK
    have hki : (k : Int) ≤ (s.size : Int) := by omega
    clear hK hxd hxs
    gi_wp2_with fail
    refine ⟨trivial, (callsIn_wide.2 (ct _)).mono ?_⟩
    rintro e w5 ⟨rfl, hb5⟩
    have J5 := hJ pre wr w5 none hJ1 (grown_below hb5) (fun r e => by cases e)
    have hc5 := (hb5.cell (p := ⟨By, 0, none⟩) hBl).trans hc
    have hB5 : By < w5.heap.size := Nat.lt_of_lt_of_le hBl hb5.size
    have hxd : (s.extract k (k + K)).data.toList = (s.data.toList.drop k).take K := by
      rw [ByteArray.data_extract]
      simp []
    have hxs : (s.extract k (k + K)).size = K := by rw [bsize, hxd, List.length_take, List.length_drop, ← hlen.out]; omega
    have hx100 : (ah ++ s.extract k (k + K)).size ≤ 100 := by rw [ByteArray.size_append, hxs]; omega
    have hals : ah.data.toList.length = ah.size := (bsize ah).symm
    have hlN : pre.length < (pieL s.data.toList).length := by
      have := congrArg List.length HP.out
      rw [List.length_append, List.length_map] at this
      have h2 : 0 < (pieF f (s.data.toList.drop k) ah.data.toList).length := by
        cases f <;> simp only [pieF] <;> (try split) <;> simp
      omega
    obtain ⟨fn, tmps, assign, body, hy, hR⟩ := hY pre ⟨ah ++ s.extract k (k + K), hx100⟩ w5 J5 hlN
    dsimp only [encsP] at hy
    have HR := Lib.hid hR
    have HXD := Lib.hid (show (ah ++ s.extract k (k + K)).data.toList = ah.data.toList ++ (s.data.toList.drop k).take K by rw [← hxd]; simp)
    have no1 : ¬ 9223372036854775807 < ah.size + (s.extract k (k + K)).size := by rw [hxs]; omega
    have hkK : k + K ≤ s.size := by omega
    obtain ⟨X, hX⟩ : ∃ X : Piece, (⟨ah ++ s.extract k (k + K), hx100⟩ : Piece) = X := ⟨_, rfl⟩
    rw [hX] at HR
    have HXV := Lib.hid (show X.1 = ah ++ s.extract k (k + K) by rw [← hX])
    clear hR J5 hJ1 hb5 ct hm hc hBl hxs hxd hlN hX
    by_cases hq : k + K = s.size
    · have HF := Lib.hid (pieF_end (f := f) (l := s.data.toList.drop k) (ah := ah.data.toList) (by rw [List.length_drop, ← hlen.out]; omega) (by rw [hals, ← HK.out, List.length_drop, ← hlen.out]; omega))
      have qb : (((k : Int) + (K : Int)) == (s.size : Int)) = true := by rw [beq_iff_eq]; omega
      have HQ := Lib.hid hq
      clear hq
      gi_wp2
      refine HR.out.mono ?_
      rintro e W3 (⟨rfl, hJ3, hk3⟩ | ⟨rfl, hJx3⟩)
      · have hc3 := (World.cell?_of_block (a := ⟨By, 0, none⟩) hk3.box).trans hc5
        have HJ := Lib.hid hJ3
        clear hJ3 hk3 hc5
        gi_wp2
        refine bodyPost_ret (results_none rfl _ _ _) rfl ?_
        refine ⟨⟨_, rfl⟩, .inl ⟨pre ++ [X], ?_, HJ.out⟩⟩
        rw [List.map_append, List.map_cons, List.map_nil, HXV.out, HXD.out, List.take_of_length_le (by rw [List.length_drop, ← hlen.out]; have := HQ.out; omega), ← HP.out, HF.out]
      · clear hc5
        gi_wp2
        refine bodyPost_ret (results_none rfl _ _ _) rfl ?_
        exact ⟨⟨_, rfl⟩, .inr ⟨_, trivial, hJx3⟩⟩
    · obtain ⟨f', hf', hF⟩ := pieF_on (f := f) (l := s.data.toList.drop k) (ah := ah.data.toList) (by rw [List.length_drop, ← hlen.out]; omega) (by rw [hals, ← HK.out, List.length_drop, ← hlen.out]; omega) (by omega)
      have hK0 : 0 < K := by
        have := (cut_big (l := s.data.toList.drop k) (most := 75 - ah.size) (by omega) (by omega) (by
          rcases Nat.lt_or_ge (75 - ah.size) (s.data.toList.drop k).length with h | h
          · exact h
          · have := cut_small h
            rw [← HK.out, List.length_drop, ← hlen.out] at this
            omega)).1
        rw [← HK.out] at this
        exact this
      rw [hals, ← HK.out] at hf' hF
      rw [List.drop_drop] at hf' hF
      have HF := Lib.hid hF
      have hf2 : s.size ≤ k + K + f' := by rw [List.length_drop, ← hlen.out] at hf'; omega
      have qb : (((k : Int) + (K : Int)) == (s.size : Int)) = false := by rw [beq_eq_false_iff_ne]; omega
      clear hq hF hf'
      gi_wp2
      refine HR.out.mono ?_
      rintro e W3 (⟨rfl, hJ3, hk3⟩ | ⟨rfl, hJx3⟩)
      · have hc3 := (World.cell?_of_block (a := ⟨By, 0, none⟩) hk3.box).trans hc5
        have hB3 : By < W3.heap.size := Nat.lt_of_lt_of_le hB5 hk3.below.size
        have HJ := Lib.hid hJ3
        clear hJ3 hk3 hc5
        gi_wp2
        go_roundw
        case rel =>
          refine ⟨⟨#[32]⟩, k + K, f', pre ++ [X], rfl, by go_num, by decide, hkK, HJ.out, hc3, hB3, hf2, Lib.hid ?_⟩
          rw [List.map_append, List.map_cons, List.map_nil, HXV.out, HXD.out, ← HP.out, HF.out]
          simp
        case measure => simp [intOf]; omega
      · clear hc5
        gi_wp2
        refine bodyPost_ret (results_none rfl _ _ _) rfl ?_
        exact ⟨⟨_, rfl⟩, .inr ⟨_, trivial, hJx3⟩⟩
set_option maxHeartbeats 1000000 in
theorem pieFn_in (n : Nat) (s : ByteArray) (w : World) :
    CallsIn Fence.wide n Tryd.prog 47 #[.string s] w fun e w' => e = .returned (.func (.func 63) #[] #[.pointer (some ⟨w.heap.size, 0, none⟩)]) ∧ w' = w.alloc (.cells #[.string s] 9) := by
  refine callsIn_of_wp Tryd.func47 rfl trivial ?_ rfl
  simp only [Tryd.ntmps47, List.size_toArray, List.length_cons, List.length_nil, Nat.reduceAdd, Nat.reduceSub, Array.replicate_succ, Array.replicate_zero, List.push_toArray, List.append_toArray, List.nil_append, List.cons_append]
  gi_wp2
  go_ret
  exact ⟨rfl, rfl⟩
theorem pie_stops (n : Nat) (hn : 1 ≤ n) (By n₀ : Nat) (s : ByteArray) (hs : s.size ≤ 1048576) (w : World) (hlt : By < w.heap.size) (hBy : w.cell? ⟨By, 0, none⟩ = some (.string s)) :
    SeqStopsK Fence.wide n Tryd.prog 63 #[.pointer (some ⟨By, 0, none⟩)] encsP (KpL n₀ By) (fun ys => (ys.map fun x => x.1.data.toList) = pieL s.data.toList) (fun _ => True) (pieL s.data.toList).length w := fun l J Jx _W hW hJ _ hY h0 =>
  pie1_in n hn l By n₀ s hs J Jx hJ hY ((hW.cell (p := ⟨By, 0, none⟩) hlt).trans hBy) (Nat.lt_of_lt_of_le hlt hW.size) h0
end Go.Proofs.YtipmeooldopkmaaDoor
