/-
  The document's own answers of layer 11: Parse.
-/
import Derived.Test.YtipmeooldopkmaaDoorL01
import Derived.Deep.DeepCutAuto
import Derived.Deep.LoopGhost
import Derived.Deep.MidRow
import Derived.Test.YtipmeooldopkmaaDoorL10
import Derived.Test.YtipmeooldopkmaaDoorL05
import Derived.Test.YtipmeooldopkmaaDoorL07
namespace Go.Proofs.YtipmeooldopkmaaDoor
open Go.RowKit

theorem infoP : (Tryd.prog.info? 57).map (fun i => (i.zero, i.size, i.bytes)) = some (some (.agg #[.string ⟨#[]⟩, .slice none 0 0]), 2, 40) := by kernel_rfl

set_option maxRecDepth 100000 in
set_option maxHeartbeats 8000000 in
theorem refParse_any (s : ByteArray) (hs : s.size ≤ 1024) (hv : vld s.data.toList = true) (w : World) :
    Calls Tryd.prog 7 #[.string s] w fun e w' => ∃ (nm vl : ByteArray) (L : Option Addr) (n c : Nat) (l : List PR), e = .returned (.tuple #[.agg #[.string nm, .slice L n c, .string vl], .int .i64 (parL s.data.toList).2]) ∧
      (parL s.data.toList).1 = ⟨nm.data.toList, l.map parOf, vl.data.toList⟩ ∧ Reads w' w'.heap.size 2 L n (encP l) ∧ (∀ r ∈ l, POk w' w'.heap.size r) ∧ n ≤ c ∧ c ≤ maxLen ∧ Below w.heap.size w w' := by
  have hmx : Tryd.prog.follows .mixedOrders = true := by kernel_rfl
  obtain ⟨i0, hi0, hz0, hz1, hz2⟩ := info_parts infoS
  obtain ⟨j0, hj0, hy0, hy1, hy2⟩ := info_parts infoP
  have cv := fun W => refValid_any s (by omega) W
  rw [hv] at cv
  have HLN := Lib.hid (bsize s)
  have hlong : ¬ 1024 < s.size := by omega
  go_enter Tryd.func7, Tryd.ntmps7
  go_wp2_with (go_at_call 27; ((with_reducible refine (cv _).mono ?_); rintro e w' ⟨rfl, hw⟩; subst w'))
  have R0 : R3 ((w.alloc (.cells #[.string ⟨#[]⟩, .slice none 0 0, .string ⟨#[]⟩] 24)).alloc (.cells #[.string s, .int .i64 0, .int .i64 0] 53)) (w.heap.size + 1) s ((0 : Nat) : Int) 0 := by
    have := R3.new (w.alloc (.cells #[.string ⟨#[]⟩, .slice none 0 0, .string ⟨#[]⟩] 24)) s 0 0
    simpa using this
  have Q0 : P3 ((w.alloc (.cells #[.string ⟨#[]⟩, .slice none 0 0, .string ⟨#[]⟩] 24)).alloc (.cells #[.string s, .int .i64 0, .int .i64 0] 53)) w.heap.size ⟨#[]⟩ ⟨#[]⟩ none 0 0 :=
    (P3.new w ⟨#[]⟩ ⟨#[]⟩ none 0 0).step ((Below.refl _ _).alloc (Nat.le_refl _) _)
  have B0 : Below w.heap.size w ((w.alloc (.cells #[.string ⟨#[]⟩, .slice none 0 0, .string ⟨#[]⟩] 24)).alloc (.cells #[.string s, .int .i64 0, .int .i64 0] 53)) := ((Below.refl _ w).alloc (Nat.le_refl _) _).alloc (by simp) _
  refine (refName_any (Nat.zero_le _) (by omega) _ R0).mono ?_
  rintro e w1 ⟨nm, q1, e1, rfl, hb1, hr1, _, hq1, hns⟩
  have X1 : Xs s nm w.heap.size (w.heap.size + 1) w1.heap.size w (w1.alloc (.cells #[.string nm, .slice none 0 0, .string ⟨#[]⟩] 24)) q1 e1 none 0 0 [] := by
    have hsz := hb1.size
    simp at hsz
    have q2 : P3 w1 w.heap.size ⟨#[]⟩ ⟨#[]⟩ none 0 0 := (hb1.block _ (by simp; omega) (by omega)).trans Q0
    have ha : Below w1.heap.size w1 (w1.alloc (.cells #[.string nm, .slice none 0 0, .string ⟨#[]⟩] 24)) := (Below.refl _ _).alloc (Nat.le_refl _) _
    exact ⟨hr1.step ha, P3.new w1 nm ⟨#[]⟩ none 0 0, q2.step ha, own_nil, (fun r hr => by cases hr), ⟨by omega, by omega, by omega⟩, (B0.trans (hb1.to_below (by omega) (by simp; omega))).trans (ha.mono (by omega))⟩
  have HX := Lib.hid (And.intro X1 (S1.start s q1 e1))
  have HNS := Lib.hid hns
  generalize hT : tgt s q1 e1 = T at HX
  have HT := Lib.hid hT
  clear hT X1 R0 Q0 B0 hb1 hr1 hns
  go_wp2_with fail
  go_loopg [] (s.size + 2) (fun m wr => ∃ (q : Nat) (e : Int) (L : Option Addr) (n c : Nat) (l : List PR), (e = 0 → s.size + 1 - q ≤ m) ∧ n ≤ 17 ∧ q ≤ s.size + 1 ∧ Hid (Xs s nm w.heap.size (w.heap.size + 1) w1.heap.size w wr q e L n c l ∧ S1 s T q e l))
  case atStart => exact ⟨q1, e1, none, 0, 0, [], fun _ => by omega, by omega, by omega, HX⟩
  case round =>
    clear HX
    obtain ⟨q, e, L, n, c, l, hm, hn17, hqs1, J⟩ := hrel
    obtain ⟨m0, rfl⟩ : ∃ m0, m0 = gk := ⟨gk, rfl⟩
    have ci := refIs_any 59 wr J.out.1.rd
    cases hq : isV s q e 59
    · rw [hq] at ci
      have HPE := Lib.hid (par_end hs hv HNS.out (by rw [HT.out]; exact J.out.2) hq)
      clear hq
      go_wp2_with fail
      refine ci.mono ?_
      rintro e' w2 ⟨rfl, hb2⟩
      have X2 := Lib.hid (J.out.1.below hb2)
      clear ci hb2 J
      go_wp2_with fail
      refine (refIs_any 58 w2 X2.out.rd).mono ?_
      rintro e' w3 ⟨rfl, hb3⟩
      have X3 := Lib.hid (X2.out.below hb3)
      clear hb3 X2
      obtain ⟨bi, hbi⟩ : ∃ b, isV s q e 58 = b := ⟨_, rfl⟩
      rw [hbi]
      have HBI := Lib.hid hbi
      clear hbi
      go_upto_if 88 with fail
      go_cut [] (fun wc => ∃ e6 : Int, ((e6 = 0 ∧ e = 0 ∧ q < s.size ∧ (s.data.toList.drop q).head? = some 58) ∨ (e6 ≠ 0 ∧ parL s.data.toList = (noPro, e6))) ∧ Hid (Xs s nm w.heap.size (w.heap.size + 1) w1.heap.size w wc q e6 L n c l))
      case first =>
        cases bi
        · go_wp2_with fail
          refine (refNone_any w3 X3.out.rd).mono ?_
          rintro e' w4 ⟨rfl, hb4, hr4⟩
          have X4 := Lib.hid (X3.out.but hb4 hr4)
          clear hb4 hr4
          have h6 : keepE e (eoE (s.data.toList.drop q)) ≠ 0 ∧ parL s.data.toList = (noPro, keepE e (eoE (s.data.toList.drop q))) := by
            by_cases he : e = 0
            · subst he
              rw [keepE_zero]
              have h2 := HPE.out.2 rfl
              rw [if_neg (isV_false HBI.out)] at h2
              exact ⟨eoE_pos _, h2⟩
            · rw [keepE_ne he]
              exact ⟨he, HPE.out.1 he⟩
          have H6 := Lib.hid h6
          clear h6
          go_wp2_with fail
          go_meet
          case rel => exact ⟨_, .inr H6.out, X4⟩
        · have h1 := isV_iff.1 HBI.out
          have h2 := isV_lt HBI.out
          have H6 : Hid (e = 0 ∧ q < s.size ∧ (s.data.toList.drop q).head? = some 58) := Lib.hid ⟨h2.1, h2.2, h1.2⟩
          clear h1 h2
          go_wp2_with fail
          go_meet
          case rel => exact ⟨e, .inl ⟨H6.out.1, H6.out⟩, X3⟩
      case rest =>
        obtain ⟨e6, h6, X6⟩ := hcut
        clear X3 HBI
        have X7 := Lib.hid (X6.out.but (q' := q + 1) (e' := e6) (ButL.set wc (w.heap.size + 1) 1 (.int .i64 ((q : Int) + 1))) (X6.out.rd.at_ ((q : Int) + 1)))
        obtain ⟨c0, c1, c2, cf⟩ := X6.out.rd.cells
        have H6 := Lib.hid h6
        clear h6
        go_upto_region 24 with fail
        clear c0 c1 c2 cf X6
        generalize wc.setCell ⟨w.heap.size + 1, 1, none⟩ (.int .i64 ((q : Int) + 1)) = we at X7 ⊢
        obtain ⟨c0, c1, c2, cf⟩ := X7.out.rd.cells
        obtain ⟨r0, r1, r2⟩ := X7.out.res.cells
        by_cases he6 : e6 = 0
        · subst he6
          have hgd : e = 0 ∧ q < s.size ∧ (s.data.toList.drop q).head? = some 58 := by
            rcases H6.out with h | h
            · exact h.2
            · exact absurd rfl h.1
          have HP := HPE.out.2 hgd.1
          rw [if_pos hgd.2.2] at HP
          have hlt := hgd.2.1
          have HPP := Lib.hid HP
          clear HP hgd hm
          obtain ⟨p0, p1, p2⟩ := X7.out.pv.cells
          have pf := fun o => X7.out.pv.frozen o
          obtain ⟨vl, hvl⟩ : ∃ vl, vl = s.extract (q + 1) s.size := ⟨_, rfl⟩
          have hvs : vl.size ≤ 1024 := by rw [hvl, ByteArray.size_extract]; omega
          have HVL : Hid (vl.data.toList = s.data.toList.drop (q + 1)) := Lib.hid (by
            rw [hvl, ByteArray.data_extract, Array.toList_extract, List.extract_eq_take_drop]
            exact List.take_of_length_le (by rw [List.length_drop, ← bsize]; exact Nat.le_refl _))
          have XF := Lib.hid (X7.out.val vl)
          rw [hvl] at XF
          rw [← HVL.out] at HPP
          go_wp2_with fail
          clear p0 p1 p2 pf c0 c1 c2 cf r0 r1 r2
          generalize s.extract (q + 1) s.size = vl2 at XF hvl ⊢
          subst hvl
          generalize we.setCell ⟨w1.heap.size, 2, none⟩ (.string vl) = wL at XF ⊢
          clear X7 HPE H6
          go_loopw [7] (fun p wx => ∃ i : Nat, p = .int .i64 i ∧ i ≤ vl.size ∧ wx = wL ∧ Hid (∀ j, (hj : j < vl.size) → j < i → ctlN vl[j].toNat = false)) (fun p _ => vl.size - (intOf p).toNat)
          case atStart => exact ⟨0, rfl, Nat.zero_le _, rfl, Lib.hid (fun j hj h => absurd h (Nat.not_lt_zero _))⟩
          case round =>
            obtain ⟨i, rfl, hi, rfl, HN⟩ := hrel
            obtain ⟨p0, p1, p2⟩ := XF.out.pv.cells
            by_cases hil : i < vl.size
            · have hil2 : (i : Int) < (vl.size : Int) := by omega
              have hcb := vl[i].toNat_lt
              have cc := refControl_any vl[i].toNat hcb
              cases hct : ctlN vl[i].toNat
              · rw [hct] at cc
                have HN2 : Hid (∀ j, (hj : j < vl.size) → j < i + 1 → ctlN vl[j].toNat = false) := Lib.hid (fun j hj h => by
                  rcases Nat.lt_or_ge j i with h2 | h2
                  · exact HN.out j hj h2
                  · obtain rfl : j = i := by omega
                    exact hct)
                clear hct
                go_wp2_with (go_at_call 33; ((with_reducible refine (cc _).mono ?_); rintro e' w' ⟨rfl, hw⟩; subst w'))
                go_round
                case rel => exact ⟨i + 1, by go_num, by omega, by first | rfl | trivial, HN2⟩
                case measure => simp [intOf]; omega
              · rw [hct] at cc
                have HP : Hid (parL s.data.toList = (noPro, 10)) := Lib.hid (by rw [HPP.out, if_neg (not_all_ctl hil hct)])
                clear hct HN
                obtain ⟨r0, r1, r2⟩ := XF.out.res.cells
                have rf := fun o => XF.out.res.frozen o
                have XZ := Lib.hid (XF.out.zero)
                go_wp2_with (go_at_call 33; ((with_reducible refine (cc _).mono ?_); rintro e' w' ⟨rfl, hw⟩; subst w'))
                refine bodyPost_ret (results_two rfl _ rfl rfl (load_prop XZ.out.1)) rfl ?_
                exact ⟨⟨#[]⟩, ⟨#[]⟩, none, 0, 0, [], by rw [HP.out]; rfl, by rw [HP.out]; rfl, Reads.nil, (fun r hr => by cases hr), Nat.le_refl _, by unfold maxLen; omega, XZ.out.2⟩
            · obtain rfl : i = vl.size := by omega
              have HP : Hid (parL s.data.toList = (⟨nm.data.toList, l.map parOf, vl.data.toList⟩, 0)) := Lib.hid (by rw [HPP.out, if_pos (all_ctl (fun j hj => HN.out j hj hj))])
              obtain ⟨r0, r1, r2⟩ := XF.out.res.cells
              have rf := fun o => XF.out.res.frozen o
              have XZ := Lib.hid (XF.out.fin)
              clear HN
              go_wp2_with fail
              refine bodyPost_ret (results_two rfl _ rfl rfl (load_prop XZ.out.1)) rfl ?_
              exact ⟨nm, vl, L, n, c, l, by rw [HP.out]; rfl, by rw [HP.out], XZ.out.2⟩
        · have hb : (e6 != 0) = true := by rw [bne_iff_ne]; exact he6
          have HP : Hid (parL s.data.toList = (noPro, e6)) := Lib.hid (H6.out.resolve_left (fun h => he6 h.1)).2
          clear he6
          go_wp2_with fail
          refine region_heldL (C := CF w w.heap.size (w.heap.size + 1) e6) hmx (by kernel_rfl) X7.out.cf ?_
          repeat (first
            | go_big_quiet_skip
            | (go_big_quiet_want; go_big_quiet_op; first
                | go_big_quiet_on
                | (refine ⟨_, fun _ _ => rfl, ?_⟩; go_big_quiet_on)
                | (apply Exists.intro
                   refine ⟨fun w5 hw5 => ?_, ?_⟩
                   · (rw [hw5.c2]; exact ⟨rfl, rfl⟩)
                   go_big_quiet_on)))
          go_big_quiet_want
          go_big_quiet_op
          refine ⟨undef, fun w5 hw5 => ?_, ?_⟩
          · have r := hw5.res
            obtain ⟨a0, a1, a2⟩ := r.cells
            have f := fun o => r.frozen o
            unfold P3 at r
            have e0 := set_same (i := 0) (v := .string ⟨#[]⟩) r rfl
            have e1 := set_same (i := 1) (v := .slice none 0 0) r rfl
            have e2 := set_same (i := 2) (v := .string ⟨#[]⟩) r rfl
            simp only [a0, a1, a2, f, e0, e1, e2, Bool.false_eq_true, if_false, Result.andThen_ok]
            first | exact ⟨rfl, rfl⟩ | simp
          go_big_quiet_on
          repeat (first
            | go_big_quiet_skip
            | (go_big_quiet_want; go_big_quiet_op; first
                | go_big_quiet_on
                | (refine ⟨_, fun _ _ => rfl, ?_⟩; go_big_quiet_on)))
          refine wpQuiet_nil ?_
          intro w7 hw7
          go_wp2_with fail
          refine bodyPost_ret (results_two rfl _ rfl rfl (load_prop hw7.res)) rfl ?_
          exact ⟨⟨#[]⟩, ⟨#[]⟩, none, 0, 0, [], by rw [HP.out]; rfl, by rw [HP.out]; rfl, Reads.nil, (fun r hr => by cases hr), Nat.le_refl _, by unfold maxLen; omega, hw7.bel⟩
    · rw [hq] at ci
      have HQ := Lib.hid hq
      obtain ⟨rfl, hlt⟩ := isV_lt hq
      have hm := hm rfl
      clear hq
      go_wp2_with fail
      refine ci.mono ?_
      rintro e' w2 ⟨rfl, hb2⟩
      have X2 := Lib.hid (J.out.1.below hb2)
      have HS := Lib.hid J.out.2
      clear ci hb2 J
      obtain ⟨p0, p1, p2⟩ := X2.out.pv.cells
      go_upto_if 27 with fail
      have hln := X2.out.len
      go_cut [] (fun wc => ∃ e5 : Int, ((e5 = 0 ∧ l.length ≠ 16) ∨ (e5 = 27 ∧ l.length = 16)) ∧ Hid (Xs s nm w.heap.size (w.heap.size + 1) w1.heap.size w wc q e5 L n c l))
      case first =>
        by_cases h16 : n = 16
        · have hb : ((n : Int) == 16) = true := by rw [h16]; rfl
          have hl16 : l.length = 16 := by omega
          go_wp2_with fail
          refine (refFail_any 27 w2 X2.out.rd).mono ?_
          rintro e' w3 ⟨rfl, hb3, hr3⟩
          have X3 := Lib.hid (X2.out.but hb3 hr3)
          clear hb3 hr3 p0 p1 p2
          go_wp2_with fail
          go_meet
          case rel => exact ⟨27, .inr ⟨rfl, hl16⟩, X3⟩
        · have hb : ((n : Int) == 16) = false := by rw [beq_eq_false_iff_ne]; omega
          have hl16 : l.length ≠ 16 := by omega
          go_wp2_with fail
          go_meet
          case rel => exact ⟨0, .inl ⟨rfl, hl16⟩, X2⟩
      case rest =>
        obtain ⟨e5, he5, XC⟩ := hcut
        clear X2 p0 p1 p2
        have HE5 := Lib.hid he5
        clear he5
        obtain ⟨c0, c1, c2, cf⟩ := XC.out.rd.cells
        go_wp2_with fail
        have XD := Lib.hid (XC.out.but (q' := q + 1) (e' := e5) (ButL.set wc (w.heap.size + 1) 1 (.int .i64 ((q : Int) + 1))) (XC.out.rd.at_ ((q : Int) + 1)))
        clear c0 c1 c2 cf XC
        refine (refName_any (p := q + 1) (by omega) (by omega) _ XD.out.rd).mono ?_
        rintro e' w3 ⟨nx, q2, e2, rfl, hb3, hr3, hpq, hqs, hns2⟩
        have X3 := Lib.hid (XD.out.but hb3 hr3)
        have HS2 := Lib.hid (S2.of HE5.out hns2)
        clear hb3 hr3 hns2 XD HE5
        go_wp2_with fail
        have I4 : Hid (Xi s nx (w.heap.size + 1) w3.heap.size w3 (w3.alloc (.cells #[.string nx, .slice none 0 0] 57)) q2 e2 none 0 0 []) := Lib.hid
          ⟨ButL.of_below ((Below.refl _ _).alloc (Nat.le_refl _) _) _, X3.out.rd.step ((Below.refl _ _).alloc (Nat.le_refl _) _), heap_alloc_new w3 _, own_nil, Nat.le_refl _, X3.out.rd.lt⟩
        generalize w3.alloc (.cells #[.string nx, .slice none 0 0] 57) = w4 at I4 ⊢
        have ci := refIs_any 61 w4 I4.out.rd
        refine ci.mono ?_
        rintro e' w5 ⟨rfl, hb5⟩
        have I5 := Lib.hid (I4.out.below hb5)
        clear ci hb5 I4
        obtain ⟨bi, hbi⟩ : ∃ b, isV s q2 e2 61 = b := ⟨_, rfl⟩
        rw [hbi]
        have HBI := Lib.hid hbi
        clear hbi
        go_upto_if 42 with fail
        go_cut [] (fun wd => ∃ e3 : Int, Hid (Xi s nx (w.heap.size + 1) w3.heap.size w3 wd q2 e3 none 0 0 [] ∧ S2b s (parG s q l) nx q2 e3))
        case first =>
          cases bi
          · go_wp2_with fail
            refine (refNone_any w5 I5.out.rd).mono ?_
            rintro e' w6 ⟨rfl, hb6, hr6⟩
            have I6 := Lib.hid (And.intro (I5.out.on hb6 hr6) (HS2.out.isnt HBI.out))
            clear hb6 hr6
            go_wp2_with fail
            go_meet
            case rel => exact ⟨_, I6⟩
          · have I6 := Lib.hid (And.intro I5.out (HS2.out.is HBI.out))
            go_wp2_with fail
            go_meet
            case rel => exact ⟨_, I6⟩
        case rest =>
          obtain ⟨e3, I6⟩ := hcut
          clear I5 HBI HS2
          obtain ⟨c0, c1, c2, cf⟩ := I6.out.1.rd.cells
          have I7 := Lib.hid (I6.out.1.on (q' := q2 + 1) (e' := e3) (ButL.set wc (w.heap.size + 1) 1 (.int .i64 ((q2 : Int) + 1))) (I6.out.1.rd.at_ ((q2 : Int) + 1)))
          have HB := Lib.hid I6.out.2
          go_upto_region 15 with fail
          clear c0 c1 c2 cf I6
          generalize wc.setCell ⟨w.heap.size + 1, 1, none⟩ (.int .i64 ((q2 : Int) + 1)) = we at I7 ⊢
          obtain ⟨c0, c1, c2, cf⟩ := I7.out.rd.cells
          go_upto_if 56 with fail
          clear c0 c1 c2 cf
          go_cut [] (fun wf => ∃ (q4 : Nat) (e4 : Int) (A : Option Addr) (k kc : Nat) (vs : List ByteArray), (e4 = 0 → q + 1 ≤ q4 ∧ q4 ≤ s.size ∧ k + (s.size - q4) ≤ s.size + 1) ∧ k ≤ s.size + 2 ∧ q4 ≤ s.size + 1 ∧ Hid (Xi s nx (w.heap.size + 1) w3.heap.size w3 wf q4 e4 A k kc vs ∧ S3 s (parG s q l) nx q4 e4 vs))
          case first =>
            by_cases he3 : e3 = 0
            · subst he3
              have hlt2 := (HB.out.1 rfl).1
              go_wp2_with fail
              refine wp_region_till (fun w' => w'.cell? ⟨w3.heap.size, 1, none⟩ = some (.slice none 0 0)) 7 8 hmx (by kernel_rfl) ?_
              have XR := Lib.hid (I7.out.below ((Below.refl _ _).drew))
              have HS := XR.out.cells.2.1
              refine till_take (i := 0) _ (.pointer (some ⟨w3.heap.size, 1, none⟩)) [0] rfl (by kernel_rfl) (by kernel_rfl) (by kernel_rfl) (by kernel_rfl) (fun _ _ _ h => h) (.inl ⟨by rfl, fun w' hS => ?_⟩) HS ?_
              · go_simp
              try simp only [Act.put, List.setIfInBounds_toArray]
              refine till_take (i := 1) _ (.slice none 0 0) [1] rfl (by kernel_rfl) (by kernel_rfl) (by kernel_rfl) (by kernel_rfl) (fun _ _ _ h => h) (.inl ⟨by rfl, fun w' hS => ?_⟩) HS ?_
              · go_simp
              try simp only [Act.put]
              refine till_take (i := 2) _ (.pointer (some ⟨w.heap.size + 1, 0, none⟩)) [2] rfl (by kernel_rfl) (by kernel_rfl) (by kernel_rfl) (by kernel_rfl) (fun _ _ _ h => h) (.inl ⟨by rfl, fun w' hS => ?_⟩) HS ?_
              · go_simp
              try simp only [Act.put]
              refine till_one (i := 3) _ (by kernel_rfl) rfl rfl (fun K hK => ?_)
              go_simp
              refine (refValue_any (p := q2 + 1) (by omega) (by omega) _ XR.out.rd).mono ?_
              rintro e' w5 ⟨v, q4, e4, rfl, hb5, hr5, hq5, hvs⟩
              have X5 := Lib.hid (XR.out.on hb5 hr5)
              have HVS := Lib.hid hvs
              clear HS hb5 hr5 hvs XR
              have HS := X5.out.cells.2.1
              refine hK.out _ _ (fun _ _ => HS) ?_
              try simp only [Act.put, List.setIfInBounds_toArray, List.set_cons_zero, List.set_cons_succ]
              clear hK K
              refine till_one (i := 4) _ (by kernel_rfl) rfl rfl (fun K hK => ?_)
              go_simp
              have X6 := Lib.hid (X5.out.below ((Below.refl _ _).alloc (Nat.le_refl _) (.cells #[.string v] 9)))
              refine hK.out _ _ (fun _ _ => X6.out.cells.2.1) ?_
              try simp only [Act.put, List.setIfInBounds_toArray, List.set_cons_zero, List.set_cons_succ]
              clear hK K
              refine till_one (i := 5) _ (by kernel_rfl) rfl rfl (fun K hK => ?_)
              refine wp_append_own _ _ _ 38 rfl w3.heap.size 9 i0 (.string ⟨#[]⟩) 1 16 Tryd.underlying38 hi0 hz0 hz1 hz2 rfl (by decide) _ _ _ rfl X6.out.row ⟨w5.heap.size, 0, none⟩ 1 1 [.string v] rfl rfl (cell_one_new _ _ _) (by simp [Value.oneCell']) (by unfold maxLen; omega) (by omega) (Nat.le_of_lt X6.out.xlt) (fun v' w7 hown7 hgrow7 _ => ?_)
              obtain ⟨g7, c7, rfl⟩ := ownsRow_succ hown7
              have X8 := Lib.hid (X5.out.app (v := v) (A' := some ⟨g7, 0, none⟩) (c' := c7) ((Below.refl _ _).alloc (Nat.le_refl _) (.cells #[.string v] 9)) hgrow7 (by rw [encS_snoc]; exact hown7))
              have hx7 : w7.cell? ⟨w3.heap.size, 1, none⟩ = some (.slice none 0 0) ∧ ∀ o, w7.frozen? ⟨w3.heap.size, o, none⟩ = false := X6.out.after hgrow7
              clear hown7 hgrow7 HS
              refine hK.out _ _ (fun _ _ => hx7.1) ?_
              try simp only [Act.put, List.setIfInBounds_toArray]
              clear hK K
              refine till_one (i := 6) _ (by kernel_rfl) rfl rfl (fun K hK => ?_)
              go_simp
              refine hK.out _ _ (fun _ _ => hx7.1) ?_
              try simp only [Act.put, List.setIfInBounds_toArray, List.set_cons_zero, List.set_cons_succ]
              clear hK K
              refine till_one (i := 7) _ (by kernel_rfl) rfl rfl (fun K hK => ?_)
              obtain ⟨hx7, hf7⟩ := hx7
              go_simp
              refine hK.out _ _ (fun h => absurd rfl h) ?_
              try simp only [Act.put, List.setIfInBounds_toArray, List.set_cons_zero, List.set_cons_succ]
              clear hK K hx7 hf7
              refine till_done (by kernel_rfl) ?_
              generalize w7.setCell ⟨w3.heap.size, 1, none⟩ (.slice (some ⟨g7, 0, none⟩) (0 + 1) c7) = w8 at X8 ⊢
              clear X5 X6
              have K8 : Hid (Xi s nx (w.heap.size + 1) w3.heap.size w3 w8 q4 e4 (some ⟨g7, 0, none⟩) 1 c7 [v] ∧ S3 s (parG s q l) nx q4 e4 [v]) := Lib.hid ⟨X8.out, HB.out.first HVS.out⟩
              have hb8 : e4 = 0 → q + 1 ≤ q4 ∧ q4 ≤ s.size ∧ 1 + (s.size - q4) ≤ s.size + 1 := fun h => by
                subst h
                have := val_mono HVS.out (by omega)
                omega
              clear X8 HVS I7
              go_wp2_with fail
              go_meet
              case rel => exact ⟨q4, e4, _, 1, c7, [v], hb8, by omega, hq5, K8⟩
            · have hb : (e3 == 0) = false := by rw [beq_eq_false_iff_ne]; exact he3
              have K8 : Hid (Xi s nx (w.heap.size + 1) w3.heap.size w3 we (q2 + 1) e3 none 0 0 [] ∧ S3 s (parG s q l) nx (q2 + 1) e3 []) := Lib.hid ⟨I7.out, HB.out.bad he3 []⟩
              have HE3 := Lib.hid he3
              clear he3
              go_wp2_with fail
              go_meet
              case rel => exact ⟨q2 + 1, e3, none, 0, 0, [], fun h => absurd h HE3.out, by omega, by omega, K8⟩
          case rest =>
            obtain ⟨q4, e4, A, k, kc, vs, hb4, hk4, hqq4, K4⟩ := hcut
            clear I7 HB
            go_wp2_with fail
            go_loopg [] (s.size + 2) (fun m wi => ∃ (q5 : Nat) (e5 : Int) (A5 : Option Addr) (k5 kc5 : Nat) (vs5 : List ByteArray), (e5 = 0 → q + 1 ≤ q5 ∧ q5 ≤ s.size ∧ k5 + (s.size - q5) ≤ s.size + 1 ∧ s.size + 1 - q5 ≤ m) ∧ k5 ≤ s.size + 2 ∧ q5 ≤ s.size + 1 ∧ Hid (Xi s nx (w.heap.size + 1) w3.heap.size w3 wi q5 e5 A5 k5 kc5 vs5 ∧ S3 s (parG s q l) nx q5 e5 vs5))
            case atStart => exact ⟨q4, e4, A, k, kc, vs, fun h => by have := hb4 h; omega, hk4, hqq4, K4⟩
            case round =>
              clear K4 hb4 hk4 hqq4
              obtain ⟨q5, e5, A5, k5, kc5, vs5, hb5, hk5, hqq5, J5⟩ := hrel
              have ci := refIs_any 44 wr J5.out.1.rd
              cases hq : isV s q5 e5 44
              · rw [hq] at ci
                have HQ5 := Lib.hid hq
                clear hq
                go_wp2_with fail
                refine ci.mono ?_
                rintro e' w9 ⟨rfl, hb9⟩
                have I9 := Lib.hid (J5.out.1.below hb9)
                have XW := Lib.hid (X3.out.but I9.out.but I9.out.rd)
                have hl16 := ((HS.out.1 rfl).1)
                have hnl := XW.out.len
                have S9 := Lib.hid (J5.out.2.done (T := T) hl16 (HS.out.on (isV_iff.1 HQ.out).2) HQ5.out A5 k5 kc5)
                have hrow9 := Lib.hid (own_base I9.out.row (base' := w.heap.size) X3.out.bel.size)
                clear ci hb9 J5 HQ5
                obtain ⟨p0, p1, p2⟩ := XW.out.pv.cells
                obtain ⟨x0, x1, xf⟩ := I9.out.cells
                go_wp2_with (at_builtin; refine wpList_append_own _ rfl _ _ 22 rfl w.heap.size 57 j0 (.agg #[.string ⟨#[]⟩, .slice none 0 0]) 2 40 Tryd.underlying22 hj0 hy0 hy1 hy2 rfl (by decide) _ _ _ rfl (own_alloc XW.out.own _) ⟨w9.heap.size, 0, none⟩ 1 1 [.string nx, .slice A5 k5 kc5] rfl rfl (cells2_new _ _ _ _) (cells2_one _ _ _ _) (by unfold maxLen; omega) (by omega) (by have := XW.out.res.lt; simp; omega) ?_; intro v' w10 hown10 hgrow10 _; obtain ⟨g10, c10, rfl⟩ := ownsRow_succ hown10; obtain ⟨hpc, hpf⟩ := (XW.out.below ((Below.refl _ _).alloc (Nat.le_refl _) (.cells #[.string nx, .slice A5 k5 kc5] 57))).after hgrow10)
                have XE := Lib.hid (XW.out.app ⟨nx, A5, k5, kc5, vs5⟩ hrow9.out ((Below.refl _ _).alloc (Nat.le_refl _) (.cells #[.string nx, .slice A5 k5 kc5] 57)) (L' := some ⟨g10, 0, none⟩) (c' := c10) hgrow10 (by rw [encP_snoc]; exact hown10))
                clear hown10 hgrow10 p0 p1 p2 x0 x1 xf hpc hpf XW I9 hrow9
                go_roundg (m0 - 1)
                case measure => omega
                case rel => exact ⟨q5, e5, _, n + 1, c10, l ++ [⟨nx, A5, k5, kc5, vs5⟩], fun h => by have := hb5 h; omega, by omega, hqq5, Lib.hid ⟨XE.out, S9.out⟩⟩
              · rw [hq] at ci
                have HQ5 := Lib.hid hq
                obtain ⟨rfl, hlt5⟩ := isV_lt hq
                have hb5 := hb5 rfl
                clear hq
                go_wp2_with fail
                refine ci.mono ?_
                rintro e' w9 ⟨rfl, hb9⟩
                have I9 := Lib.hid (J5.out.1.below hb9)
                have HB := Lib.hid J5.out.2
                clear ci hb9 J5
                obtain ⟨c0, c1, c2, cf⟩ := I9.out.rd.cells
                have I7 := Lib.hid (I9.out.on (q' := q5 + 1) (e' := 0) (ButL.set w9 (w.heap.size + 1) 1 (.int .i64 ((q5 : Int) + 1))) (I9.out.rd.at_ ((q5 : Int) + 1)))
                go_upto_region 19 with fail
                clear c0 c1 c2 cf I9
                generalize w9.setCell ⟨w.heap.size + 1, 1, none⟩ (.int .i64 ((q5 : Int) + 1)) = we at I7 ⊢
                refine wp_region_till (fun w' => w'.cell? ⟨w3.heap.size, 1, none⟩ = some (.slice A5 k5 kc5)) 7 8 hmx (by kernel_rfl) ?_
                have XR := Lib.hid (I7.out.below ((Below.refl _ _).drew))
                have HS := XR.out.cells.2.1
                refine till_take (i := 0) _ (.pointer (some ⟨w3.heap.size, 1, none⟩)) [0] rfl (by kernel_rfl) (by kernel_rfl) (by kernel_rfl) (by kernel_rfl) (fun _ _ _ h => h) (.inl ⟨by rfl, fun w' hS => ?_⟩) HS ?_
                · go_simp
                try simp only [Act.put, List.setIfInBounds_toArray]
                refine till_take (i := 1) _ (.slice A5 k5 kc5) [1] rfl (by kernel_rfl) (by kernel_rfl) (by kernel_rfl) (by kernel_rfl) (fun _ _ _ h => h) (.inl ⟨by rfl, fun w' hS => ?_⟩) HS ?_
                · go_simp
                try simp only [Act.put]
                refine till_take (i := 2) _ (.pointer (some ⟨w.heap.size + 1, 0, none⟩)) [2] rfl (by kernel_rfl) (by kernel_rfl) (by kernel_rfl) (by kernel_rfl) (fun _ _ _ h => h) (.inl ⟨by rfl, fun w' hS => ?_⟩) HS ?_
                · go_simp
                try simp only [Act.put]
                refine till_one (i := 3) _ (by kernel_rfl) rfl rfl (fun K hK => ?_)
                go_simp
                refine (refValue_any (p := q5 + 1) (by omega) (by omega) _ XR.out.rd).mono ?_
                rintro e' w5 ⟨v, q4, e4, rfl, hb5, hr5, hq5, hvs⟩
                have X5 := Lib.hid (XR.out.on hb5 hr5)
                have HVS := Lib.hid hvs
                clear HS hb5 hr5 hvs XR
                have HS := X5.out.cells.2.1
                refine hK.out _ _ (fun _ _ => HS) ?_
                try simp only [Act.put, List.setIfInBounds_toArray, List.set_cons_zero, List.set_cons_succ]
                clear hK K
                refine till_one (i := 4) _ (by kernel_rfl) rfl rfl (fun K hK => ?_)
                go_simp
                have X6 := Lib.hid (X5.out.below ((Below.refl _ _).alloc (Nat.le_refl _) (.cells #[.string v] 9)))
                refine hK.out _ _ (fun _ _ => X6.out.cells.2.1) ?_
                try simp only [Act.put, List.setIfInBounds_toArray, List.set_cons_zero, List.set_cons_succ]
                clear hK K
                refine till_one (i := 5) _ (by kernel_rfl) rfl rfl (fun K hK => ?_)
                refine wp_append_own _ _ _ 38 rfl w3.heap.size 9 i0 (.string ⟨#[]⟩) 1 16 Tryd.underlying38 hi0 hz0 hz1 hz2 rfl (by decide) _ _ _ rfl X6.out.row ⟨w5.heap.size, 0, none⟩ 1 1 [.string v] rfl rfl (cell_one_new _ _ _) (by simp [Value.oneCell']) (by unfold maxLen; omega) (by omega) (Nat.le_of_lt X6.out.xlt) (fun v' w7 hown7 hgrow7 _ => ?_)
                obtain ⟨g7, c7, rfl⟩ := ownsRow_succ hown7
                have X8 := Lib.hid (X5.out.app (v := v) (A' := some ⟨g7, 0, none⟩) (c' := c7) ((Below.refl _ _).alloc (Nat.le_refl _) (.cells #[.string v] 9)) hgrow7 (by rw [encS_snoc]; exact hown7))
                have hx7 : w7.cell? ⟨w3.heap.size, 1, none⟩ = some (.slice A5 k5 kc5) ∧ ∀ o, w7.frozen? ⟨w3.heap.size, o, none⟩ = false := X6.out.after hgrow7
                clear hown7 hgrow7 HS
                refine hK.out _ _ (fun _ _ => hx7.1) ?_
                try simp only [Act.put, List.setIfInBounds_toArray]
                clear hK K
                refine till_one (i := 6) _ (by kernel_rfl) rfl rfl (fun K hK => ?_)
                go_simp
                refine hK.out _ _ (fun _ _ => hx7.1) ?_
                try simp only [Act.put, List.setIfInBounds_toArray, List.set_cons_zero, List.set_cons_succ]
                clear hK K
                refine till_one (i := 7) _ (by kernel_rfl) rfl rfl (fun K hK => ?_)
                obtain ⟨hx7, hf7⟩ := hx7
                go_simp
                refine hK.out _ _ (fun h => absurd rfl h) ?_
                try simp only [Act.put, List.setIfInBounds_toArray, List.set_cons_zero, List.set_cons_succ]
                clear hK K hx7 hf7
                refine till_done (by kernel_rfl) ?_
                generalize w7.setCell ⟨w3.heap.size, 1, none⟩ (.slice (some ⟨g7, 0, none⟩) (k5 + 1) c7) = w8 at X8 ⊢
                clear X5 X6
                have K8 : Hid (Xi s nx (w.heap.size + 1) w3.heap.size w3 w8 q4 e4 (some ⟨g7, 0, none⟩) (k5 + 1) c7 (vs5 ++ [v]) ∧ S3 s (parG s q l) nx q4 e4 (vs5 ++ [v])) := Lib.hid ⟨X8.out, HB.out.next (isV_iff.1 HQ5.out).2 HVS.out⟩
                have hb8 : e4 = 0 → q5 + 1 ≤ q4 ∧ q4 ≤ s.size := fun h => by
                  subst h
                  have := val_mono HVS.out (by omega)
                  omega
                clear X8 HVS I7
                go_wp2_with fail
                go_roundg (gk - 1)
                case measure => omega
                case rel => exact ⟨q4, e4, _, k5 + 1, c7, vs5 ++ [v], fun h => by have := hb8 h; omega, by omega, hq5, K8⟩

end Go.Proofs.YtipmeooldopkmaaDoor

/-
  The document's own answers of layer 11: Parse, of any text.
-/
namespace Go.Proofs.YtipmeooldopkmaaDoor
open Go.RowKit

/-- What a call of Parse answers. -/
def ParAns (s : ByteArray) (w : World) (e : Ending) (w' : World) : Prop :=
  ∃ (nm vl : ByteArray) (L : Option Addr) (n c : Nat) (l : List PR), e = .returned (.tuple #[.agg #[.string nm, .slice L n c, .string vl], .int .i64 (parL s.data.toList).2]) ∧
    (parL s.data.toList).1 = ⟨nm.data.toList, l.map parOf, vl.data.toList⟩ ∧ Reads w' w'.heap.size 2 L n (encP l) ∧ (∀ r ∈ l, POk w' w'.heap.size r) ∧ n ≤ c ∧ c ≤ maxLen ∧ Below w.heap.size w w'
theorem parAns_none {s : ByteArray} {w w' : World} {k : Int} (h : parL s.data.toList = (noPro, k)) (hb : Below w.heap.size w w') : ParAns s w (.returned (.tuple #[.agg #[.string ⟨#[]⟩, .slice none 0 0, .string ⟨#[]⟩], .int .i64 k])) w' :=
  ⟨⟨#[]⟩, ⟨#[]⟩, none, 0, 0, [], by rw [h], by rw [h]; rfl, Reads.nil, (fun r hr => by cases hr), Nat.le_refl _, by unfold maxLen; omega, hb⟩
set_option maxRecDepth 100000 in
set_option maxHeartbeats 2000000 in
theorem refParse_all (s : ByteArray) (hs : s.size ≤ 16777216) (w : World) : Calls Tryd.prog 7 #[.string s] w (ParAns s w) := by
  have hsz := bsize s
  by_cases h1 : 1024 < s.size
  · have E := Lib.hid (show parL s.data.toList = (noPro, 12) by unfold parL; rw [if_pos (by omega)])
    have h1i : (1024 : Int) < (s.size : Int) := by omega
    have Q0 := P3.new w ⟨#[]⟩ ⟨#[]⟩ none 0 0
    have r := Q0
    unfold P3 at r
    have e0 := set_same (i := 0) (v := .string ⟨#[]⟩) r rfl
    have e1 := set_same (i := 1) (v := .slice none 0 0) r rfl
    have e2 := set_same (i := 2) (v := .string ⟨#[]⟩) r rfl
    have LP := Lib.hid (load_prop Q0)
    clear hsz r Q0
    go_enter Tryd.func7, Tryd.ntmps7
    go_wp2
    refine bodyPost_ret (results_two rfl _ rfl rfl LP.out) rfl ?_
    exact parAns_none E.out ((Below.refl _ w).alloc (Nat.le_refl _) _)
  · cases hv : vld s.data.toList
    · have E := Lib.hid (show parL s.data.toList = (noPro, 10) by unfold parL; rw [if_neg (by omega), hv]; rfl)
      have h1i : ¬ (1024 : Int) < (s.size : Int) := by omega
      have cv := fun W => refValid_any s (by omega) W
      rw [hv] at cv
      have Q0 := P3.new w ⟨#[]⟩ ⟨#[]⟩ none 0 0
      have r := Q0
      unfold P3 at r
      have e0 := set_same (i := 0) (v := .string ⟨#[]⟩) r rfl
      have e1 := set_same (i := 1) (v := .slice none 0 0) r rfl
      have e2 := set_same (i := 2) (v := .string ⟨#[]⟩) r rfl
      have LP := Lib.hid (load_prop Q0)
      clear hsz r Q0 hv
      go_enter Tryd.func7, Tryd.ntmps7
      go_wp2_with (go_at_call 27; ((with_reducible refine (cv _).mono ?_); rintro e w' ⟨rfl, hw⟩; subst w'))
      refine bodyPost_ret (results_two rfl _ rfl rfl LP.out) rfl ?_
      exact parAns_none E.out ((Below.refl _ w).alloc (Nat.le_refl _) _)
    · exact refParse_any s (by omega) hv w

end Go.Proofs.YtipmeooldopkmaaDoor

/-
  A text with small letters, as the document makes it; two texts that are alike.
-/
namespace Go.Proofs.YtipmeooldopkmaaDoor
open Go.RowKit

theorem lowK_keep {l : List UInt8} {k : Nat} (hk : k < l.length) (h : lowC (l.getD k 0) = l.getD k 0) : lowK l k = lowK l (k + 1) := by
  rw [← lowK_set hk, h, ← lowK_get (l := l) (k := k)]
  have hk' : k < (lowK l k).length := by rw [lowK_length]; exact hk
  rw [List.getD_eq_getElem?_getD, List.getElem?_eq_getElem hk']
  simp
theorem lowC_keep {x : UInt8} (h : ¬ (65 ≤ x.toNat ∧ x.toNat ≤ 90)) : lowC x = x := by
  apply UInt8.toNat_inj.1
  rw [lowC_nat]
  unfold lowN
  rw [if_neg h]
theorem lowC_turn {x : UInt8} (h : 65 ≤ x.toNat ∧ x.toNat ≤ 90) : (lowC x).toNat = x.toNat + 32 := by
  rw [lowC_nat]
  unfold lowN
  rw [if_pos h]

theorem eqL (a b : List UInt8) : (a == b) = decide (a = b) := by
  by_cases h : a = b
  · subst h; simp
  · rw [decide_eq_false h, beq_eq_false_iff_ne]
    exact h

end Go.Proofs.YtipmeooldopkmaaDoor
