/-
  CompLetters: small letters in the names of all lines, and lines folded anywhere, change nothing.
-/
import Derived.Test.YtlfhhnjdfpgadaaDoorG26
import Derived.Test.YtlfhhnjdfpgadaaDoorG27
import Derived.Test.YtlfhhnjdfpgadaaDoorG05
namespace Go.Proofs.YtlfhhnjdfpgadaaDoor
open Go.RowKit

theorem letL_len (k : Nat) : ∀ (l : List UInt8) (h : Bool) (n : Nat), (letL k l h n).length ≤ 4 * l.length
  | [], _, _ => by simp [letL]
  | x :: l, h, n => by
    have := letL_len k l (hL h (yL h x) l) (nL n (yL h x))
    rw [letL, List.length_cons, List.length_append, List.length_cons]
    split <;> simp <;> omega
theorem fold_at (x : Int) : ∃ kk : Nat, wrap64 (1 + wrap64 ((IntKind.u64.wrap x).tmod 20)) = (kk : Int) ∧ 1 ≤ kk ∧ kk ≤ 20 := by
  have h1 : 0 ≤ IntKind.u64.wrap x := by rw [IntKind.wrap_u64]; omega
  have h2 : (IntKind.u64.wrap x).tmod 20 = IntKind.u64.wrap x % 20 := Int.tmod_eq_emod_of_nonneg h1
  rw [h2]
  have h3 : 0 ≤ IntKind.u64.wrap x % 20 ∧ IntKind.u64.wrap x % 20 < 20 := by omega
  generalize IntKind.u64.wrap x % 20 = z at *
  obtain ⟨j, rfl⟩ : ∃ j : Nat, z = j := ⟨z.toNat, by omega⟩
  refine ⟨j + 1, ?_, by omega, by omega⟩
  simp only [wrap64]
  omega
/-- What holds at the loop's head. -/
structure LI (w W : World) (s : ByteArray) (nm : ByteArray) (A : Option Addr) (n c : Nat) (qs : List QR) (K : Option Addr) (k kc : Nat) (cs : List CR) (kk i : Nat) (T : ByteArray) (h : Bool) (p : Nat) : Prop where
  kc : KC w W nm A n c qs K k kc cs
  out : T.data.toList ++ letL kk (s.data.toList.drop i) h p = letL kk s.data.toList true 0
  sz : T.size ≤ 4 * i
theorem one_low {s : ByteArray} {i : Nat} (h : i < s.size) : ∃ U : ByteArray, U = ⟨(lowL (s.extract i (i + 1)).data.toList).toArray⟩ ∧ ∃ h0 : 0 < U.size, U[0]'h0 = lowC s[i] := by
  have e : (s.extract i (i + 1)).data.toList = [s[i]] := by
    rw [ByteArray.data_extract, Array.toList_extract, List.extract_eq_take_drop, Nat.add_sub_cancel_left]
    rw [List.drop_eq_getElem_cons (by rw [← bsize]; exact h)]
    rfl
  refine ⟨_, rfl, ?_, ?_⟩
  · rw [bsize, e]; simp [lowL]
  · simp only [e, lowL, List.map_cons, List.map_nil]
    rfl
theorem byte_is (y a : UInt8) : ((y.toNat : Int) == (a.toNat : Int)) = decide (y = a) := by
  by_cases e : y = a
  · subst e; simp
  · rw [decide_eq_false e, beq_eq_false_iff_ne]
    intro e2
    exact e (UInt8.toNat_inj.1 (by omega))
theorem bytes_58 (y : UInt8) : (((y.toNat : Int) == 58) || ((y.toNat : Int) == 59)) = decide (y = 58 ∨ y = 59) := by
  have h1 : ∀ a : UInt8, ((y.toNat : Int) == (a.toNat : Int)) = decide (y = a) := fun a => by
    by_cases e : y = a
    · subst e; simp
    · rw [decide_eq_false e, beq_eq_false_iff_ne]
      intro e2
      exact e (UInt8.toNat_inj.1 (by omega))
  have h2 := h1 58
  have h3 := h1 59
  rw [show ((58 : UInt8).toNat : Int) = 58 from rfl] at h2
  rw [show ((59 : UInt8).toNat : Int) = 59 from rfl] at h3
  rw [h2, h3, Bool.decide_or]
set_option maxRecDepth 100000 in
set_option maxHeartbeats 8000000 in
theorem letters12_any (r : CR) (x : Int) (w : World) (hM : csize r ≤ 1048576) (hC : COk w w.heap.size r) (_hx : -9223372036854775808 ≤ x ∧ x < 9223372036854775808) (hv : CV w) :
    Calls Tryd.prog 4 #[.agg #[(fC r).1, (fC r).2.1, (fC r).2.2], .int .i64 x] w fun e w' => e = .returned (.bool true) ∧ Below w.heap.size w w' := by
  obtain ⟨nm, A, n, c, qs, K, k, kc, cs⟩ := r
  have hb0 := (Below.refl w.heap.size w).alloc (Nat.le_refl _) (.cells #[.string nm, .slice A n c, .slice K k kc] 25)
  have K0 : Hid (KC w (w.alloc (.cells #[.string nm, .slice A n c, .slice K k kc] 25)) nm A n c qs K k kc cs) := Lib.hid ⟨CA.new hC, hb0, hv.step hb0⟩
  have HM := Lib.hid hM
  clear hC hv hb0 hM
  simp only [fC]
  go_enter Tryd.func4, Tryd.ntmps4
  go_upto_region 1 with fail
  generalize w.alloc (.cells #[.string nm, .slice A n c, .slice K k kc] 25) = w0 at K0 ⊢
  obtain ⟨x0, x1, x2⟩ := K0.out.ca.bx.cells
  go_wp2_with fail
  refine (light_any (.mk nm A n c qs K k kc cs) w0 K0.out.ca.ok).mono ?_
  rintro e w1 ⟨⟨b, rfl⟩, hb1⟩
  have K1 := Lib.hid (K0.out.step hb1)
  clear hb1 K0 x0 x1 x2
  cases b
  · go_wp2_with fail
    refine (awake12_any w1 K1.out.v).mono ?_
    rintro e w2 ⟨rfl, hb2⟩
    go_wp2
    go_ret
    exact ⟨rfl, bstep K1.out.bel hb2⟩
  obtain ⟨x0, x1, x2⟩ := K1.out.ca.bx.cells
  go_wp2_with fail
  obtain ⟨m, hm⟩ : ∃ m, compOf (.mk nm A n c qs K k kc cs) = m := ⟨_, rfl⟩
  have cp := cPrint_any (.mk nm A n c qs K k kc cs) w1 HM.out K1.out.ca.ok K1.out.v
  rw [hm] at cp
  refine cp.mono ?_
  rintro e w2 ⟨rfl, hb2⟩
  have K2 := Lib.hid (K1.out.step hb2)
  have HMM := Lib.hid hm
  clear hb2 K1 x0 x1 x2 cp hm
  have hpz := prnC_size m
  obtain ⟨s, hT⟩ : ∃ T : ByteArray, T = ⟨(prnC m).toArray⟩ := ⟨_, rfl⟩
  rw [← hT]
  have hTl : s.data.toList = prnC m := by rw [hT]
  have hTs : s.size ≤ 8192 := by rw [bsize, hTl]; exact hpz
  have htl : s.toList = s.data.toList := Lib.toList_data s
  clear hT hpz
  by_cases hne : prnC m = []
  · have hte : (s.toList == (⟨#[]⟩ : ByteArray).toList) = true := by rw [htl, hTl, hne, Lib.toList_data]; rfl
    have hte2 : s.toList.isEmpty = true := by rw [htl, hTl, hne]; rfl
    clear hne hTl htl
    go_wp2_with fail
    refine (awake12_any w2 K2.out.v).mono ?_
    rintro e w3 ⟨rfl, hb3⟩
    go_wp2
    go_ret
    exact ⟨rfl, bstep K2.out.bel hb3⟩
  have hte : (s.toList == (⟨#[]⟩ : ByteArray).toList) = false := by
    rw [htl, hTl]
    cases hp : prnC m with
    | nil => exact absurd hp hne
    | cons a l => rw [Lib.toList_data]; rfl
  have hte2 : s.toList.isEmpty = false := by
    rw [htl, hTl]
    cases hp : prnC m with
    | nil => exact absurd hp hne
    | cons a l => rfl
  have HF := Lib.hid (fitT_of hne)
  have HTL := Lib.hid hTl
  clear hne htl hTl
  obtain ⟨kk, hkk, hk1, hk20⟩ := fold_at x
  go_upto_region 8 with fail
  rw [hkk]
  clear hkk hte hte2 _hx
  have HL0 := Lib.hid (show LI w w2 s nm A n c qs K k kc cs kk 0 ⟨#[]⟩ true 0 from ⟨K2.out, by rw [List.drop_zero]; rfl, Nat.le_refl _⟩)
  have HSL := Lib.hid (bsize s)
  clear K2
  go_wp2_with fail
  go_loopg [29, 6, 7, 8] s.size (fun gg q tt hh nn wr => ∃ (i : Nat) (T : ByteArray) (h : Bool) (p : Nat), q = .int .i64 i ∧ tt = .string T ∧ hh = .bool h ∧ nn = .int .i64 p ∧ i ≤ s.size ∧ s.size - i ≤ gg ∧ p ≤ i ∧ Hid (LI w wr s nm A n c qs K k kc cs kk i T h p))
  case atStart => exact ⟨0, ⟨#[]⟩, true, 0, rfl, rfl, rfl, rfl, Nat.zero_le _, by omega, Nat.le_refl _, HL0⟩
  case round =>
    clear HL0
    obtain ⟨i, T, h, p, rfl, rfl, rfl, rfl, hi, hg, hp, J⟩ := hrel
    by_cases hlt : i < s.size
    · go_upto_if 35 with fail
      go_cut [10] (fun v wc => v = .int .u8 ((yL h s[i]).toNat : Int) ∧ Hid (LI w wc s nm A n c qs K k kc cs kk i T h p))
      case first =>
        cases h
        · go_wp2_with fail
          go_meet
          case rel => exact ⟨rfl, J⟩
        · obtain ⟨U, hU, hU0, hU1⟩ := one_low hlt
          have cl := refLower_any (s.extract i (i + 1)) (by rw [ByteArray.size_extract]; omega) wr
          rw [← hU] at cl
          have hi8 : i < 8192 := by omega
          clear hU
          go_wp2_with fail
          refine cl.mono ?_
          rintro e w3 ⟨rfl, hb3⟩
          have J3 := Lib.hid (show LI w w3 s nm A n c qs K k kc cs kk i T true p from ⟨J.out.kc.step hb3, J.out.out, J.out.sz⟩)
          clear hb3 J
          go_wp2_with fail
          go_meet
          case rel => exact ⟨rfl, J3⟩
      case rest =>
        obtain ⟨rfl, J⟩ := hcut
        obtain ⟨y, hy⟩ : ∃ y, yL h s[i] = y := ⟨_, rfl⟩
        rw [hy]
        have HY := Lib.hid hy
        clear hy
        obtain ⟨b8, h8, b9, h9, HB⟩ : ∃ b8, ((y.toNat : Int) == 58) = b8 ∧ ∃ b9, ((y.toNat : Int) == 59) = b9 ∧ Hid ((b8 || b9) = decide (y = 58 ∨ y = 59)) := ⟨_, rfl, _, rfl, Lib.hid (bytes_58 y)⟩
        go_upto_region 14 with fail
        go_cut [48] (fun v wd => wd = wc ∧ v = .bool (b8 || b9))
        case first =>
          cases b8 <;> cases b9
          all_goals
            (go_wp2_with fail
             go_meet
             exact ⟨rfl, rfl⟩)
        case rest =>
          obtain ⟨hwd, rfl⟩ := hcut
          have hwd := hwd.symm
          subst hwd
          clear h8 h9
          obtain ⟨z, hz⟩ : ∃ z, (b8 || b9) = z := ⟨_, rfl⟩
          rw [hz]
          rw [hz] at HB
          clear hz
          obtain ⟨h1, hh1⟩ : ∃ h1, (if z = true then false else h) = h1 := ⟨_, rfl⟩
          go_upto_if 48 with fail
          go_cut [7] (fun v wd => wd = wc ∧ v = .bool h1)
          case first =>
            cases z
            · go_wp2_with fail
              go_meet
              exact ⟨rfl, by rw [← hh1]; rfl⟩
            · go_wp2_with fail
              go_meet
              exact ⟨rfl, by rw [← hh1]; rfl⟩
          case rest =>
            obtain ⟨hwd, rfl⟩ := hcut
            have hwd := hwd.symm
            subst hwd
            have HH1 := Lib.hid hh1
            clear hh1
            obtain ⟨b10, h10, HB10⟩ : ∃ b10, ((y.toNat : Int) == 10) = b10 ∧ Hid (b10 = decide (y = 10)) := ⟨_, rfl, Lib.hid (byte_is y 10)⟩
            have hp8 : p ≤ 8192 := by omega
            have hi8 : i < 8192 := by omega
            go_upto_if 50 with fail
            go_cut [7, 8] (fun a nn wd => wd = wc ∧ a = .bool (hL h y (s.data.toList.drop (i + 1))) ∧ nn = .int .i64 ((nL p y : Int) - 1))
            case first =>
              cases b10
              · have hy10 : y ≠ 10 := by have := HB10.out; simpa using this.symm
                have E1 := Lib.hid (show hL h y (s.data.toList.drop (i + 1)) = h1 by unfold hL; rw [if_neg hy10, ← HH1.out, HB.out]; simp)
                have E2 := Lib.hid (show ((nL p y : Int)) - 1 = (p : Int) by unfold nL; rw [if_neg hy10]; omega)
                clear hy10
                go_wp2_with fail
                go_meet
                exact ⟨rfl, by rw [E1.out], by rw [E2.out]⟩
              · have hy10 : y = 10 := by have := HB10.out; simpa using this.symm
                have E1 := Lib.hid (show hL h y (s.data.toList.drop (i + 1)) = hR (s.data.toList.drop (i + 1)) by unfold hL; rw [if_pos hy10])
                have E2 := Lib.hid (show ((nL p y : Int)) - 1 = -1 by unfold nL; rw [if_pos hy10]; rfl)
                clear hy10
                by_cases hl1 : i + 1 < s.size
                · obtain ⟨q32, hq, HQ⟩ : ∃ q32, ((s[i + 1].toNat : Int) != 32) = q32 ∧ Hid (hR (s.data.toList.drop (i + 1)) = q32) := ⟨_, rfl, Lib.hid (by
                    rw [List.drop_eq_getElem_cons (by rw [← HSL.out]; exact hl1)]
                    have e32 := byte_is s[i + 1] 32
                    unfold hR bne
                    rw [show ((32 : UInt8).toNat : Int) = 32 from rfl] at e32
                    rw [e32]
                    simp
                    rfl)⟩
                  have hd : decide ((i : Int) + 1 < (s.size : Int)) = true := decide_eq_true (by omega)
                  have hd2 : (i : Int) + 1 < (s.size : Int) := by omega
                  go_wp2_with fail
                  go_meet
                  exact ⟨rfl, by rw [E1.out, HQ.out], by rw [E2.out]⟩
                · have E3 := Lib.hid (show hR (s.data.toList.drop (i + 1)) = false by
                    rw [List.drop_eq_nil_of_le (by rw [← HSL.out]; omega)]; rfl)
                  have hd : decide ((i : Int) + 1 < (s.size : Int)) = false := decide_eq_false (by omega)
                  have hd2 : ¬ (i : Int) + 1 < (s.size : Int) := by omega
                  go_wp2_with fail
                  go_meet
                  exact ⟨rfl, by rw [E1.out, E3.out], by rw [E2.out]⟩
            case rest =>
              obtain ⟨hwd, rfl, rfl⟩ := hcut
              have hwd := hwd.symm
              subst hwd
              clear h10 HH1 HB HB10
              have hnlp : nL p y ≤ p + 1 := by unfold nL; split <;> omega
              obtain ⟨nl, hnl⟩ : ∃ nl, nL p y = nl := ⟨_, rfl⟩
              rw [hnl]
              rw [hnl] at hnlp
              have HNL := Lib.hid hnl
              clear hnl
              obtain ⟨V, hV, hV1⟩ : ∃ V : ByteArray, V = ⟨[y].toArray⟩ ∧ V.size = 1 := ⟨_, rfl, rfl⟩
              have hcv := run_convert_bytes_back (P := Tryd.prog) (wc.alloc (.cells #[.int .u8 (y.toNat : Int)] 5)) 36 9 5 ⟨wc.heap.size, 0, none⟩ 1 [y] Tryd.underlying36 Tryd.underlying5 Tryd.underlying9 (fun j hj => by
                obtain rfl : j = 0 := by simpa using hj
                exact cell_one_new wc _ _ 0 _ rfl)
              rw [← hV] at hcv
              rw [List.length_singleton] at hcv
              have hTz := J.out.sz
              have no1 : ¬ 9223372036854775807 < T.size + V.size := by omega
              have HV := Lib.hid hV
              clear hV hTz
              go_upto_region 20 with fail
              have J5 := Lib.hid (show LI w (wc.alloc (.cells #[.int .u8 (y.toNat : Int)] 5)) s nm A n c qs K k kc cs kk i T h p from ⟨J.out.kc.step ((Below.refl _ _).alloc (Nat.le_refl _) _), J.out.out, J.out.sz⟩)
              clear J hcv no1
              generalize wc.alloc (.cells #[.int .u8 (y.toNat : Int)] 5) = wd at J5 ⊢
              obtain ⟨h2, hh2⟩ : ∃ h2, hL h y (s.data.toList.drop (i + 1)) = h2 := ⟨_, rfl⟩
              rw [hh2]
              have HH2 := Lib.hid hh2
              clear hh2
              go_cut [97] (fun v we => we = wd ∧ v = .bool (cutB kk nl y (s.data.toList.drop (i + 1))))
              case first =>
                by_cases hk : nl = kk
                · have k1 : ((nl : Int) == (kk : Int)) = true := by rw [beq_iff_eq]; omega
                  by_cases hl1 : i + 1 < s.size
                  · obtain ⟨q13, h13, q10, h10, qy, hqy, HC⟩ : ∃ q13, ((s[i + 1].toNat : Int) != 13) = q13 ∧ ∃ q10, ((s[i + 1].toNat : Int) != 10) = q10 ∧ ∃ qy, ((y.toNat : Int) != 13) = qy ∧ Hid (cutB kk nl y (s.data.toList.drop (i + 1)) = (q13 && (q10 && qy))) := ⟨_, rfl, _, rfl, _, rfl, Lib.hid (by
                      rw [List.drop_eq_getElem_cons (by rw [← HSL.out]; exact hl1)]
                      have e13 := byte_is s[i + 1] 13
                      have e10 := byte_is s[i + 1] 10
                      have ey := byte_is y 13
                      unfold cutB bne
                      rw [show ((13 : UInt8).toNat : Int) = 13 from rfl] at e13 ey
                      rw [show ((10 : UInt8).toNat : Int) = 10 from rfl] at e10
                      rw [e13, e10, ey, decide_eq_true hk]
                      simp
                      rfl)⟩
                    have hd : decide ((i : Int) + 1 < (s.size : Int)) = true := decide_eq_true (by omega)
                    have hd2 : (i : Int) + 1 < (s.size : Int) := by omega
                    clear hk
                    cases q13
                    · go_wp2_with fail
                      go_meet
                      exact ⟨rfl, by rw [HC.out]; rfl⟩
                    cases q10
                    · go_wp2_with fail
                      go_meet
                      exact ⟨rfl, by rw [HC.out]; rfl⟩
                    cases qy
                    · go_wp2_with fail
                      go_meet
                      exact ⟨rfl, by rw [HC.out]; rfl⟩
                    · go_wp2_with fail
                      go_meet
                      exact ⟨rfl, by rw [HC.out]; rfl⟩
                  · have HC := Lib.hid (show cutB kk nl y (s.data.toList.drop (i + 1)) = false by
                      rw [List.drop_eq_nil_of_le (by rw [← HSL.out]; omega)]
                      unfold cutB
                      simp)
                    have hd : decide ((i : Int) + 1 < (s.size : Int)) = false := decide_eq_false (by omega)
                    have hd2 : ¬ (i : Int) + 1 < (s.size : Int) := by omega
                    clear hk
                    go_wp2_with fail
                    go_meet
                    exact ⟨rfl, by rw [HC.out]⟩
                · have k1 : ((nl : Int) == (kk : Int)) = false := by rw [beq_eq_false_iff_ne]; omega
                  have HC := Lib.hid (show cutB kk nl y (s.data.toList.drop (i + 1)) = false by unfold cutB; rw [decide_eq_false hk]; rfl)
                  clear hk
                  go_wp2_with fail
                  go_meet
                  exact ⟨rfl, by rw [HC.out]⟩
              case rest =>
                obtain ⟨hwe, rfl⟩ := hcut
                have hwe := hwe.symm
                subst hwe
                have hTz := J5.out.sz
                have hTV : (T ++ V).size = T.size + V.size := ByteArray.size_append
                have HSTEP : Hid (∀ q : List UInt8, q = (if cutB kk nl y (s.data.toList.drop (i + 1)) = true then [13, 10, 32] else []) → (T ++ V).data.toList ++ (q ++ letL kk (s.data.toList.drop (i + 1)) h2 nl) = letL kk s.data.toList true 0) := Lib.hid (by
                  rintro q rfl
                  rw [← J5.out.out, List.drop_eq_getElem_cons (show i < s.data.toList.length by rw [← HSL.out]; exact hlt)]
                  show _ = T.data.toList ++ letL kk (s[i] :: s.data.toList.drop (i + 1)) h p
                  rw [letL, HY.out, HNL.out, HH2.out, ByteArray.data_append, Array.toList_append, HV.out]
                  simp)
                obtain ⟨zc, hzc⟩ : ∃ zc, cutB kk nl y (s.data.toList.drop (i + 1)) = zc := ⟨_, rfl⟩
                rw [hzc] at HSTEP ⊢
                clear hzc
                cases zc
                · have J6 := Lib.hid (show LI w wd s nm A n c qs K k kc cs kk (i + 1) (T ++ V) h2 nl from ⟨J5.out.kc, by have := HSTEP.out [] rfl; simpa using this, by omega⟩)
                  clear J5 HSTEP HV hTV hTz
                  go_wp2_with fail
                  go_roundg (s.size - (i + 1))
                  case measure => omega
                  case rel => exact ⟨i + 1, T ++ V, h2, nl, by go_num, rfl, rfl, rfl, by omega, by omega, by omega, J6⟩
                · have no2 : ¬ 9223372036854775807 < (T ++ V).size + (⟨#[13, 10, 32]⟩ : ByteArray).size := by rw [hTV, hV1, show (⟨#[13, 10, 32]⟩ : ByteArray).size = 3 from rfl]; omega
                  have J6 := Lib.hid (show LI w wd s nm A n c qs K k kc cs kk (i + 1) (T ++ V ++ ⟨#[13, 10, 32]⟩) h2 nl from ⟨J5.out.kc, by
                    have := HSTEP.out [13, 10, 32] rfl
                    rw [ByteArray.data_append, Array.toList_append, List.append_assoc]
                    exact this, by rw [ByteArray.size_append, hTV, hV1, show (⟨#[13, 10, 32]⟩ : ByteArray).size = 3 from rfl]; omega⟩)
                  clear J5 HSTEP HV hTV hTz
                  go_wp2_with fail
                  go_roundg (s.size - (i + 1))
                  case measure => omega
                  case rel => exact ⟨i + 1, T ++ V ++ ⟨#[13, 10, 32]⟩, h2, nl, by go_num, rfl, rfl, rfl, by omega, by omega, by omega, J6⟩
    · obtain rfl : i = s.size := by omega
      have hZ : T.data.toList = letL kk s.data.toList true 0 := by
        have := J.out.out
        rw [List.drop_eq_nil_of_le (by rw [← HSL.out]; exact Nat.le_refl _)] at this
        simpa [letL] using this
      have hTz := J.out.sz
      have HZ := Lib.hid hZ
      have HK1 := Lib.hid hk1
      have K3 := Lib.hid J.out.kc
      clear hZ J
      go_wp2_with fail
      refine (cParse_any T (by omega) wr K3.out.v).mono ?_
      rintro e w3 ⟨⟨nm2, A2, n2, c2, qs2, Q2, k2, kc2, cs2⟩, k0, rfl, hC2, hM2, hb3, hm2⟩
      have A3 := Lib.hid (CA.new hC2.ok)
      have hb4 := (Below.refl w3.heap.size w3).alloc (Nat.le_refl _) (.cells #[.string nm2, .slice A2 n2 c2, .slice Q2 k2 kc2] 25)
      have K4 := Lib.hid ((K3.out.step hb3).step hb4)
      have HM2 := Lib.hid hm2
      clear hC2 hb3 hb4 K3 hM2 hm2
      simp only [fC]
      obtain ⟨x0, x1, x2⟩ := K4.out.ca.bx.cells
      obtain ⟨y0, y1, y2⟩ := A3.out.bx.cells
      by_cases h8 : T.size ≤ 8192
      · have hd : ¬ (8192 : Int) < (T.size : Int) := by omega
        have hm3 := HM2.out
        rw [HZ.out, HTL.out, let_read HK1.out HF.out (by rw [← HTL.out, ← HZ.out, ← bsize]; exact h8)] at hm3
        obtain ⟨rfl, hm3⟩ := hm3
        have cs12 := refSame12_any 1048576 (.mk nm A n c qs K k kc cs) (.mk nm2 A2 n2 c2 qs2 Q2 k2 kc2 cs2) _ HM.out K4.out.ca.ok A3.out.ok
        rw [HMM.out, hm3, eqC_true rfl] at cs12
        simp only [fC] at cs12
        clear hm3 h8
        go_wp2_with fail
        refine cs12.mono ?_
        rintro e w5 ⟨rfl, hb5⟩
        have K5 := Lib.hid (K4.out.step hb5)
        clear hb5 K4 A3 cs12 x0 x1 x2 y0 y1 y2
        go_wp2_with fail
        refine (awake12_any w5 K5.out.v).mono ?_
        rintro e w6 ⟨rfl, hb6⟩
        go_wp2
        go_ret
        exact ⟨rfl, bstep K5.out.bel hb6⟩
      · have hd : (8192 : Int) < (T.size : Int) := by omega
        clear h8
        go_wp2_with fail
        refine (awake12_any _ K4.out.v).mono ?_
        rintro e w6 ⟨rfl, hb6⟩
        go_wp2
        go_ret
        exact ⟨rfl, bstep K4.out.bel hb6⟩
end Go.Proofs.YtlfhhnjdfpgadaaDoor
