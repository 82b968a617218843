/-
  The document's own answers of layer 14: what a rule's text says.
-/
import Derived.Test.YtnidkcedomhofaaGreatDoorG48
import Derived.Test.YtnidkcedomhofaaGreatDoorG49
import Derived.Test.YtnidkcedomhofaaGreatDoorG29
import Derived.Test.YtnidkcedomhofaaGreatDoorG27
namespace Go.Proofs.YtnidkcedomhofaaGreatDoor
open Go.RowKit

def KF (k : Nat) (vl : List UInt8) : Prop := k = 0 ∧ freqL vl = 0
def OP (w : World) : World := (w.alloc (.cells (ruA RuV.zero nilV nilV nilV nilV) 27)).alloc (.cells (ruA RuV.init nilV nilV nilV nilV) 27)
theorem OP.all (w : World) : RVar (OP w) (w.heap.size + 1) RuV.init nilV nilV nilV nilV ∧ RVar (OP w) w.heap.size RuV.zero nilV nilV nilV nilV ∧ Below w.heap.size w (OP w) := by
  have h1 := (Below.refl w.heap.size w).alloc (Nat.le_refl _) (.cells (ruA RuV.zero nilV nilV nilV nilV) 27)
  have hx := (Below.refl _ (w.alloc (.cells (ruA RuV.zero nilV nilV nilV nilV) 27))).alloc (Nat.le_refl _) (.cells (ruA RuV.init nilV nilV nilV nilV) 27)
  refine ⟨?_, RVar.step (RVar.new w RuV.zero nilV nilV nilV nilV) hx, bstep h1 hx⟩
  have := RVar.new (w.alloc (.cells (ruA RuV.zero nilV nilV nilV nilV) 27)) RuV.init nilV nilV nilV nilV
  have e : (w.alloc (.cells (ruA RuV.zero nilV nilV nilV nilV) 27)).heap.size = w.heap.size + 1 := by simp
  rw [e] at this
  exact this
theorem Rw.nil (W : World) (n : Nat) : Rw W n RuV.init [] nilV nilV nilV nilV nilV :=
  ⟨World.ownsRow_nil _ _ _ _, World.ownsRow_nil _ _ _ _, World.ownsRow_nil _ _ _ _, World.ownsRow_nil _ _ _ _, World.ownsRow_nil _ _ _ _, .inl rfl, .inl rfl, .inl rfl⟩
theorem fit_len {r : RuV} (n : Nat) (h : lenR r ≤ n) : r.mon.length ≤ n ∧ r.md.length ≤ n ∧ r.dys.length ≤ n ∧ r.pos.length ≤ n := by unfold lenR at h; omega
set_option maxRecDepth 100000 in
set_option maxHeartbeats 16000000 in
theorem refParse14_any (s : ByteArray) (hs : s.size ≤ 1048576) (w : World) : Calls Tryz.prog 8 #[.string s] w (RuAns s.data.toList w) := by
  have cu := fun W => refUpper_any s (by omega) W
  have hus : (⟨(upL s.data.toList).toArray⟩ : ByteArray).size = s.size := by rw [mk_size, bsize]; simp [upL]
  have csp := fun W => refSplit_any 59 ⟨(upL s.data.toList).toArray⟩ (by rw [hus]; exact hs) W
  rw [show (((59 : UInt8).toNat : Nat) : Int) = 59 from rfl] at csp
  simp only [] at csp
  obtain ⟨P, hP⟩ : ∃ P, splitC 59 [] (upL s.data.toList) = P := ⟨_, rfl⟩
  rw [hP] at csp
  have HPV : Hid (parV s.data.toList = endV (runV RuV.init [] P)) := Lib.hid (by unfold parV; rw [hP])
  have HERR : Hid (∀ e, runV RuV.init [] P = .error e → parV s.data.toList = (RuV.zero, e)) := Lib.hid fun e h => by rw [HPV.out, h]; rfl
  have HPL : Hid (∀ p ∈ P, p.length ≤ s.size) := Lib.hid (by rw [← hP, bsize]; intro p hp; simpa [upL] using splitC_le 59 _ _ p hp)
  have HPN : Hid (0 < P.length ∧ P.length ≤ 1048577) := Lib.hid (by
    rw [← hP, splitC_len]
    have := List.count_le_length (a := (59 : UInt8)) (l := upL s.data.toList)
    have h2 : (upL s.data.toList).length = s.size := by rw [bsize]; simp [upL]
    omega)
  generalize (⟨(upL s.data.toList).toArray⟩ : ByteArray) = US at cu csp
  have H0 := Lib.hid (OP.all w)
  clear hus hP
  go_enter Tryz.func8, Tryz.ntmps8
  go_upto_region 2 with fail
  change Code.wp _ _ _ _ (OP w)
  generalize OP w = w1 at H0 ⊢
  go_wp2_with (first
    | (go_at_call 21; refine (cu _).mono ?_; rintro e w2 ⟨rfl, hb2⟩; clear cu)
    | (go_at_call 16; refine (csp _).mono ?_; rintro e w3 ⟨l, rfl, ho, hb3⟩; clear csp
       obtain ⟨g, cap, cur, fz, rfl, hgl, hgc, hcells⟩ : ∃ g cap cur fz, l = .slice (some ⟨g, 0, none⟩) P.length cap ∧ g < w3.heap.size ∧ w3.heap[g]? = some (.cells cur 9 fz) ∧ (∀ (j : Nat) (p : List UInt8), P[j]? = some p → cur[j]? = some (Value.string ⟨p.toArray⟩)) := by
         rcases ho.2 with ⟨_, h0⟩ | ⟨g, cap, cur, rfl, _, hg, _⟩
         · exact absurd h0 (by have := HPN.out.1; omega)
         · refine ⟨g, cap, cur, _, rfl, (Array.getElem?_eq_some_iff.1 hg).1, hg, fun j p hp => ?_⟩
           have ea : (⟨g, 0, none⟩ : Addr).add j = ⟨g, j, none⟩ := by unfold Addr.add; split <;> simp_all
           have := ho.cells (g := g) rfl j (.string ⟨p.toArray⟩) (by simp [pcC, hp])
           rw [ea] at this
           simpa [World.cell?, hg] using this
       have hB := hb2.trans (hb3.mono hb2.size)
       have HP0 : Hid (PP w w3.heap.size g cur fz w3 RuV.init [] nilV nilV nilV nilV nilV) := Lib.hid ⟨H0.out.1.step hB, H0.out.2.1.step hB, Rw.nil _ _, hgc, bstep H0.out.2.2 hB, by have := H0.out.1.lt; have := hB.size; omega, hgl, Nat.le_refl _⟩
       have HCU := Lib.hid hcells
       clear ho hb2 hb3 hB hgl hgc hcells H0))
  obtain ⟨n, hn⟩ : ∃ n, w3.heap.size = n := ⟨_, rfl⟩
  rw [hn] at HP0
  clear hn
  go_loopg [6, 7] P.length (fun gk v6 s7 wr => ∃ (i : Nat) (v5 : Value), v5 = v6 ∧ i ≤ P.length ∧ P.length - i ≤ gk ∧ s7 = .int .i64 i ∧ Hid (∃ q sn u1 u2 u3 u4, runV RuV.init [] (P.take i) = .ok (q, sn) ∧ PP w n g cur fz wr q sn u1 u2 u3 u4 v5 ∧ sn.length ≤ i ∧ lenR q ≤ 24 * i))
  case atStart => exact ⟨0, _, rfl, Nat.zero_le _, by omega, rfl, Lib.hid ⟨RuV.init, [], nilV, nilV, nilV, nilV, rfl, HP0.out, Nat.zero_le _, by decide⟩⟩
  case round =>
    clear HP0
    obtain ⟨i, v5, rfl, hi, hg, rfl, HJ⟩ := hrel
    obtain ⟨q, sn, u1, u2, u3, u4, hf, hK, hsn, hlq⟩ := HJ.out
    obtain ⟨b1, d1, b2, d2, b3, d3, b4, d4, rfl, rfl, rfl, rfl⟩ := hK.rw.lits
    have HK := Lib.hid hK
    have HF := Lib.hid hf
    have HN := Lib.hid (And.intro hsn hlq)
    clear HJ hf hK hsn hlq
    by_cases hlt : i < P.length
    · have hin : (i : Int) < (P.length : Int) := by omega
      obtain ⟨p, hp⟩ : ∃ p, P[i]? = some p := ⟨P[i], List.getElem?_eq_getElem hlt⟩
      have gp := cell_of HK.out.prt (HCU.out i p hp)
      have hpl := HPL.out p (List.mem_of_getElem? hp)
      have HS : Hid (runV RuV.init [] (P.take (i + 1)) = stepV q sn p) := Lib.hid (by
        rw [show P.take (i + 1) = P.take i ++ [p] by rw [List.take_add_one, hp]; rfl, runV_snoc, HF.out])
      have HST : Hid (∀ e, stepV q sn p = .error e → runV RuV.init [] P = .error e) := Lib.hid fun e h => by
        rw [← List.take_append_drop (i + 1) P]
        exact runV_pre _ _ _ _ _ (by rw [HS.out, h])
      clear hp
      have cc := fun W => refCut_any ⟨p.toArray⟩ (by rw [mk_size]; omega) 61 W
      rw [show (((61 : UInt8).toNat : Nat) : Int) = 61 from rfl] at cc
      simp only [] at cc
      have hcut : (Lib.cut p [61]).1.length ≤ p.length ∧ (Lib.cut p [61]).2.1.length ≤ p.length := cut_lens p [61]
      obtain ⟨nm, vl, ok, hc⟩ : ∃ nm vl ok, Lib.cut p [61] = (nm, vl, ok) := ⟨_, _, _, rfl⟩
      rw [hc] at cc hcut
      simp only at cc hcut
      have HC := Lib.hid hc
      clear hc
      generalize (⟨p.toArray⟩ : ByteArray) = PX at gp cc
      obtain ⟨A, hA⟩ : ∃ A : ByteArray, ⟨nm.toArray⟩ = A := ⟨_, rfl⟩
      obtain ⟨B, hBb⟩ : ∃ B : ByteArray, ⟨vl.toArray⟩ = B := ⟨_, rfl⟩
      have hAl : A.data.toList = nm := by rw [← hA]
      have hBl : B.data.toList = vl := by rw [← hBb]
      have hBs : B.size ≤ 1048576 := by rw [bsize, hBl]; omega
      rw [hA, hBb] at cc
      cases ok
      · have HE := Lib.hid (HST.out _ (step_no HC.out))
        go_wp2_with (first
          | (go_at_call 22; refine (cc _).mono ?_; rintro e wA ⟨rfl, hbA⟩; clear cc gp
             have HA := Lib.hid (HK.out.step hbA)
             clear hbA HK
             obtain ⟨z0, z1, z2, z3, z4, z5, z6, z7, z8, z9, z10, z11⟩ := HA.out.res.cells
             simp only [RuV.zero, Wh.zero, nilV] at z0 z1 z2 z3 z4 z5 z6 z7 z8 z9 z10 z11
             have zf := HA.out.res.frozen))
        have HZ := HERR.out _ HE.out
        obtain ⟨p1, p2, p3⟩ := ru_post HA.out.res HA.out.bel (fun W' _ => RuS.zero W') HZ
        exact bodyPost_ret (results_cell2 rfl _ rfl rfl (load_ru p1)) rfl ⟨_, _, _, _, by rw [HZ]; rfl, p2, p3⟩
      have cn := fun v W h => refPlace_any v nameB A W h (by decide)
      rw [hAl, show placeN nameB nm 0 = nameL nm from rfl] at cn
      by_cases hneg : nameL nm < 0
      · have HE := Lib.hid (HST.out _ (step_name HC.out hneg))
        generalize nameL nm = N at cn hneg
        go_wp2_with (first
          | (go_at_call 22; refine (cc _).mono ?_; rintro e wA ⟨rfl, hbA⟩; clear cc gp
             have HA := Lib.hid (HK.out.step hbA)
             clear hbA HK
             obtain ⟨z0, z1, z2, z3, z4, z5, z6, z7, z8, z9, z10, z11⟩ := HA.out.res.cells
             simp only [RuV.zero, Wh.zero, nilV] at z0 z1 z2 z3 z4 z5 z6 z7 z8 z9 z10 z11
             have zf := HA.out.res.frozen)
          | (go_at_call 24; refine (refNames_any _).mono ?_; rintro e wB ⟨vn, rfl, hsn, hbB⟩
             have HB := Lib.hid (HA.out.step hbB)
             have HSN := Lib.hid hsn
             clear hbB hsn HA)
          | (go_at_call 23; refine (cn vn _ HSN.out).mono ?_; rintro e wC ⟨rfl, hbC⟩; clear cn
             have HC1 := Lib.hid (HB.out.step hbC)
             clear hbC HB z0 z1 z2 z3 z4 z5 z6 z7 z8 z9 z10 z11 zf
             obtain ⟨z0, z1, z2, z3, z4, z5, z6, z7, z8, z9, z10, z11⟩ := HC1.out.res.cells
             simp only [RuV.zero, Wh.zero, nilV] at z0 z1 z2 z3 z4 z5 z6 z7 z8 z9 z10 z11
             have zf := HC1.out.res.frozen))
        have HZ := HERR.out _ HE.out
        obtain ⟨p1, p2, p3⟩ := ru_post HC1.out.res HC1.out.bel (fun W' _ => RuS.zero W') HZ
        exact bodyPost_ret (results_cell2 rfl _ rfl rfl (load_ru p1)) rfl ⟨_, _, _, _, by rw [HZ]; rfl, p2, p3⟩
      obtain ⟨k, hk, hkn, hNk⟩ := nameL_get (nm := nm) (by omega)
      rw [hNk] at cn
      clear hneg
      have hkneg : ¬ ((k : Int) < 0) := by omega
      have cf := fun v W h => refPlace_any v freqB B W h (by decide)
      rw [hBl] at cf
      have cse := fun v W (h : Sl W v sn.length 1 (pcC sn)) => refPlace_any v sn A W h (by have := HN.out; have := HPN.out; omega)
      rw [hAl] at cse
      have HFR : Hid (freqL vl = max 0 (placeN freqB vl 0)) := Lib.hid rfl
      generalize placeN freqB vl 0 = pf at cf HFR
      have hk0 : (A.toList == [70, 82, 69, 81]) = decide (k = 0) := by
        rw [Lib.toList_data, hAl, hkn]
        rcases key_cases hk with rfl | rfl | rfl | rfl | rfl | rfl | rfl | rfl | rfl <;> rfl
      go_upto_region 12 with (first
        | (go_at_call 22; refine (cc _).mono ?_; rintro e wA ⟨rfl, hbA⟩; clear cc gp
           have HA := Lib.hid (HK.out.step hbA)
           clear hbA HK
           obtain ⟨z0, z1, z2, z3, z4, z5, z6, z7, z8, z9, z10, z11⟩ := HA.out.res.cells
           simp only [RuV.zero, Wh.zero, nilV] at z0 z1 z2 z3 z4 z5 z6 z7 z8 z9 z10 z11
           have zf := HA.out.res.frozen)
        | (go_at_call 24; refine (refNames_any _).mono ?_; rintro e wB ⟨vn, rfl, hsn, hbB⟩
           have HB := Lib.hid (HA.out.step hbB)
           have HSN := Lib.hid hsn
           clear hbB hsn HA)
        | (go_at_call 23; refine (cn vn _ HSN.out).mono ?_; rintro e wC ⟨rfl, hbC⟩; clear cn
           have HC1 := Lib.hid (HB.out.step hbC)
           clear hbC HB z0 z1 z2 z3 z4 z5 z6 z7 z8 z9 z10 z11 zf
           obtain ⟨z0, z1, z2, z3, z4, z5, z6, z7, z8, z9, z10, z11⟩ := HC1.out.res.cells
           simp only [RuV.zero, Wh.zero, nilV] at z0 z1 z2 z3 z4 z5 z6 z7 z8 z9 z10 z11
           have zf := HC1.out.res.frozen))
      go_cut [47] (fun sc wc => Hid (PP w n g cur fz wc q sn (.slice b1 q.mon.length d1) (.slice b2 q.md.length d2) (.slice b3 q.dys.length d3) (.slice b4 q.pos.length d4) v5) ∧ ∃ b : Bool, sc = .bool b ∧ Hid (b = true → KF k vl) ∧ Hid (b = false → ¬ KF k vl))
      case first =>
        clear cse
        by_cases h0 : k = 0
        · subst h0
          have hk1 : (A.toList == [70, 82, 69, 81]) = true := by rw [hk0]; rfl
          clear hk0
          by_cases hp1 : pf < 1
          · have E : Hid (freqL vl = 0) := Lib.hid (by rw [HFR.out]; omega)
            go_wp2_with (first
              | (go_at_call 25; refine (refFreqs_any _).mono ?_; rintro e wD ⟨vf, rfl, hsf, hbD⟩
                 have HD := Lib.hid (HC1.out.step hbD)
                 have HSF := Lib.hid hsf
                 clear hbD hsf HC1)
              | (go_at_call 23; refine (cf vf _ HSF.out).mono ?_; rintro e wE ⟨rfl, hbE⟩; clear cf
                 have HE1 := Lib.hid (HD.out.step hbE)
                 clear hbE HD z0 z1 z2 z3 z4 z5 z6 z7 z8 z9 z10 z11 zf
                 obtain ⟨z0, z1, z2, z3, z4, z5, z6, z7, z8, z9, z10, z11⟩ := HE1.out.res.cells
                 simp only [RuV.zero, Wh.zero, nilV] at z0 z1 z2 z3 z4 z5 z6 z7 z8 z9 z10 z11
                 have zf := HE1.out.res.frozen))
            go_meet
            case rel => exact ⟨HE1, true, rfl, Lib.hid (fun _ => ⟨rfl, E.out⟩), Lib.hid (fun h => (by cases h))⟩
          · have E : Hid (¬ freqL vl = 0) := Lib.hid (by rw [HFR.out]; omega)
            have hp1d : decide (pf < 1) = false := decide_eq_false hp1
            go_wp2_with (first
              | (go_at_call 25; refine (refFreqs_any _).mono ?_; rintro e wD ⟨vf, rfl, hsf, hbD⟩
                 have HD := Lib.hid (HC1.out.step hbD)
                 have HSF := Lib.hid hsf
                 clear hbD hsf HC1)
              | (go_at_call 23; refine (cf vf _ HSF.out).mono ?_; rintro e wE ⟨rfl, hbE⟩; clear cf
                 have HE1 := Lib.hid (HD.out.step hbE)
                 clear hbE HD z0 z1 z2 z3 z4 z5 z6 z7 z8 z9 z10 z11 zf
                 obtain ⟨z0, z1, z2, z3, z4, z5, z6, z7, z8, z9, z10, z11⟩ := HE1.out.res.cells
                 simp only [RuV.zero, Wh.zero, nilV] at z0 z1 z2 z3 z4 z5 z6 z7 z8 z9 z10 z11
                 have zf := HE1.out.res.frozen))
            go_meet
            case rel => exact ⟨HE1, false, rfl, Lib.hid (fun h => (by cases h)), Lib.hid (fun _ h => E.out h.2)⟩
        · have hk1 : (A.toList == [70, 82, 69, 81]) = false := by rw [hk0]; exact decide_eq_false h0
          have H00 := Lib.hid h0
          clear hk0 h0
          go_wp2
          go_meet
          case rel => exact ⟨HC1, false, rfl, Lib.hid (fun h => (by cases h)), Lib.hid (fun _ h => H00.out h.1)⟩
      case rest =>
        clear HC1 z0 z1 z2 z3 z4 z5 z6 z7 z8 z9 z10 z11 zf cf hk0
        obtain ⟨HB1, b, rfl, HT1, HG1⟩ := hcut
        cases b
        rotate_left
        · have HH := HT1.out rfl
          have HE := Lib.hid (HST.out _ (step_freq HC.out (by rw [hNk, HH.1]; rfl) HH.2))
          clear HH cse
          obtain ⟨z0, z1, z2, z3, z4, z5, z6, z7, z8, z9, z10, z11⟩ := HB1.out.res.cells
          simp only [RuV.zero, Wh.zero, nilV] at z0 z1 z2 z3 z4 z5 z6 z7 z8 z9 z10 z11
          have zf := HB1.out.res.frozen
          go_wp2
          have HZ := HERR.out _ HE.out
          obtain ⟨p1, p2, p3⟩ := ru_post HB1.out.res HB1.out.bel (fun W' _ => RuS.zero W') HZ
          exact bodyPost_ret (results_cell2 rfl _ rfl rfl (load_ru p1)) rfl ⟨_, _, _, _, by rw [HZ]; rfl, p2, p3⟩
        have HNF := Lib.hid (HG1.out rfl)
        clear HT1 HG1
        obtain ⟨z0, z1, z2, z3, z4, z5, z6, z7, z8, z9, z10, z11⟩ := HB1.out.res.cells
        simp only [RuV.zero, Wh.zero, nilV] at z0 z1 z2 z3 z4 z5 z6 z7 z8 z9 z10 z11
        have zf := HB1.out.res.frozen
        by_cases hmem : nm ∈ sn
        · have HE := Lib.hid (HST.out _ (step_seen HC.out hNk HNF.out hmem))
          have hge := placeN_mem (k := 0) hmem
          generalize placeN sn nm 0 = Np at cse hge
          clear hmem
          go_wp2_with (first
            | (go_at_call 23; refine (cse _ _ (Sl.of_own HB1.out.rw.o5)).mono ?_; rintro e wF ⟨rfl, hbF⟩; clear cse
               have HF1 := Lib.hid (HB1.out.step hbF)
               clear hbF HB1 z0 z1 z2 z3 z4 z5 z6 z7 z8 z9 z10 z11 zf
               obtain ⟨z0, z1, z2, z3, z4, z5, z6, z7, z8, z9, z10, z11⟩ := HF1.out.res.cells
               simp only [RuV.zero, Wh.zero, nilV] at z0 z1 z2 z3 z4 z5 z6 z7 z8 z9 z10 z11
               have zf := HF1.out.res.frozen))
          have HZ := HERR.out _ HE.out
          obtain ⟨p1, p2, p3⟩ := ru_post HF1.out.res HF1.out.bel (fun W' _ => RuS.zero W') HZ
          exact bodyPost_ret (results_cell2 rfl _ rfl rfl (load_ru p1)) rfl ⟨_, _, _, _, by rw [HZ]; rfl, p2, p3⟩
        have hnot := placeN_not hmem
        rw [hnot] at cse
        have HSO := Lib.hid (step_one (q := q) HC.out hk hkn HNF.out hmem)
        clear hnot hmem
        have hAk : (⟨(nameB.getD k []).toArray⟩ : ByteArray) = A := by rw [← hkn]; exact hA
        have hsl : sn.length ≤ 1048577 := by have := HN.out.1; have := HPN.out.2; omega
        have hlq : lenR q ≤ 50000000 := by have := HN.out.2; have := HPN.out.2; omega
        have co : ∀ (sn' : List (List UInt8)) (v' : Value) (W : World), Rw W n q sn' (.slice b1 q.mon.length d1) (.slice b2 q.md.length d2) (.slice b3 q.dys.length d3) (.slice b4 q.pos.length d4) v' → n ≤ W.heap.size → Calls Tryz.prog 26 #[ruV q (.slice b1 q.mon.length d1) (.slice b2 q.md.length d2) (.slice b3 q.dys.length d3) (.slice b4 q.pos.length d4), .string A, .string B] W (fun e w' => ∃ (q' : RuV) (u1 u2 u3 u4 : Value) (c : Int), e = .returned (.tuple #[.agg #[.int .i64 q'.freq, .int .i64 q'.intv, .int .i64 q'.cnt, .bool q'.has, .int .i64 q'.unt.secs, .bool q'.unt.utc, .bool q'.unt.date, u1, u2, u3, u4, .int .i64 q'.wk], .int .i64 c]) ∧ Below n W w' ∧ KI W w' ∧ Rw w' n q' sn' u1 u2 u3 u4 v' ∧ lenR q' ≤ lenR q + 24 ∧ ((c = 0 ∧ oneL k q vl = .ok q') ∨ (c ≠ 0 ∧ oneL k q vl = .error c))) := fun sn' v' W h1 h2 => by
          have := one_any k hk q _ _ _ _ v' sn' B hBs n W h1 h2 hlq
          rw [hAk, hBl] at this
          exact this
        unfold ruV at co
        have HAA := Lib.hid hA
        obtain ⟨i0, hi0, hz0, hz1, hz2⟩ := info_parts infoSv
        clear hAk hlq hA hBb hAl hBl hBs hkn hNk
        have hnw : n ≤ wc.heap.size := HB1.out.lo3
        go_upto_region 18 with (first
          | (go_at_call 23; refine (cse _ _ (Sl.of_own HB1.out.rw.o5)).mono ?_; rintro e wF ⟨rfl, hbF⟩; clear cse
             have HF1 := Lib.hid (HB1.out.step hbF)
             clear hbF HB1 z0 z1 z2 z3 z4 z5 z6 z7 z8 z9 z10 z11 zf
             obtain ⟨z0, z1, z2, z3, z4, z5, z6, z7, z8, z9, z10, z11⟩ := HF1.out.res.cells
             simp only [RuV.zero, Wh.zero, nilV] at z0 z1 z2 z3 z4 z5 z6 z7 z8 z9 z10 z11
             have zf := HF1.out.res.frozen)
          | (at_builtin
             refine wpList_append_own_at _ rfl _ _ 39 rfl n 9 i0 (.string ⟨#[]⟩) 1 16 Tryz.underlying39 hi0 hz0 hz1 hz2 rfl (by decide) _ _ _ rfl (HF1.out.rw.o5.alloc _) ⟨_, 0, none⟩ 1 1 [.string A] rfl rfl (cells_newV _ [.string A] _) (by simp [Value.oneCell']) (by unfold maxLen; omega) (by omega) (by have := HF1.out.lo3; simp; omega) ?_
             intro v' w5 hown' hgrow _ _
             have HS5 := Lib.hid (HF1.out.seen nm (by rw [HAA.out]; exact hown') hgrow)
             clear hown' hgrow HF1 z0 z1 z2 z3 z4 z5 z6 z7 z8 z9 z10 z11 zf
             obtain ⟨x0, x1, x2, x3, x4, x5, x6, x7, x8, x9, x10, x11⟩ := HS5.out.var.cells)
          | (go_at_call 26; refine (co _ _ _ HS5.out.rw HS5.out.lo3).mono ?_; rintro e wG ⟨q', y1, y2, y3, y4, c, rfl, hbG, _, hrG, hlG, hres⟩; clear co x0 x1 x2 x3 x4 x5 x6 x7 x8 x9 x10 x11
             obtain ⟨f1, g1, f2, g2, f3, g3, f4, g4, rfl, rfl, rfl, rfl⟩ := hrG.lits
             obtain ⟨m1, m2, m3, m4, m5, m6⟩ := HS5.out.one hbG hrG
             have hal := (Below.refl wG.heap.size wG).alloc (Nat.le_refl _) (.cells #[.int .i64 q'.freq, .int .i64 q'.intv, .int .i64 q'.cnt, .bool q'.has, .int .i64 q'.unt.secs, .bool q'.unt.utc, .bool q'.unt.date, .slice f1 q'.mon.length g1, .slice f2 q'.md.length g2, .slice f3 q'.dys.length g3, .slice f4 q'.pos.length g4, .int .i64 q'.wk] 27)
             have HM := Lib.hid (And.intro (m1.step hal) (And.intro (m2.step hal) (And.intro (m3.below hal) (And.intro ((hal.block _ (Array.getElem?_eq_some_iff.1 m4).1).trans m4) (And.intro (bstep m5 hal) (And.intro (Nat.le_trans m6 hal.size) (And.intro HS5.out.lo1 HS5.out.lo2)))))))
             have HX := Lib.hid (RVar.new wG q' (.slice f1 q'.mon.length g1) (.slice f2 q'.md.length g2) (.slice f3 q'.dys.length g3) (.slice f4 q'.pos.length g4))
             have HRS := Lib.hid hres
             have HLG := Lib.hid hlG
             clear hbG hrG hal m1 m2 m3 m4 m5 m6 hres hlG HS5))
        generalize wG.alloc (.cells #[.int .i64 q'.freq, .int .i64 q'.intv, .int .i64 q'.cnt, .bool q'.has, .int .i64 q'.unt.secs, .bool q'.unt.utc, .bool q'.unt.date, .slice f1 q'.mon.length g1, .slice f2 q'.md.length g2, .slice f3 q'.dys.length g3, .slice f4 q'.pos.length g4, .int .i64 q'.wk] 27) = wH at HM HX ⊢
        obtain ⟨hm1, hm2, hm3, hm4, hm5, hm6, hm7, hm8⟩ := HM.out
        rcases HRS.out with ⟨rfl, hone⟩ | ⟨hc0, hone⟩
        · have HNX : Hid (∃ q sn u1 u2 u3 u4, runV RuV.init [] (P.take (i + 1)) = .ok (q, sn) ∧ PP w n g cur fz (put12 wH (w.heap.size + 1) (.int .i64 q'.freq) (.int .i64 q'.intv) (.int .i64 q'.cnt) (.bool q'.has) (.int .i64 q'.unt.secs) (.bool q'.unt.utc) (.bool q'.unt.date) (.slice f1 q'.mon.length g1) (.slice f2 q'.md.length g2) (.slice f3 q'.dys.length g3) (.slice f4 q'.pos.length g4) (.int .i64 q'.wk)) q sn u1 u2 u3 u4 v' ∧ sn.length ≤ i + 1 ∧ lenR q ≤ 24 * (i + 1)) := Lib.hid
            ⟨q', sn ++ [nm], _, _, _, _, by rw [HS.out, HSO.out, hone], PP.next hm1 hm2 hm3 hm4 hm5 hm7 hm8 hm6, by have := HN.out.1; simp; omega, by have := HN.out.2; have := HLG.out; omega⟩
          obtain ⟨y0, y1, y2, y3, y4, y5, y6, y7, y8, y9, y10, y11⟩ := HX.out.cells
          obtain ⟨x0, x1, x2, x3, x4, x5, x6, x7, x8, x9, x10, x11⟩ := hm1.cells
          have xf := hm1.frozen
          have hPb := HPN.out.2
          clear hm1 hm2 hm3 hm4 hm5 hm6 hm7 hm8 hone
          go_wp2
          go_roundg (P.length - (i + 1))
          case measure => omega
          case rel => exact ⟨i + 1, _, rfl, by omega, Nat.le_refl _, by go_num, HNX⟩
        · have HE := Lib.hid (HST.out c (by rw [HSO.out, hone]))
          have hcb : (c != 0) = true := by rw [bne_iff_ne]; exact hc0
          have HR2 := Lib.hid hm2
          have HB2 := Lib.hid hm5
          obtain ⟨z0, z1, z2, z3, z4, z5, z6, z7, z8, z9, z10, z11⟩ := hm2.cells
          simp only [RuV.zero, Wh.zero, nilV] at z0 z1 z2 z3 z4 z5 z6 z7 z8 z9 z10 z11
          have zf := hm2.frozen
          clear hm1 hm2 hm3 hm4 hm5 hm6 hm7 hm8 hone hc0
          go_wp2
          have HZ := HERR.out _ HE.out
          obtain ⟨p1, p2, p3⟩ := ru_post HR2.out HB2.out (fun W' _ => RuS.zero W') HZ
          exact bodyPost_ret (results_cell2 rfl _ rfl rfl (load_ru p1)) rfl ⟨_, _, _, _, by rw [HZ]; rfl, p2, p3⟩
    · obtain rfl : i = P.length := by omega
      have hrun := HF.out
      rw [List.take_length] at hrun
      have HEV : Hid (parV s.data.toList = if q.freq = 0 then (RuV.zero, 26) else if fitV q = true then (q, 0) else (RuV.zero, 14)) := Lib.hid (by rw [HPV.out, hrun]; rfl)
      have hU : UOk q := runV_u _ _ _ (q, sn) (show UOk RuV.init from ⟨by decide, by decide⟩) hrun
      have hl4 := fit_len 50000000 (show lenR q ≤ 50000000 by have := HN.out.2; have := HPN.out.2; omega)
      have hS : ∀ W', Rw W' n q sn (.slice b1 q.mon.length d1) (.slice b2 q.md.length d2) (.slice b3 q.dys.length d3) (.slice b4 q.pos.length d4) v5 → RuS W' q (.slice b1 q.mon.length d1) (.slice b2 q.md.length d2) (.slice b3 q.dys.length d3) (.slice b4 q.pos.length d4) := fun W' h => ⟨Sl.of_own h.o1, Sl.of_own h.o2, Sl.of_own h.o3, Sl.of_own h.o4, by omega, by omega, by omega, by omega⟩
      have cF := fun W (h : Rw W n q sn (.slice b1 q.mon.length d1) (.slice b2 q.md.length d2) (.slice b3 q.dys.length d3) (.slice b4 q.pos.length d4) v5) => refFit14_any q _ _ _ _ W hU (hS W h)
      unfold ruV at cF
      have HSR := Lib.hid hS
      clear hrun hU hl4 hS
      obtain ⟨z0, z1, z2, z3, z4, z5, z6, z7, z8, z9, z10, z11⟩ := HK.out.res.cells
      simp only [RuV.zero, Wh.zero, nilV] at z0 z1 z2 z3 z4 z5 z6 z7 z8 z9 z10 z11
      have zf := HK.out.res.frozen
      obtain ⟨x0, x1, x2, x3, x4, x5, x6, x7, x8, x9, x10, x11⟩ := HK.out.var.cells
      by_cases h0 : q.freq = 0
      · have h0b : (q.freq == 0) = true := by rw [beq_iff_eq]; exact h0
        have HZ : Hid (parV s.data.toList = (RuV.zero, 26)) := Lib.hid (by rw [HEV.out, if_pos h0])
        clear h0 cF
        go_wp2
        obtain ⟨p1, p2, p3⟩ := ru_post HK.out.res HK.out.bel (fun W' _ => RuS.zero W') HZ.out
        exact bodyPost_ret (results_cell2 rfl _ rfl rfl (load_ru p1)) rfl ⟨_, _, _, _, by rw [HZ.out]; rfl, p2, p3⟩
      · have h0b : (q.freq == 0) = false := by rw [beq_eq_false_iff_ne]; exact h0
        have H00 := Lib.hid h0
        clear h0
        cases hfit : fitV q
        · have HZ : Hid (parV s.data.toList = (RuV.zero, 14)) := Lib.hid (by rw [HEV.out, if_neg H00.out, hfit]; rfl)
          simp only [hfit] at cF
          clear hfit
          go_wp2_with (first
            | (go_at_call 12; refine (cF _ HK.out.rw).mono ?_; rintro e wI ⟨rfl, hbI⟩; clear cF z0 z1 z2 z3 z4 z5 z6 z7 z8 z9 z10 z11 x0 x1 x2 x3 x4 x5 x6 x7 x8 x9 x10 x11 zf
               have HK2 := Lib.hid (HK.out.step hbI)
               clear hbI
               obtain ⟨z0, z1, z2, z3, z4, z5, z6, z7, z8, z9, z10, z11⟩ := HK2.out.res.cells
               simp only [RuV.zero, Wh.zero, nilV] at z0 z1 z2 z3 z4 z5 z6 z7 z8 z9 z10 z11
               have zf := HK2.out.res.frozen))
          obtain ⟨p1, p2, p3⟩ := ru_post HK2.out.res HK2.out.bel (fun W' _ => RuS.zero W') HZ.out
          exact bodyPost_ret (results_cell2 rfl _ rfl rfl (load_ru p1)) rfl ⟨_, _, _, _, by rw [HZ.out]; rfl, p2, p3⟩
        · have HZ : Hid (parV s.data.toList = (q, 0)) := Lib.hid (by rw [HEV.out, if_neg H00.out, hfit]; rfl)
          simp only [hfit] at cF
          clear hfit
          go_wp2_with (first
            | (go_at_call 12; refine (cF _ HK.out.rw).mono ?_; rintro e wI ⟨rfl, hbI⟩; clear cF z0 z1 z2 z3 z4 z5 z6 z7 z8 z9 z10 z11 x0 x1 x2 x3 x4 x5 x6 x7 x8 x9 x10 x11 zf
               have HK2 := Lib.hid (HK.out.step hbI)
               clear hbI
               obtain ⟨x0, x1, x2, x3, x4, x5, x6, x7, x8, x9, x10, x11⟩ := HK2.out.var.cells
               obtain ⟨z0, z1, z2, z3, z4, z5, z6, z7, z8, z9, z10, z11⟩ := HK2.out.res.cells
               simp only [RuV.zero, Wh.zero, nilV] at z0 z1 z2 z3 z4 z5 z6 z7 z8 z9 z10 z11
               have zf := HK2.out.res.frozen))
          obtain ⟨p1, p2, p3⟩ := ru_post HK2.out.res HK2.out.bel (q := q) (x1 := .slice b1 q.mon.length d1) (x2 := .slice b2 q.md.length d2) (x3 := .slice b3 q.dys.length d3) (x4 := .slice b4 q.pos.length d4) (fun W' hW => by
            rcases hW with hW | ⟨z0, z1, z2, z3, z4, z5, z6, z7, z8, z9, z10, z11, rfl⟩
            · exact HSR.out _ (HK2.out.rw.below hW)
            · exact HSR.out _ (HK2.out.rw.put12 (by have := HK2.out.lo1; omega) _ _ _ _ _ _ _ _ _ _ _ _)) HZ.out
          exact bodyPost_ret (results_cell2 rfl _ rfl rfl (load_ru p1)) rfl ⟨_, _, _, _, by rw [HZ.out]; rfl, p2, p3⟩
end Go.Proofs.YtnidkcedomhofaaGreatDoor
