/-
  WalAll is true of every two numbers and every deeds.
-/
import Derived.Test.YtlpijikhbjkmfaaG42
namespace Go.Proofs.Ytlpijikhbjkmfaa
open Go.RowKit

theorem u64_nat (x : Int) : ∃ X : Nat, IntKind.u64.wrap x = (X : Int) ∧ X < 18446744073709551616 := by
  rw [IntKind.wrap_u64]
  exact ⟨(x % 18446744073709551616).toNat, by omega, by omega⟩

/-- What a commit over a settled device comes to. -/
theorem commit_ways {d : D} {h g sq : Nat} {now want : List ByteArray} (hh : 1 ≤ h ∧ h ≤ 512) (hg : 1 ≤ g ∧ g ≤ 256) (hsq : sq < 256 ^ 8) (S : SetD h g now d) (hw : ImageP want (h : Int)) :
    ((commitD d h g sq want).2.1 = 18 ∧ (commitD d h g sq want).2.2 = false ∧ SetD h g now (commitD d h g sq want).1) ∨ ((commitD d h g sq want).2.1 = 0 ∧ (commitD d h g sq want).2.2 = true ∧ SetD h g want (commitD d h g sq want).1) ∨
    ((commitD d h g sq want).2.1 = 16 ∧ PnD h g now want (commitD d h g sq want).2.2 (commitD d h g sq want).1) := by
  rcases commit_Z hh hg hsq S hw with h1 | ⟨h1, h2⟩ | ⟨h1, h2, h3, h4⟩
  · rw [h1]; exact .inl ⟨rfl, rfl, S⟩
  · rw [h2]; exact .inr (.inl ⟨rfl, rfl, h1 ▸ S⟩)
  · rcases h3 with h3 | h3
    · exact .inr (.inl ⟨h3, (h4 h3).1, (h4 h3).2⟩)
    · exact .inr (.inr ⟨h3, pnD_of h1 h2⟩)

set_option maxRecDepth 100000 in
set_option maxHeartbeats 32000000 in
theorem walAll_any (x y : Int) (L : Option Addr) (k kc : Nat) (l : List DR) (w : World) (hL : Reads w w.heap.size 5 L k (encD l)) (hk : k ≤ kc) (_hkm : kc ≤ maxLen) (hD : ∀ r ∈ l, DOk w w.heap.size r) :
    Calls Try.prog 4 #[.int .i64 x, .int .i64 y, .slice L k kc] w fun e w' => e = .returned (.bool true) ∧ Below w.heap.size w w' := by
  unfold maxLen at _hkm
  obtain ⟨X, hX, hX2⟩ := u64_nat x
  obtain ⟨Y, hY, hY2⟩ := u64_nat y
  obtain ⟨h, hh⟩ : ∃ h, h = 1 + X % 70 := ⟨_, rfl⟩
  obtain ⟨g, hg⟩ : ∃ g, g = 1 + Y % 9 := ⟨_, rfl⟩
  have e1 : (1 : Int) + (X : Int) % 70 = (h : Int) := by omega
  have e2 : (1 : Int) + (Y : Int) % 9 = (g : Int) := by omega
  have hh2 : 1 ≤ h ∧ h ≤ 512 := by omega
  have hg2 : 1 ≤ g ∧ g ≤ 256 := by omega
  have hh70 : h ≤ 70 := by omega
  have hg9 : g ≤ 9 := by omega
  have HHG := Lib.hid (And.intro hh2 hg2)
  have HDE := Lib.hid (And.intro hL hD)
  have HKL := Lib.hid (show l.length = k by have := hL.1; rw [encD_length] at this; omega)
  have MS := Lib.hid (make_settled hh2 hg2)
  have cM := fun W => makeP_any (h : Int) (g : Int) W
  have hme : (makeD (h : Int) (g : Int)).2 = 0 := MS.out.1
  rw [hme] at cM
  obtain ⟨d0, hd0⟩ : ∃ d0, d0 = (makeD (h : Int) (g : Int)).1 := ⟨_, rfl⟩
  rw [← hd0] at cM MS
  have HIM : Hid (ImageP (List.replicate h zeroB) (h : Int)) := Lib.hid ⟨fun s hs => by rw [(List.mem_replicate.1 hs).2]; exact zeroB_size, by simp⟩
  obtain ⟨im0, him0⟩ : ∃ im0, im0 = List.replicate h zeroB := ⟨_, rfl⟩
  rw [← him0] at MS HIM
  clear hd0 him0 hme hL hD hh hg hh2 hg2
  go_enter Try.func4, Try.ntmps4
  go_wp2_with fail
  refine (cM _).mono ?_
  rintro e w1 ⟨A1, n1, c1, A1', m1, c1', rfl, hd1, hb1⟩
  obtain ⟨g7, hg7⟩ : ∃ g7, g7 = w1.heap.size := ⟨_, rfl⟩
  have hlen0 : n1 = 1 + listsN h + g + h := by
    have := MS.out.2.1.z.1.1
    rw [← hd1.bs.lenS]
    omega
  have hn10 : ((n1 : Int) == 0) = false := by rw [beq_eq_false_iff_ne]; omega
  have WA : Hid (Wa w (w1.alloc (.cells #[.slice A1 n1 c1, .slice A1' m1 c1', .int .i64 d0.left, .bool d0.dead] 25)) g7 ⟨A1, n1, c1, A1', m1, c1'⟩ d0 [] []) := Lib.hid ⟨by rw [hg7]; exact B4.new w1 _ _ _ _, hd1.alloc _, fun t ht => absurd ht (by simp), fun t ht => absurd ht (by simp), hb1.alloc hb1.size _, by rw [hg7]; exact hb1.size, MS.out.2.2.1, by rw [MS.out.2.2.2]; decide⟩
  clear hd1 hb1 cM hlen0
  have ch := fun A A' n c m c' W hh => homeP_any A A' n c m c' d0 (h : Int) (g : Int) W hh
  rw [(MS.out.2.1.calm HHG.out.1 HHG.out.2).2] at ch
  go_wp2_with fail
  rw [← hg7]
  generalize w1.alloc (.cells #[.slice A1 n1 c1, .slice A1' m1 c1', .int .i64 d0.left, .bool d0.dead] 25) = w2 at WA ⊢
  clear hg7
  refine (ch _ _ _ _ _ _ _ WA.out.dv).mono ?_
  rintro e w3 ⟨A3, n3, c3, rfl, hr3, h512, _, _, hb3⟩
  obtain rfl : h = n3 := by have h8 := hr3.lenS; have h9 := HIM.out.2; omega
  have WB := Lib.hid ((WA.out.step hb3).add hr3 h512)
  have ehh : ((h : Int) != (h : Int)) = false := by simp
  clear WA hr3 hb3 ch
  go_wp2
  go_loopg [9, 61] k (fun gk s9 s61 wr => ∃ (i : Nat) (N : Option Addr) (c : Nat) (now : List ByteArray) (v : RV) (d : D), i ≤ k ∧ k - i ≤ gk ∧ s61 = .int .i64 i ∧ s9 = .slice N h c ∧ Hid (Wa w wr g7 v d [(N, h, now)] []) ∧ Hid (SetD h g now d ∧ ImageP now (h : Int)))
  case atStart => exact ⟨0, A3, c3, im0, _, d0, Nat.zero_le _, by omega, rfl, rfl, WB, Lib.hid ⟨MS.out.2.1, HIM.out⟩⟩
  case round =>
    clear WB MS HIM ehh hn10
    obtain ⟨i, N, c, now, v, d, hi, hgk, rfl, rfl, WA, SD⟩ := hrel
    by_cases hlt : i < k
    · have hil : (i : Int) < (k : Int) := by omega
      obtain ⟨r, hr⟩ : ∃ r, l[i]? = some r := ⟨_, List.getElem?_eq_getElem (by rw [HKL.out]; exact hlt)⟩
      obtain ⟨b, o, rfl, hb, q0, q1, q2, q3, q4⟩ := (HDE.out.1.below WA.out.below).deed hr
      have HOK := Lib.hid ((HDE.out.2 r (List.mem_of_getElem? hr)).below WA.out.below)
      obtain ⟨g11, hg11⟩ : ∃ g11, g11 = wr.heap.size := ⟨_, rfl⟩
      have HDR := Lib.hid (HDE.out.2 r (List.mem_of_getElem? hr))
      have W0 : Hid (Wa w (wr.alloc (deedO r)) g7 v d [(N, h, now)] [(g11, deedO r)]) := Lib.hid (WA.out.var (deedO r) ((Below.refl _ _).alloc (Nat.le_refl _) _) (by rw [hg11]; exact heap_alloc_new wr _) hg11)
      by_cases h12 : 12 ≤ i
      · have t12 : (12 : Int) ≤ (i : Int) := by omega
        clear hr
        go_wp2_with fail
        refine (awake3_any _).mono ?_
        rintro e w9 ⟨rfl, hb9⟩
        have B9 := Lib.hid (bstep W0.out.below hb9)
        clear hb9
        go_wp2
        go_ret
        exact ⟨rfl, B9.out⟩
      · have t12 : ¬ (12 : Int) ≤ (i : Int) := by omega
        have ct := turned_any N h c now r.P r.KK r.Q r.m r.mc r.nk r.ck r.nq r.cq r.ats r.by_ r.left _ (W0.out.img N h now (by simp)) (by omega) (((HDR.out.below W0.out.below).at_).more W0.out.below.size) (by have := HDR.out.am; unfold maxLen at this; omega) HDR.out.by_
        obtain ⟨want, hwant⟩ : ∃ want, want = turnZ now r.by_ r.ats := ⟨_, rfl⟩
        rw [← hwant] at ct
        have HWI : Hid (ImageP want (h : Int)) := Lib.hid (by rw [hwant]; exact turnZ_image SD.out.2 _ _)
        have HNI := Lib.hid SD.out.2
        clear hr hwant
        go_wp2_with fail
        clear q0 q1 q2 q3 q4
        rw [← hg11]
        change Calls _ _ _ (wr.alloc (deedO r)) _
        refine ct.mono ?_
        rintro e w4 ⟨WN, wc, rfl, hrw, hb4⟩
        have W1 := Lib.hid ((W0.out.step hb4).add hrw (by omega))
        clear W0 hrw hb4 ct WA hg11
        obtain ⟨x0, x1, x2, x3, xf⟩ := W1.out.box.cells
        obtain ⟨y0, y1, y2, y3, y4, yf⟩ := W1.out.deed (q := g11) (r := r) (by simp)
        have W1F := Lib.hid W1.out.fit
        go_wp2_with fail
        refine (armT_any _ _ _ _ _ _ d r.left _ W1.out.dv).mono ?_
        rintro e wq ⟨E1, e1', f1', E2, e2', f2', rfl, hd, hb⟩
        have WA1 := Lib.hid (W1.out.step hb)
        clear W1 hb
        have HF1 : Hid (FitP (armD d r.left) ∧ (armD d r.left).left ≤ 9223372036854775807) := Lib.hid ⟨fit_arm W1F.out.1 _, left_arm W1F.out.2 HDR.out.left⟩
        obtain ⟨x0, x1, x2, x3, xf⟩ := WA1.out.box.cells
        go_upto_region 14 with fail
        change Code.wp _ _ _ _ (putD _ g7 (.slice E1 e1' f1') (.slice E2 e2' f2') (.int .i64 (armD d r.left).left) (.bool (armD d r.left).dead))
        have WA2 := Lib.hid (WA1.out.put (v2 := ⟨E1, e1', f1', E2, e2', f2'⟩) hd HF1.out)
        clear WA1 hd x0 x1 x2 x3 xf
        generalize putD _ g7 (.slice E1 e1' f1') (.slice E2 e2' f2') (.int .i64 (armD d r.left).left) (.bool (armD d r.left).dead) = wp at WA2 ⊢
        clear y0 y1 y2 y3 y4 yf
        have SA := Lib.hid (SD.out.1.arm r.left)
        obtain ⟨da, hda⟩ : ∃ da, da = armD d r.left := ⟨_, rfl⟩
        rw [← hda] at SA HF1 WA2
        clear hda SD
        have hi12 : i < 12 := by omega
        have HCW := Lib.hid (commit_ways (sq := i) HHG.out.1 HHG.out.2 (by omega) SA.out HWI.out)
        have HF2 : Hid (FitP (commitD da h g i want).1 ∧ (commitD da h g i want).1.left ≤ 9223372036854775807) := Lib.hid ⟨fit_commit HF1.out.1 _ _ _ _, left_commit HF1.out.2 _ _ _ _⟩
        have cc := commitP_any E1 E2 e1' f1' e2' f2' da (h : Int) (g : Int) i WN h wc want _ WA2.out.dv (WA2.out.img WN h want (by simp)) (by omega) HF1.out.1 HF1.out.2 (by omega)
        obtain ⟨R, hR⟩ : ∃ R, R = commitD da (h : Int) (g : Int) i want := ⟨_, rfl⟩
        rw [← hR] at cc HCW HF2
        obtain ⟨cd, ce, cn⟩ := R
        clear hR
        obtain ⟨x0, x1, x2, x3, xf⟩ := WA2.out.box.cells
        go_wp2_with fail
        refine cc.mono ?_
        rintro e wq ⟨E1, e1', f1', E2, e2', f2', rfl, hd, hb⟩
        have WA3 := Lib.hid (WA2.out.step hb)
        clear WA2 hb
        dsimp only at hd HCW HF2
        obtain ⟨x0, x1, x2, x3, xf⟩ := WA3.out.box.cells
        go_upto_region 16 with fail
        change Code.wp _ _ _ _ (putD _ g7 (.slice E1 e1' f1') (.slice E2 e2' f2') (.int .i64 (cd).left) (.bool (cd).dead))
        have WA4 := Lib.hid (WA3.out.put (v2 := ⟨E1, e1', f1', E2, e2', f2'⟩) hd HF2.out)
        clear WA3 hd x0 x1 x2 x3 xf
        generalize putD _ g7 (.slice E1 e1' f1') (.slice E2 e2' f2') (.int .i64 (cd).left) (.bool (cd).dead) = wp at WA4 ⊢
        clear cc
        obtain ⟨y0, y1, y2, y3, y4, yf⟩ := WA4.out.deed (q := g11) (r := r) (by simp)
        obtain ⟨x0, x1, x2, x3, xf⟩ := WA4.out.box.cells
        rcases HCW.out with ⟨h1, h2, h3⟩ | ⟨h1, h2, h3⟩ | ⟨h1, h2⟩
        · subst h1; subst h2
          have SX := Lib.hid h3
          clear HCW h3
          as_aux_lemma =>
            have HIMG := Lib.hid (show ImageP now (h : Int) from HNI.out)
            clear x0 x1 x2 x3 xf
            obtain ⟨x0, x1, x2, x3, xf⟩ := WA4.out.box.cells
            have ch := homeP_any E1 E2 e1' f1' e2' f2' _ (h : Int) (g : Int) _ WA4.out.dv
            rw [(SX.out.calm HHG.out.1 HHG.out.2).2] at ch
            go_wp2_with fail
            refine ch.mono ?_
            rintro e wh ⟨GA, gn, gc, rfl, hrg, hg512, _, _, hb⟩
            obtain rfl : h = gn := by have h8 := hrg.lenS; have h9 := HIMG.out.2; omega
            have WA5 := Lib.hid (WA4.out.step hb)
            have WA6 := Lib.hid (WA5.out.add hrg hg512)
            clear WA4 WA5 hb hrg ch x0 x1 x2 x3 xf
            go_wp2_with fail
            refine (refTexts_any _ _ _ _ _ _ now now _ (WA6.out.img GA h now (by simp)) (WA6.out.img N h now (by simp)) (by omega) (by omega)).mono ?_
            rintro e wt ⟨rfl, hb⟩
            have WA7 := Lib.hid (WA6.out.step hb)
            clear WA6 hb
            rw [decide_eq_true (rfl : now = now)]
            go_wp2
            go_roundg (k - (i + 1))
            case measure => omega
            case rel => exact ⟨i + 1, GA, gc, now, _, cd, by omega, by omega, by go_num, rfl, Lib.hid (WA7.out.less (by simp)), Lib.hid ⟨SX.out, HIMG.out⟩⟩
        · subst h1; subst h2
          have SX := Lib.hid h3
          clear HCW h3
          by_cases hl0 : r.left < 0
          · have dl0 : decide (r.left < 0) = true := decide_eq_true hl0
            as_aux_lemma =>
              have HIMG := Lib.hid (show ImageP want (h : Int) from HWI.out)
              clear x0 x1 x2 x3 xf
              obtain ⟨x0, x1, x2, x3, xf⟩ := WA4.out.box.cells
              have ch := homeP_any E1 E2 e1' f1' e2' f2' _ (h : Int) (g : Int) _ WA4.out.dv
              rw [(SX.out.calm HHG.out.1 HHG.out.2).2] at ch
              go_wp2_with fail
              refine ch.mono ?_
              rintro e wh ⟨GA, gn, gc, rfl, hrg, hg512, _, _, hb⟩
              obtain rfl : h = gn := by have h8 := hrg.lenS; have h9 := HIMG.out.2; omega
              have WA8 := Lib.hid (WA4.out.step hb)
              have WA9 := Lib.hid (WA8.out.add hrg hg512)
              clear WA4 WA8 hb hrg ch x0 x1 x2 x3 xf
              go_wp2_with fail
              refine (refTexts_any _ _ _ _ _ _ want now _ (WA9.out.img GA h want (by simp)) (WA9.out.img N h now (by simp)) (by omega) (by omega)).mono ?_
              rintro e wt ⟨rfl, hb⟩
              have WA10 := Lib.hid (WA9.out.step hb)
              clear WA9 hb
              obtain ⟨tw, htw⟩ : ∃ tw, tw = decide (want = now) := ⟨_, rfl⟩
              rw [← htw]
              clear htw
              cases tw with
              | true =>
                go_wp2_with fail
                refine (refTexts_any _ _ _ _ _ _ want want _ (WA10.out.img GA h want (by simp)) (WA10.out.img WN h want (by simp)) (by omega) (by omega)).mono ?_
                rintro e wt ⟨rfl, hb⟩
                have WA12 := Lib.hid (WA10.out.step hb)
                clear WA10 hb
                rw [decide_eq_true (rfl : want = want)]
                go_wp2
                go_roundg (k - (i + 1))
                case measure => omega
                case rel => exact ⟨i + 1, GA, gc, want, _, cd, by omega, by omega, by go_num, rfl, Lib.hid (WA12.out.less (by simp)), Lib.hid ⟨SX.out, HIMG.out⟩⟩
              | false =>
                go_wp2_with fail
                refine (refTexts_any _ _ _ _ _ _ want want _ (WA10.out.img GA h want (by simp)) (WA10.out.img WN h want (by simp)) (by omega) (by omega)).mono ?_
                rintro e wt ⟨rfl, hb⟩
                have WA11 := Lib.hid (WA10.out.step hb)
                clear WA10 hb
                rw [decide_eq_true (rfl : want = want)]
                go_wp2_with fail
                refine (refTexts_any _ _ _ _ _ _ want want _ (WA11.out.img GA h want (by simp)) (WA11.out.img WN h want (by simp)) (by omega) (by omega)).mono ?_
                rintro e wt ⟨rfl, hb⟩
                have WA13 := Lib.hid (WA11.out.step hb)
                clear WA11 hb
                rw [decide_eq_true (rfl : want = want)]
                go_wp2
                go_roundg (k - (i + 1))
                case measure => omega
                case rel => exact ⟨i + 1, GA, gc, want, _, cd, by omega, by omega, by go_num, rfl, Lib.hid (WA13.out.less (by simp)), Lib.hid ⟨SX.out, HIMG.out⟩⟩
          · have dl0 : decide (r.left < 0) = false := decide_eq_false hl0
            have HP : Hid (PnD h g now want true cd) := Lib.hid (pnD_settled SX.out)
            as_aux_lemma =>
              clear x0 x1 x2 x3 xf
              have hnk : r.nk ≤ 9223372036854775807 := by have := HDR.out.kn; unfold maxLen at this; omega
              have hnq : r.nq ≤ 9223372036854775807 := by have := HDR.out.ln; unfold maxLen at this; omega
              obtain ⟨K6, hK6⟩ : ∃ K6, K6 = min r.nk 6 := ⟨_, rfl⟩
              have em : min (r.nk : Int) 6 = (K6 : Int) := by omega
              have hK6n : K6 ≤ r.nk ∧ K6 ≤ 6 := by omega
              have P0 : Hid (∃ vv dd, Wa w wp g7 vv dd [(WN, h, want), (N, h, now)] [(g11, deedO r)] ∧ PnD h g now want true dd) := Lib.hid ⟨_, cd, WA4.out, HP.out⟩
              clear hK6
              go_wp2
              go_loopg [139] K6 (fun gk s139 wr => ∃ j : Nat, j ≤ K6 ∧ K6 - j ≤ gk ∧ s139 = .int .i64 j ∧ Hid (∃ vv dd, Wa w wr g7 vv dd [(WN, h, want), (N, h, now)] [(g11, deedO r)] ∧ PnD h g now want true dd))
              case atStart => exact ⟨0, Nat.zero_le _, by omega, rfl, P0⟩
              case round =>
                clear P0 WA4 y0 y1 y2 y3 y4 yf em
                obtain ⟨j, hj, hgk2, rfl, P⟩ := hrel
                obtain ⟨vv, dd, PA, PB⟩ := P.out
                have WC := Lib.hid PA
                have WP := Lib.hid PB
                clear PA PB P
                by_cases hlj : j < K6
                · have hjl : (j : Int) < (K6 : Int) := by omega
                  have hjk : j < r.nk := by omega
                  obtain ⟨kr, hkr⟩ : ∃ kr, r.rows[j]? = some kr := ⟨_, List.getElem?_eq_getElem (by rw [HDR.out.keeps.lenK]; exact hjk)⟩
                  have HKO := Lib.hid ((HDR.out.below WC.out.below).rows kr (List.mem_of_getElem? hkr))
                  obtain ⟨kb, ko, hke, _, hkc⟩ := (HDR.out.below WC.out.below).keeps.krow hkr
                  obtain ⟨x0, x1, x2, x3, xf⟩ := WC.out.box.cells
                  obtain ⟨y0, y1, y2, y3, y4, yf⟩ := WC.out.deed (q := g11) (r := r) (by simp)
                  rw [hke] at y3
                  clear hke
                  have ccr := fun W hh hk => crash_any vv.A vv.A' kr.K vv.n vv.c vv.m vv.c' kr.k kr.kc dd kr.ks W hh hk HKO.out.le HKO.out.cap
                  have WD := Lib.hid (WC.out.step ((Below.refl _ _).drew))
                  have HKR := Lib.hid ((HKO.out.rd.more WC.out.below.size).step ((Below.refl _ _).drew))
                  have HFc : Hid (FitP (crashD dd kr.ks) ∧ (crashD dd kr.ks).left ≤ 9223372036854775807) := Lib.hid ⟨fit_crash WC.out.fit.1 _, by show (-1 : Int) ≤ _; decide⟩
                  clear hkr WC
                  go_wp2
                  go_still_tail 6, (by kernel_rfl)
                  change wpList _ _ _ _ _ wr.drew
                  go_wp2_with fail
                  as_aux_lemma =>
                    refine (ccr _ WD.out.dv HKR.out).mono ?_
                    rintro e wq ⟨E1, e1', f1', E2, e2', f2', rfl, hd, hb⟩
                    have WA14 := Lib.hid (WD.out.step hb)
                    clear WD hb
                    obtain ⟨x0, x1, x2, x3, xf⟩ := WA14.out.box.cells
                    go_upto_region 25 with fail
                    change Code.wp _ _ _ _ (putD _ g7 (.slice E1 e1' f1') (.slice E2 e2' f2') (.int .i64 (crashD dd kr.ks).left) (.bool (crashD dd kr.ks).dead))
                    have WA15 := Lib.hid (WA14.out.put (v2 := ⟨E1, e1', f1', E2, e2', f2'⟩) hd HFc.out)
                    clear WA14 hd x0 x1 x2 x3 xf
                    generalize putD _ g7 (.slice E1 e1' f1') (.slice E2 e2' f2') (.int .i64 (crashD dd kr.ks).left) (.bool (crashD dd kr.ks).dead) = wp at WA15 ⊢
                    clear y0 y1 y2 y3 y4 yf hkc ccr
                    obtain ⟨y0, y1, y2, y3, y4, yf⟩ := WA15.out.deed (q := g11) (r := r) (by simp)
                    by_cases hlq : j < r.nq
                    · have hjq : (j : Int) < (r.nq : Int) := by omega
                      as_aux_lemma =>
                        obtain ⟨x0, x1, x2, x3, xf⟩ := WA15.out.box.cells
                        obtain ⟨qb, qo, hqe, _, hqc⟩ := (HDR.out.below WA15.out.below).lefts.zed hlq
                        rw [hqe] at y4
                        clear hqe
                        have hsm : r.lefts.getD j 0 ≤ 9223372036854775807 := by
                          have hjl2 : j < r.lefts.length := by rw [HDR.out.lefts.lenZ]; exact hlq
                          refine HDR.out.small _ (List.mem_of_getElem? (i := j) ?_)
                          simp [List.getD_eq_getElem?_getD, hjl2]
                        have HFa : Hid (FitP (armD (crashD dd kr.ks) (r.lefts.getD j 0)) ∧ (armD (crashD dd kr.ks) (r.lefts.getD j 0)).left ≤ 9223372036854775807) := Lib.hid ⟨fit_arm HFc.out.1 _, left_arm HFc.out.2 hsm⟩
                        have HPA := Lib.hid (crash_pn HHG.out.1 HHG.out.2 WP.out kr.ks (r.lefts.getD j 0)).1
                        generalize r.lefts.getD j 0 = la at hqc HFa HPA
                        have WD := Lib.hid (WA15.out.step ((Below.refl _ _).drew))
                        clear WA15 hsm
                        go_wp2
                        go_still_tail 6, (by kernel_rfl)
                        change wpList _ _ _ _ _ wp.drew
                        go_wp2_with fail
                        refine (armT_any E1 E2 e1' f1' e2' f2' (crashD dd kr.ks) la _ WD.out.dv).mono ?_
                        rintro e wq ⟨E1, e1', f1', E2, e2', f2', rfl, hd, hb⟩
                        have WA16 := Lib.hid (WD.out.step hb)
                        clear WD hb
                        obtain ⟨x0, x1, x2, x3, xf⟩ := WA16.out.box.cells
                        go_upto_region 27 with fail
                        change Code.wp _ _ _ _ (putD _ g7 (.slice E1 e1' f1') (.slice E2 e2' f2') (.int .i64 (armD (crashD dd kr.ks) la).left) (.bool (armD (crashD dd kr.ks) la).dead))
                        have WA17 := Lib.hid (WA16.out.put (v2 := ⟨E1, e1', f1', E2, e2', f2'⟩) hd HFa.out)
                        clear WA16 hd x0 x1 x2 x3 xf
                        generalize putD _ g7 (.slice E1 e1' f1') (.slice E2 e2' f2') (.int .i64 (armD (crashD dd kr.ks) la).left) (.bool (armD (crashD dd kr.ks) la).dead) = wp at WA17 ⊢
                        clear y0 y1 y2 y3 y4 yf hqc
                        obtain ⟨dx, hdx⟩ : ∃ dx, dx = armD (crashD dd kr.ks) la := ⟨_, rfl⟩
                        have HPX : Hid (PnD h g now want true (recoverD dx h g).1) := Lib.hid (by rw [hdx]; exact HPA.out)
                        have HFX : Hid (FitP dx ∧ dx.left ≤ 9223372036854775807) := Lib.hid (by rw [hdx]; exact HFa.out)
                        rw [← hdx] at WA17
                        clear hdx
                        have HFR : Hid (FitP (recoverD dx h g).1 ∧ (recoverD dx h g).1.left ≤ 9223372036854775807) := Lib.hid ⟨fit_recover HFX.out.1 _ _, left_recover HFX.out.2 _ _⟩
                        have crc := fun W hh => recoverP_any E1 E2 e1' f1' e2' f2' dx (h : Int) (g : Int) W hh HFX.out.1 HFX.out.2
                        obtain ⟨rd, hrd⟩ : ∃ rd, rd = recoverD dx (h : Int) (g : Int) := ⟨_, rfl⟩
                        rw [← hrd] at crc HPX HFR
                        clear hrd
                        obtain ⟨rd, re⟩ := rd
                        dsimp only at crc HPX HFR
                        obtain ⟨x0, x1, x2, x3, xf⟩ := WA17.out.box.cells
                        go_wp2_with fail
                        refine (crc _ WA17.out.dv).mono ?_
                        rintro e wq ⟨E1, e1', f1', E2, e2', f2', rfl, hd, hb⟩
                        have WA18 := Lib.hid (WA17.out.step hb)
                        clear WA17 hb
                        obtain ⟨x0, x1, x2, x3, xf⟩ := WA18.out.box.cells
                        go_upto_region 28 with fail
                        change Code.wp _ _ _ _ (putD _ g7 (.slice E1 e1' f1') (.slice E2 e2' f2') (.int .i64 (rd).left) (.bool (rd).dead))
                        have WA19 := Lib.hid (WA18.out.put (v2 := ⟨E1, e1', f1', E2, e2', f2'⟩) hd HFR.out)
                        clear WA18 hd x0 x1 x2 x3 xf
                        generalize putD _ g7 (.slice E1 e1' f1') (.slice E2 e2' f2') (.int .i64 (rd).left) (.bool (rd).dead) = wp at WA19 ⊢
                        go_wp2
                        go_roundg (K6 - (j + 1))
                        case measure => omega
                        case rel => exact ⟨j + 1, by omega, by omega, by go_num, Lib.hid ⟨_, rd, WA19.out, HPX.out⟩⟩
                    · as_aux_lemma =>
                        have hjq : ¬ (j : Int) < (r.nq : Int) := by omega
                        have HPA := Lib.hid (crash_pn HHG.out.1 HHG.out.2 WP.out kr.ks 0).2.1
                        go_upto_region 27 with fail
                        clear y0 y1 y2 y3 y4 yf
                        obtain ⟨dx, hdx⟩ : ∃ dx, dx = crashD dd kr.ks := ⟨_, rfl⟩
                        have HPX : Hid (PnD h g now want true (recoverD dx h g).1) := Lib.hid (by rw [hdx]; exact HPA.out)
                        have HFX : Hid (FitP dx ∧ dx.left ≤ 9223372036854775807) := Lib.hid (by rw [hdx]; exact HFc.out)
                        rw [← hdx] at WA15
                        clear hdx
                        have HFR : Hid (FitP (recoverD dx h g).1 ∧ (recoverD dx h g).1.left ≤ 9223372036854775807) := Lib.hid ⟨fit_recover HFX.out.1 _ _, left_recover HFX.out.2 _ _⟩
                        have crc := fun W hh => recoverP_any E1 E2 e1' f1' e2' f2' dx (h : Int) (g : Int) W hh HFX.out.1 HFX.out.2
                        obtain ⟨rd, hrd⟩ : ∃ rd, rd = recoverD dx (h : Int) (g : Int) := ⟨_, rfl⟩
                        rw [← hrd] at crc HPX HFR
                        clear hrd
                        obtain ⟨rd, re⟩ := rd
                        dsimp only at crc HPX HFR
                        obtain ⟨x0, x1, x2, x3, xf⟩ := WA15.out.box.cells
                        go_wp2_with fail
                        refine (crc _ WA15.out.dv).mono ?_
                        rintro e wq ⟨E1, e1', f1', E2, e2', f2', rfl, hd, hb⟩
                        have WA20 := Lib.hid (WA15.out.step hb)
                        clear WA15 hb
                        obtain ⟨x0, x1, x2, x3, xf⟩ := WA20.out.box.cells
                        go_upto_region 28 with fail
                        change Code.wp _ _ _ _ (putD _ g7 (.slice E1 e1' f1') (.slice E2 e2' f2') (.int .i64 (rd).left) (.bool (rd).dead))
                        have WA21 := Lib.hid (WA20.out.put (v2 := ⟨E1, e1', f1', E2, e2', f2'⟩) hd HFR.out)
                        clear WA20 hd x0 x1 x2 x3 xf
                        generalize putD _ g7 (.slice E1 e1' f1') (.slice E2 e2' f2') (.int .i64 (rd).left) (.bool (rd).dead) = wp at WA21 ⊢
                        go_wp2
                        go_roundg (K6 - (j + 1))
                        case measure => omega
                        case rel => exact ⟨j + 1, by omega, by omega, by go_num, Lib.hid ⟨_, rd, WA21.out, HPX.out⟩⟩
                · have : j = K6 := by omega
                  subst this
                  obtain ⟨E1, e1', f1', E2, e2', f2'⟩ := vv
                  obtain ⟨hr0, img, himg, hS⟩ := (crash_pn HHG.out.1 HHG.out.2 WP.out [] 0).2.2
                  have HFc : Hid (FitP (crashD dd []) ∧ (crashD dd []).left ≤ 9223372036854775807) := Lib.hid ⟨fit_crash WC.out.fit.1 _, by show (-1 : Int) ≤ _; decide⟩
                  have SX := Lib.hid hS
                  have HIC := Lib.hid himg
                  clear himg hS
                  as_aux_lemma =>
                    obtain ⟨x0, x1, x2, x3, xf⟩ := WC.out.box.cells
                    go_wp2_with fail
                    refine (crash_any E1 E2 none e1' f1' e2' f2' 0 0 dd [] _ WC.out.dv Reads.nil (Nat.le_refl _) (by unfold maxLen; omega)).mono ?_
                    rintro e wq ⟨E1, e1', f1', E2, e2', f2', rfl, hd, hb⟩
                    have WA22 := Lib.hid (WC.out.step hb)
                    clear WC hb
                    obtain ⟨x0, x1, x2, x3, xf⟩ := WA22.out.box.cells
                    go_upto_region 30 with fail
                    change Code.wp _ _ _ _ (putD _ g7 (.slice E1 e1' f1') (.slice E2 e2' f2') (.int .i64 (crashD dd []).left) (.bool (crashD dd []).dead))
                    have WA23 := Lib.hid (WA22.out.put (v2 := ⟨E1, e1', f1', E2, e2', f2'⟩) hd HFc.out)
                    clear WA22 hd x0 x1 x2 x3 xf
                    generalize putD _ g7 (.slice E1 e1' f1') (.slice E2 e2' f2') (.int .i64 (crashD dd []).left) (.bool (crashD dd []).dead) = wp at WA23 ⊢
                    have HFR : Hid (FitP (recoverD (crashD dd []) h g).1 ∧ (recoverD (crashD dd []) h g).1.left ≤ 9223372036854775807) := Lib.hid ⟨fit_recover HFc.out.1 _ _, left_recover HFc.out.2 _ _⟩
                    have crc := fun W hh => recoverP_any E1 E2 e1' f1' e2' f2' (crashD dd []) (h : Int) (g : Int) W hh HFc.out.1 HFc.out.2
                    rw [hr0] at crc
                    obtain ⟨rd, hrd⟩ : ∃ rd, rd = (recoverD (crashD dd []) (h : Int) (g : Int)).1 := ⟨_, rfl⟩
                    rw [← hrd] at crc SX HFR
                    clear hrd hr0
                    obtain ⟨x0, x1, x2, x3, xf⟩ := WA23.out.box.cells
                    go_wp2_with fail
                    refine (crc _ WA23.out.dv).mono ?_
                    rintro e wq ⟨E1, e1', f1', E2, e2', f2', rfl, hd, hb⟩
                    have WA24 := Lib.hid (WA23.out.step hb)
                    clear WA23 hb
                    obtain ⟨x0, x1, x2, x3, xf⟩ := WA24.out.box.cells
                    go_upto_region 31 with fail
                    change Code.wp _ _ _ _ (putD _ g7 (.slice E1 e1' f1') (.slice E2 e2' f2') (.int .i64 (rd).left) (.bool (rd).dead))
                    have WA25 := Lib.hid (WA24.out.put (v2 := ⟨E1, e1', f1', E2, e2', f2'⟩) hd HFR.out)
                    clear WA24 hd x0 x1 x2 x3 xf
                    generalize putD _ g7 (.slice E1 e1' f1') (.slice E2 e2' f2') (.int .i64 (rd).left) (.bool (rd).dead) = wp at WA25 ⊢
                    clear crc
                    rcases HIC.out with ⟨hcn, him⟩ | him
                    · exact absurd hcn (by decide)
                    · have SX2 : Hid (SetD h g want rd) := Lib.hid (by rw [← him]; exact SX.out)
                      clear SX HIC him
                      have SX := SX2
                      clear SX2
                      have HIMG := Lib.hid (show ImageP want (h : Int) from HWI.out)
                      obtain ⟨x0, x1, x2, x3, xf⟩ := WA25.out.box.cells
                      have ch := homeP_any E1 E2 e1' f1' e2' f2' _ (h : Int) (g : Int) _ WA25.out.dv
                      rw [(SX.out.calm HHG.out.1 HHG.out.2).2] at ch
                      go_wp2_with fail
                      refine ch.mono ?_
                      rintro e wh ⟨GA, gn, gc, rfl, hrg, hg512, _, _, hb⟩
                      obtain rfl : h = gn := by have h8 := hrg.lenS; have h9 := HIMG.out.2; omega
                      have WA31 := Lib.hid (WA25.out.step hb)
                      have WA32 := Lib.hid (WA31.out.add hrg hg512)
                      clear WA25 WA31 hb hrg ch x0 x1 x2 x3 xf
                      go_wp2_with fail
                      refine (refTexts_any _ _ _ _ _ _ want now _ (WA32.out.img GA h want (by simp)) (WA32.out.img N h now (by simp)) (by omega) (by omega)).mono ?_
                      rintro e wt ⟨rfl, hb⟩
                      have WA33 := Lib.hid (WA32.out.step hb)
                      clear WA32 hb
                      obtain ⟨tw, htw⟩ : ∃ tw, tw = decide (want = now) := ⟨_, rfl⟩
                      rw [← htw]
                      clear htw
                      cases tw with
                      | true =>
                        go_wp2_with fail
                        refine (refTexts_any _ _ _ _ _ _ want want _ (WA33.out.img GA h want (by simp)) (WA33.out.img WN h want (by simp)) (by omega) (by omega)).mono ?_
                        rintro e wt ⟨rfl, hb⟩
                        have WA35 := Lib.hid (WA33.out.step hb)
                        clear WA33 hb
                        rw [decide_eq_true (rfl : want = want)]
                        obtain ⟨x0, x1, x2, x3, xf⟩ := WA35.out.box.cells
                        have crc := recoverP_any E1 E2 e1' f1' e2' f2' rd (h : Int) (g : Int) _ WA35.out.dv HFR.out.1 HFR.out.2
                        rw [(SX.out.calm HHG.out.1 HHG.out.2).1] at crc
                        dsimp only at crc
                        go_wp2_with fail
                        refine crc.mono ?_
                        rintro e wq ⟨F1, k1', j1', F2, k2', j2', rfl, hd, hb⟩
                        have WA36 := Lib.hid (WA35.out.step hb)
                        clear WA35 hb
                        have WA37 := Lib.hid (WA36.out.step ((Below.refl _ _).alloc (Nat.le_refl _) (.cells #[.slice F1 k1' j1', .slice F2 k2' j2', .int .i64 rd.left, .bool rd.dead] 25)))
                        have HAG := Lib.hid (Dv.alloc hd (.cells #[.slice F1 k1' j1', .slice F2 k2' j2', .int .i64 rd.left, .bool rd.dead] 25))
                        clear x0 x1 x2 x3 xf crc
                        obtain ⟨x0, x1, x2, x3, xf⟩ := WA37.out.box.cells
                        clear hd
                        go_wp2_with fail
                        refine (refSame_any F1 F2 k1' j1' k2' j2' rd E1 E2 e1' f1' e2' f2' rd _ HAG.out WA37.out.dv).mono ?_
                        rintro e ws ⟨rfl, hb⟩
                        rw [show ∀ i : Decidable (rd = rd), @decide (rd = rd) i = true from fun i => @decide_eq_true _ i rfl]
                        have WZ := Lib.hid (WA37.out.step hb)
                        clear WA37 WA36 hb x0 x1 x2 x3 xf
                        go_wp2
                        go_roundg (k - (i + 1))
                        case measure => omega
                        case rel => exact ⟨i + 1, GA, gc, want, _, rd, by omega, by omega, by go_num, rfl, Lib.hid (WZ.out.less (by simp)), Lib.hid ⟨SX.out, HIMG.out⟩⟩
                      | false =>
                        go_wp2_with fail
                        refine (refTexts_any _ _ _ _ _ _ want want _ (WA33.out.img GA h want (by simp)) (WA33.out.img WN h want (by simp)) (by omega) (by omega)).mono ?_
                        rintro e wt ⟨rfl, hb⟩
                        have WA34 := Lib.hid (WA33.out.step hb)
                        clear WA33 hb
                        rw [decide_eq_true (rfl : want = want)]
                        go_wp2_with fail
                        refine (refTexts_any _ _ _ _ _ _ want want _ (WA34.out.img GA h want (by simp)) (WA34.out.img WN h want (by simp)) (by omega) (by omega)).mono ?_
                        rintro e wt ⟨rfl, hb⟩
                        have WA38 := Lib.hid (WA34.out.step hb)
                        clear WA34 hb
                        rw [decide_eq_true (rfl : want = want)]
                        obtain ⟨x0, x1, x2, x3, xf⟩ := WA38.out.box.cells
                        have crc := recoverP_any E1 E2 e1' f1' e2' f2' rd (h : Int) (g : Int) _ WA38.out.dv HFR.out.1 HFR.out.2
                        rw [(SX.out.calm HHG.out.1 HHG.out.2).1] at crc
                        dsimp only at crc
                        go_wp2_with fail
                        refine crc.mono ?_
                        rintro e wq ⟨F1, k1', j1', F2, k2', j2', rfl, hd, hb⟩
                        have WA39 := Lib.hid (WA38.out.step hb)
                        clear WA38 hb
                        have WA40 := Lib.hid (WA39.out.step ((Below.refl _ _).alloc (Nat.le_refl _) (.cells #[.slice F1 k1' j1', .slice F2 k2' j2', .int .i64 rd.left, .bool rd.dead] 25)))
                        have HAG := Lib.hid (Dv.alloc hd (.cells #[.slice F1 k1' j1', .slice F2 k2' j2', .int .i64 rd.left, .bool rd.dead] 25))
                        clear x0 x1 x2 x3 xf crc
                        obtain ⟨x0, x1, x2, x3, xf⟩ := WA40.out.box.cells
                        clear hd
                        go_wp2_with fail
                        refine (refSame_any F1 F2 k1' j1' k2' j2' rd E1 E2 e1' f1' e2' f2' rd _ HAG.out WA40.out.dv).mono ?_
                        rintro e ws ⟨rfl, hb⟩
                        rw [show ∀ i : Decidable (rd = rd), @decide (rd = rd) i = true from fun i => @decide_eq_true _ i rfl]
                        have WZ := Lib.hid (WA40.out.step hb)
                        clear WA40 WA39 hb x0 x1 x2 x3 xf
                        go_wp2
                        go_roundg (k - (i + 1))
                        case measure => omega
                        case rel => exact ⟨i + 1, GA, gc, want, _, rd, by omega, by omega, by go_num, rfl, Lib.hid (WZ.out.less (by simp)), Lib.hid ⟨SX.out, HIMG.out⟩⟩
        · subst h1
          have HP := Lib.hid h2
          clear HCW h2
          as_aux_lemma =>
            clear x0 x1 x2 x3 xf
            have hnk : r.nk ≤ 9223372036854775807 := by have := HDR.out.kn; unfold maxLen at this; omega
            have hnq : r.nq ≤ 9223372036854775807 := by have := HDR.out.ln; unfold maxLen at this; omega
            obtain ⟨K6, hK6⟩ : ∃ K6, K6 = min r.nk 6 := ⟨_, rfl⟩
            have em : min (r.nk : Int) 6 = (K6 : Int) := by omega
            have hK6n : K6 ≤ r.nk ∧ K6 ≤ 6 := by omega
            have P0 : Hid (∃ vv dd, Wa w wp g7 vv dd [(WN, h, want), (N, h, now)] [(g11, deedO r)] ∧ PnD h g now want cn dd) := Lib.hid ⟨_, cd, WA4.out, HP.out⟩
            clear hK6
            go_wp2
            go_loopg [139] K6 (fun gk s139 wr => ∃ j : Nat, j ≤ K6 ∧ K6 - j ≤ gk ∧ s139 = .int .i64 j ∧ Hid (∃ vv dd, Wa w wr g7 vv dd [(WN, h, want), (N, h, now)] [(g11, deedO r)] ∧ PnD h g now want cn dd))
            case atStart => exact ⟨0, Nat.zero_le _, by omega, rfl, P0⟩
            case round =>
              clear P0 WA4 y0 y1 y2 y3 y4 yf em
              obtain ⟨j, hj, hgk2, rfl, P⟩ := hrel
              obtain ⟨vv, dd, PA, PB⟩ := P.out
              have WC := Lib.hid PA
              have WP := Lib.hid PB
              clear PA PB P
              by_cases hlj : j < K6
              · have hjl : (j : Int) < (K6 : Int) := by omega
                have hjk : j < r.nk := by omega
                obtain ⟨kr, hkr⟩ : ∃ kr, r.rows[j]? = some kr := ⟨_, List.getElem?_eq_getElem (by rw [HDR.out.keeps.lenK]; exact hjk)⟩
                have HKO := Lib.hid ((HDR.out.below WC.out.below).rows kr (List.mem_of_getElem? hkr))
                obtain ⟨kb, ko, hke, _, hkc⟩ := (HDR.out.below WC.out.below).keeps.krow hkr
                obtain ⟨x0, x1, x2, x3, xf⟩ := WC.out.box.cells
                obtain ⟨y0, y1, y2, y3, y4, yf⟩ := WC.out.deed (q := g11) (r := r) (by simp)
                rw [hke] at y3
                clear hke
                have ccr := fun W hh hk => crash_any vv.A vv.A' kr.K vv.n vv.c vv.m vv.c' kr.k kr.kc dd kr.ks W hh hk HKO.out.le HKO.out.cap
                have WD := Lib.hid (WC.out.step ((Below.refl _ _).drew))
                have HKR := Lib.hid ((HKO.out.rd.more WC.out.below.size).step ((Below.refl _ _).drew))
                have HFc : Hid (FitP (crashD dd kr.ks) ∧ (crashD dd kr.ks).left ≤ 9223372036854775807) := Lib.hid ⟨fit_crash WC.out.fit.1 _, by show (-1 : Int) ≤ _; decide⟩
                clear hkr WC
                go_wp2
                go_still_tail 6, (by kernel_rfl)
                change wpList _ _ _ _ _ wr.drew
                go_wp2_with fail
                as_aux_lemma =>
                  refine (ccr _ WD.out.dv HKR.out).mono ?_
                  rintro e wq ⟨E1, e1', f1', E2, e2', f2', rfl, hd, hb⟩
                  have WA49 := Lib.hid (WD.out.step hb)
                  clear WD hb
                  obtain ⟨x0, x1, x2, x3, xf⟩ := WA49.out.box.cells
                  go_upto_region 25 with fail
                  change Code.wp _ _ _ _ (putD _ g7 (.slice E1 e1' f1') (.slice E2 e2' f2') (.int .i64 (crashD dd kr.ks).left) (.bool (crashD dd kr.ks).dead))
                  have WA50 := Lib.hid (WA49.out.put (v2 := ⟨E1, e1', f1', E2, e2', f2'⟩) hd HFc.out)
                  clear WA49 hd x0 x1 x2 x3 xf
                  generalize putD _ g7 (.slice E1 e1' f1') (.slice E2 e2' f2') (.int .i64 (crashD dd kr.ks).left) (.bool (crashD dd kr.ks).dead) = wp at WA50 ⊢
                  clear y0 y1 y2 y3 y4 yf hkc ccr
                  obtain ⟨y0, y1, y2, y3, y4, yf⟩ := WA50.out.deed (q := g11) (r := r) (by simp)
                  by_cases hlq : j < r.nq
                  · have hjq : (j : Int) < (r.nq : Int) := by omega
                    as_aux_lemma =>
                      obtain ⟨x0, x1, x2, x3, xf⟩ := WA50.out.box.cells
                      obtain ⟨qb, qo, hqe, _, hqc⟩ := (HDR.out.below WA50.out.below).lefts.zed hlq
                      rw [hqe] at y4
                      clear hqe
                      have hsm : r.lefts.getD j 0 ≤ 9223372036854775807 := by
                        have hjl2 : j < r.lefts.length := by rw [HDR.out.lefts.lenZ]; exact hlq
                        refine HDR.out.small _ (List.mem_of_getElem? (i := j) ?_)
                        simp [List.getD_eq_getElem?_getD, hjl2]
                      have HFa : Hid (FitP (armD (crashD dd kr.ks) (r.lefts.getD j 0)) ∧ (armD (crashD dd kr.ks) (r.lefts.getD j 0)).left ≤ 9223372036854775807) := Lib.hid ⟨fit_arm HFc.out.1 _, left_arm HFc.out.2 hsm⟩
                      have HPA := Lib.hid (crash_pn HHG.out.1 HHG.out.2 WP.out kr.ks (r.lefts.getD j 0)).1
                      generalize r.lefts.getD j 0 = la at hqc HFa HPA
                      have WD := Lib.hid (WA50.out.step ((Below.refl _ _).drew))
                      clear WA50 hsm
                      go_wp2
                      go_still_tail 6, (by kernel_rfl)
                      change wpList _ _ _ _ _ wp.drew
                      go_wp2_with fail
                      refine (armT_any E1 E2 e1' f1' e2' f2' (crashD dd kr.ks) la _ WD.out.dv).mono ?_
                      rintro e wq ⟨E1, e1', f1', E2, e2', f2', rfl, hd, hb⟩
                      have WA51 := Lib.hid (WD.out.step hb)
                      clear WD hb
                      obtain ⟨x0, x1, x2, x3, xf⟩ := WA51.out.box.cells
                      go_upto_region 27 with fail
                      change Code.wp _ _ _ _ (putD _ g7 (.slice E1 e1' f1') (.slice E2 e2' f2') (.int .i64 (armD (crashD dd kr.ks) la).left) (.bool (armD (crashD dd kr.ks) la).dead))
                      have WA52 := Lib.hid (WA51.out.put (v2 := ⟨E1, e1', f1', E2, e2', f2'⟩) hd HFa.out)
                      clear WA51 hd x0 x1 x2 x3 xf
                      generalize putD _ g7 (.slice E1 e1' f1') (.slice E2 e2' f2') (.int .i64 (armD (crashD dd kr.ks) la).left) (.bool (armD (crashD dd kr.ks) la).dead) = wp at WA52 ⊢
                      clear y0 y1 y2 y3 y4 yf hqc
                      obtain ⟨dx, hdx⟩ : ∃ dx, dx = armD (crashD dd kr.ks) la := ⟨_, rfl⟩
                      have HPX : Hid (PnD h g now want cn (recoverD dx h g).1) := Lib.hid (by rw [hdx]; exact HPA.out)
                      have HFX : Hid (FitP dx ∧ dx.left ≤ 9223372036854775807) := Lib.hid (by rw [hdx]; exact HFa.out)
                      rw [← hdx] at WA52
                      clear hdx
                      have HFR : Hid (FitP (recoverD dx h g).1 ∧ (recoverD dx h g).1.left ≤ 9223372036854775807) := Lib.hid ⟨fit_recover HFX.out.1 _ _, left_recover HFX.out.2 _ _⟩
                      have crc := fun W hh => recoverP_any E1 E2 e1' f1' e2' f2' dx (h : Int) (g : Int) W hh HFX.out.1 HFX.out.2
                      obtain ⟨rd, hrd⟩ : ∃ rd, rd = recoverD dx (h : Int) (g : Int) := ⟨_, rfl⟩
                      rw [← hrd] at crc HPX HFR
                      clear hrd
                      obtain ⟨rd, re⟩ := rd
                      dsimp only at crc HPX HFR
                      obtain ⟨x0, x1, x2, x3, xf⟩ := WA52.out.box.cells
                      go_wp2_with fail
                      refine (crc _ WA52.out.dv).mono ?_
                      rintro e wq ⟨E1, e1', f1', E2, e2', f2', rfl, hd, hb⟩
                      have WA53 := Lib.hid (WA52.out.step hb)
                      clear WA52 hb
                      obtain ⟨x0, x1, x2, x3, xf⟩ := WA53.out.box.cells
                      go_upto_region 28 with fail
                      change Code.wp _ _ _ _ (putD _ g7 (.slice E1 e1' f1') (.slice E2 e2' f2') (.int .i64 (rd).left) (.bool (rd).dead))
                      have WA54 := Lib.hid (WA53.out.put (v2 := ⟨E1, e1', f1', E2, e2', f2'⟩) hd HFR.out)
                      clear WA53 hd x0 x1 x2 x3 xf
                      generalize putD _ g7 (.slice E1 e1' f1') (.slice E2 e2' f2') (.int .i64 (rd).left) (.bool (rd).dead) = wp at WA54 ⊢
                      go_wp2
                      go_roundg (K6 - (j + 1))
                      case measure => omega
                      case rel => exact ⟨j + 1, by omega, by omega, by go_num, Lib.hid ⟨_, rd, WA54.out, HPX.out⟩⟩
                  · as_aux_lemma =>
                      have hjq : ¬ (j : Int) < (r.nq : Int) := by omega
                      have HPA := Lib.hid (crash_pn HHG.out.1 HHG.out.2 WP.out kr.ks 0).2.1
                      go_upto_region 27 with fail
                      clear y0 y1 y2 y3 y4 yf
                      obtain ⟨dx, hdx⟩ : ∃ dx, dx = crashD dd kr.ks := ⟨_, rfl⟩
                      have HPX : Hid (PnD h g now want cn (recoverD dx h g).1) := Lib.hid (by rw [hdx]; exact HPA.out)
                      have HFX : Hid (FitP dx ∧ dx.left ≤ 9223372036854775807) := Lib.hid (by rw [hdx]; exact HFc.out)
                      rw [← hdx] at WA50
                      clear hdx
                      have HFR : Hid (FitP (recoverD dx h g).1 ∧ (recoverD dx h g).1.left ≤ 9223372036854775807) := Lib.hid ⟨fit_recover HFX.out.1 _ _, left_recover HFX.out.2 _ _⟩
                      have crc := fun W hh => recoverP_any E1 E2 e1' f1' e2' f2' dx (h : Int) (g : Int) W hh HFX.out.1 HFX.out.2
                      obtain ⟨rd, hrd⟩ : ∃ rd, rd = recoverD dx (h : Int) (g : Int) := ⟨_, rfl⟩
                      rw [← hrd] at crc HPX HFR
                      clear hrd
                      obtain ⟨rd, re⟩ := rd
                      dsimp only at crc HPX HFR
                      obtain ⟨x0, x1, x2, x3, xf⟩ := WA50.out.box.cells
                      go_wp2_with fail
                      refine (crc _ WA50.out.dv).mono ?_
                      rintro e wq ⟨E1, e1', f1', E2, e2', f2', rfl, hd, hb⟩
                      have WA55 := Lib.hid (WA50.out.step hb)
                      clear WA50 hb
                      obtain ⟨x0, x1, x2, x3, xf⟩ := WA55.out.box.cells
                      go_upto_region 28 with fail
                      change Code.wp _ _ _ _ (putD _ g7 (.slice E1 e1' f1') (.slice E2 e2' f2') (.int .i64 (rd).left) (.bool (rd).dead))
                      have WA56 := Lib.hid (WA55.out.put (v2 := ⟨E1, e1', f1', E2, e2', f2'⟩) hd HFR.out)
                      clear WA55 hd x0 x1 x2 x3 xf
                      generalize putD _ g7 (.slice E1 e1' f1') (.slice E2 e2' f2') (.int .i64 (rd).left) (.bool (rd).dead) = wp at WA56 ⊢
                      go_wp2
                      go_roundg (K6 - (j + 1))
                      case measure => omega
                      case rel => exact ⟨j + 1, by omega, by omega, by go_num, Lib.hid ⟨_, rd, WA56.out, HPX.out⟩⟩
              · have : j = K6 := by omega
                subst this
                obtain ⟨E1, e1', f1', E2, e2', f2'⟩ := vv
                obtain ⟨hr0, img, himg, hS⟩ := (crash_pn HHG.out.1 HHG.out.2 WP.out [] 0).2.2
                have HFc : Hid (FitP (crashD dd []) ∧ (crashD dd []).left ≤ 9223372036854775807) := Lib.hid ⟨fit_crash WC.out.fit.1 _, by show (-1 : Int) ≤ _; decide⟩
                have SX := Lib.hid hS
                have HIC := Lib.hid himg
                clear himg hS
                as_aux_lemma =>
                  obtain ⟨x0, x1, x2, x3, xf⟩ := WC.out.box.cells
                  go_wp2_with fail
                  refine (crash_any E1 E2 none e1' f1' e2' f2' 0 0 dd [] _ WC.out.dv Reads.nil (Nat.le_refl _) (by unfold maxLen; omega)).mono ?_
                  rintro e wq ⟨E1, e1', f1', E2, e2', f2', rfl, hd, hb⟩
                  have WA57 := Lib.hid (WC.out.step hb)
                  clear WC hb
                  obtain ⟨x0, x1, x2, x3, xf⟩ := WA57.out.box.cells
                  go_upto_region 30 with fail
                  change Code.wp _ _ _ _ (putD _ g7 (.slice E1 e1' f1') (.slice E2 e2' f2') (.int .i64 (crashD dd []).left) (.bool (crashD dd []).dead))
                  have WA58 := Lib.hid (WA57.out.put (v2 := ⟨E1, e1', f1', E2, e2', f2'⟩) hd HFc.out)
                  clear WA57 hd x0 x1 x2 x3 xf
                  generalize putD _ g7 (.slice E1 e1' f1') (.slice E2 e2' f2') (.int .i64 (crashD dd []).left) (.bool (crashD dd []).dead) = wp at WA58 ⊢
                  have HFR : Hid (FitP (recoverD (crashD dd []) h g).1 ∧ (recoverD (crashD dd []) h g).1.left ≤ 9223372036854775807) := Lib.hid ⟨fit_recover HFc.out.1 _ _, left_recover HFc.out.2 _ _⟩
                  have crc := fun W hh => recoverP_any E1 E2 e1' f1' e2' f2' (crashD dd []) (h : Int) (g : Int) W hh HFc.out.1 HFc.out.2
                  rw [hr0] at crc
                  obtain ⟨rd, hrd⟩ : ∃ rd, rd = (recoverD (crashD dd []) (h : Int) (g : Int)).1 := ⟨_, rfl⟩
                  rw [← hrd] at crc SX HFR
                  clear hrd hr0
                  obtain ⟨x0, x1, x2, x3, xf⟩ := WA58.out.box.cells
                  go_wp2_with fail
                  refine (crc _ WA58.out.dv).mono ?_
                  rintro e wq ⟨E1, e1', f1', E2, e2', f2', rfl, hd, hb⟩
                  have WA59 := Lib.hid (WA58.out.step hb)
                  clear WA58 hb
                  obtain ⟨x0, x1, x2, x3, xf⟩ := WA59.out.box.cells
                  go_upto_region 31 with fail
                  change Code.wp _ _ _ _ (putD _ g7 (.slice E1 e1' f1') (.slice E2 e2' f2') (.int .i64 (rd).left) (.bool (rd).dead))
                  have WA60 := Lib.hid (WA59.out.put (v2 := ⟨E1, e1', f1', E2, e2', f2'⟩) hd HFR.out)
                  clear WA59 hd x0 x1 x2 x3 xf
                  generalize putD _ g7 (.slice E1 e1' f1') (.slice E2 e2' f2') (.int .i64 (rd).left) (.bool (rd).dead) = wp at WA60 ⊢
                  clear crc
                  rcases HIC.out with ⟨hcn, him⟩ | him
                  · subst hcn
                    have SX2 : Hid (SetD h g now rd) := Lib.hid (by rw [← him]; exact SX.out)
                    clear SX HIC him
                    have SX := SX2
                    clear SX2
                    have HIMG := Lib.hid (show ImageP now (h : Int) from HNI.out)
                    obtain ⟨x0, x1, x2, x3, xf⟩ := WA60.out.box.cells
                    have ch := homeP_any E1 E2 e1' f1' e2' f2' _ (h : Int) (g : Int) _ WA60.out.dv
                    rw [(SX.out.calm HHG.out.1 HHG.out.2).2] at ch
                    go_wp2_with fail
                    refine ch.mono ?_
                    rintro e wh ⟨GA, gn, gc, rfl, hrg, hg512, _, _, hb⟩
                    obtain rfl : h = gn := by have h8 := hrg.lenS; have h9 := HIMG.out.2; omega
                    have WA61 := Lib.hid (WA60.out.step hb)
                    have WA62 := Lib.hid (WA61.out.add hrg hg512)
                    clear WA60 WA61 hb hrg ch x0 x1 x2 x3 xf
                    go_wp2_with fail
                    refine (refTexts_any _ _ _ _ _ _ now now _ (WA62.out.img GA h now (by simp)) (WA62.out.img N h now (by simp)) (by omega) (by omega)).mono ?_
                    rintro e wt ⟨rfl, hb⟩
                    have WA63 := Lib.hid (WA62.out.step hb)
                    clear WA62 hb
                    rw [decide_eq_true (rfl : now = now)]
                    obtain ⟨x0, x1, x2, x3, xf⟩ := WA63.out.box.cells
                    have crc := recoverP_any E1 E2 e1' f1' e2' f2' rd (h : Int) (g : Int) _ WA63.out.dv HFR.out.1 HFR.out.2
                    rw [(SX.out.calm HHG.out.1 HHG.out.2).1] at crc
                    dsimp only at crc
                    go_wp2_with fail
                    refine crc.mono ?_
                    rintro e wq ⟨F1, k1', j1', F2, k2', j2', rfl, hd, hb⟩
                    have WA64 := Lib.hid (WA63.out.step hb)
                    clear WA63 hb
                    have WA65 := Lib.hid (WA64.out.step ((Below.refl _ _).alloc (Nat.le_refl _) (.cells #[.slice F1 k1' j1', .slice F2 k2' j2', .int .i64 rd.left, .bool rd.dead] 25)))
                    have HAG := Lib.hid (Dv.alloc hd (.cells #[.slice F1 k1' j1', .slice F2 k2' j2', .int .i64 rd.left, .bool rd.dead] 25))
                    clear x0 x1 x2 x3 xf crc
                    obtain ⟨x0, x1, x2, x3, xf⟩ := WA65.out.box.cells
                    clear hd
                    go_wp2_with fail
                    refine (refSame_any F1 F2 k1' j1' k2' j2' rd E1 E2 e1' f1' e2' f2' rd _ HAG.out WA65.out.dv).mono ?_
                    rintro e ws ⟨rfl, hb⟩
                    rw [show ∀ i : Decidable (rd = rd), @decide (rd = rd) i = true from fun i => @decide_eq_true _ i rfl]
                    have WZ := Lib.hid (WA65.out.step hb)
                    clear WA65 WA64 hb x0 x1 x2 x3 xf
                    go_wp2
                    go_roundg (k - (i + 1))
                    case measure => omega
                    case rel => exact ⟨i + 1, GA, gc, now, _, rd, by omega, by omega, by go_num, rfl, Lib.hid (WZ.out.less (by simp)), Lib.hid ⟨SX.out, HIMG.out⟩⟩
                  · have SX2 : Hid (SetD h g want rd) := Lib.hid (by rw [← him]; exact SX.out)
                    clear SX HIC him
                    have SX := SX2
                    clear SX2
                    cases cn with
                    | true =>
                      have HIMG := Lib.hid (show ImageP want (h : Int) from HWI.out)
                      obtain ⟨x0, x1, x2, x3, xf⟩ := WA60.out.box.cells
                      have ch := homeP_any E1 E2 e1' f1' e2' f2' _ (h : Int) (g : Int) _ WA60.out.dv
                      rw [(SX.out.calm HHG.out.1 HHG.out.2).2] at ch
                      go_wp2_with fail
                      refine ch.mono ?_
                      rintro e wh ⟨GA, gn, gc, rfl, hrg, hg512, _, _, hb⟩
                      obtain rfl : h = gn := by have h8 := hrg.lenS; have h9 := HIMG.out.2; omega
                      have WA66 := Lib.hid (WA60.out.step hb)
                      have WA67 := Lib.hid (WA66.out.add hrg hg512)
                      clear WA60 WA66 hb hrg ch x0 x1 x2 x3 xf
                      go_wp2_with fail
                      refine (refTexts_any _ _ _ _ _ _ want now _ (WA67.out.img GA h want (by simp)) (WA67.out.img N h now (by simp)) (by omega) (by omega)).mono ?_
                      rintro e wt ⟨rfl, hb⟩
                      have WA68 := Lib.hid (WA67.out.step hb)
                      clear WA67 hb
                      obtain ⟨tw, htw⟩ : ∃ tw, tw = decide (want = now) := ⟨_, rfl⟩
                      rw [← htw]
                      clear htw
                      cases tw with
                      | true =>
                        go_wp2_with fail
                        refine (refTexts_any _ _ _ _ _ _ want want _ (WA68.out.img GA h want (by simp)) (WA68.out.img WN h want (by simp)) (by omega) (by omega)).mono ?_
                        rintro e wt ⟨rfl, hb⟩
                        have WA70 := Lib.hid (WA68.out.step hb)
                        clear WA68 hb
                        rw [decide_eq_true (rfl : want = want)]
                        obtain ⟨x0, x1, x2, x3, xf⟩ := WA70.out.box.cells
                        have crc := recoverP_any E1 E2 e1' f1' e2' f2' rd (h : Int) (g : Int) _ WA70.out.dv HFR.out.1 HFR.out.2
                        rw [(SX.out.calm HHG.out.1 HHG.out.2).1] at crc
                        dsimp only at crc
                        go_wp2_with fail
                        refine crc.mono ?_
                        rintro e wq ⟨F1, k1', j1', F2, k2', j2', rfl, hd, hb⟩
                        have WA71 := Lib.hid (WA70.out.step hb)
                        clear WA70 hb
                        have WA72 := Lib.hid (WA71.out.step ((Below.refl _ _).alloc (Nat.le_refl _) (.cells #[.slice F1 k1' j1', .slice F2 k2' j2', .int .i64 rd.left, .bool rd.dead] 25)))
                        have HAG := Lib.hid (Dv.alloc hd (.cells #[.slice F1 k1' j1', .slice F2 k2' j2', .int .i64 rd.left, .bool rd.dead] 25))
                        clear x0 x1 x2 x3 xf crc
                        obtain ⟨x0, x1, x2, x3, xf⟩ := WA72.out.box.cells
                        clear hd
                        go_wp2_with fail
                        refine (refSame_any F1 F2 k1' j1' k2' j2' rd E1 E2 e1' f1' e2' f2' rd _ HAG.out WA72.out.dv).mono ?_
                        rintro e ws ⟨rfl, hb⟩
                        rw [show ∀ i : Decidable (rd = rd), @decide (rd = rd) i = true from fun i => @decide_eq_true _ i rfl]
                        have WZ := Lib.hid (WA72.out.step hb)
                        clear WA72 WA71 hb x0 x1 x2 x3 xf
                        go_wp2
                        go_roundg (k - (i + 1))
                        case measure => omega
                        case rel => exact ⟨i + 1, GA, gc, want, _, rd, by omega, by omega, by go_num, rfl, Lib.hid (WZ.out.less (by simp)), Lib.hid ⟨SX.out, HIMG.out⟩⟩
                      | false =>
                        go_wp2_with fail
                        refine (refTexts_any _ _ _ _ _ _ want want _ (WA68.out.img GA h want (by simp)) (WA68.out.img WN h want (by simp)) (by omega) (by omega)).mono ?_
                        rintro e wt ⟨rfl, hb⟩
                        have WA69 := Lib.hid (WA68.out.step hb)
                        clear WA68 hb
                        rw [decide_eq_true (rfl : want = want)]
                        go_wp2_with fail
                        refine (refTexts_any _ _ _ _ _ _ want want _ (WA69.out.img GA h want (by simp)) (WA69.out.img WN h want (by simp)) (by omega) (by omega)).mono ?_
                        rintro e wt ⟨rfl, hb⟩
                        have WA73 := Lib.hid (WA69.out.step hb)
                        clear WA69 hb
                        rw [decide_eq_true (rfl : want = want)]
                        obtain ⟨x0, x1, x2, x3, xf⟩ := WA73.out.box.cells
                        have crc := recoverP_any E1 E2 e1' f1' e2' f2' rd (h : Int) (g : Int) _ WA73.out.dv HFR.out.1 HFR.out.2
                        rw [(SX.out.calm HHG.out.1 HHG.out.2).1] at crc
                        dsimp only at crc
                        go_wp2_with fail
                        refine crc.mono ?_
                        rintro e wq ⟨F1, k1', j1', F2, k2', j2', rfl, hd, hb⟩
                        have WA74 := Lib.hid (WA73.out.step hb)
                        clear WA73 hb
                        have WA75 := Lib.hid (WA74.out.step ((Below.refl _ _).alloc (Nat.le_refl _) (.cells #[.slice F1 k1' j1', .slice F2 k2' j2', .int .i64 rd.left, .bool rd.dead] 25)))
                        have HAG := Lib.hid (Dv.alloc hd (.cells #[.slice F1 k1' j1', .slice F2 k2' j2', .int .i64 rd.left, .bool rd.dead] 25))
                        clear x0 x1 x2 x3 xf crc
                        obtain ⟨x0, x1, x2, x3, xf⟩ := WA75.out.box.cells
                        clear hd
                        go_wp2_with fail
                        refine (refSame_any F1 F2 k1' j1' k2' j2' rd E1 E2 e1' f1' e2' f2' rd _ HAG.out WA75.out.dv).mono ?_
                        rintro e ws ⟨rfl, hb⟩
                        rw [show ∀ i : Decidable (rd = rd), @decide (rd = rd) i = true from fun i => @decide_eq_true _ i rfl]
                        have WZ := Lib.hid (WA75.out.step hb)
                        clear WA75 WA74 hb x0 x1 x2 x3 xf
                        go_wp2
                        go_roundg (k - (i + 1))
                        case measure => omega
                        case rel => exact ⟨i + 1, GA, gc, want, _, rd, by omega, by omega, by go_num, rfl, Lib.hid (WZ.out.less (by simp)), Lib.hid ⟨SX.out, HIMG.out⟩⟩
                    | false =>
                      have HIMG := Lib.hid (show ImageP want (h : Int) from HWI.out)
                      obtain ⟨x0, x1, x2, x3, xf⟩ := WA60.out.box.cells
                      have ch := homeP_any E1 E2 e1' f1' e2' f2' _ (h : Int) (g : Int) _ WA60.out.dv
                      rw [(SX.out.calm HHG.out.1 HHG.out.2).2] at ch
                      go_wp2_with fail
                      refine ch.mono ?_
                      rintro e wh ⟨GA, gn, gc, rfl, hrg, hg512, _, _, hb⟩
                      obtain rfl : h = gn := by have h8 := hrg.lenS; have h9 := HIMG.out.2; omega
                      have WA76 := Lib.hid (WA60.out.step hb)
                      have WA77 := Lib.hid (WA76.out.add hrg hg512)
                      clear WA60 WA76 hb hrg ch x0 x1 x2 x3 xf
                      go_wp2_with fail
                      refine (refTexts_any _ _ _ _ _ _ want now _ (WA77.out.img GA h want (by simp)) (WA77.out.img N h now (by simp)) (by omega) (by omega)).mono ?_
                      rintro e wt ⟨rfl, hb⟩
                      have WA78 := Lib.hid (WA77.out.step hb)
                      clear WA77 hb
                      obtain ⟨tw, htw⟩ : ∃ tw, tw = decide (want = now) := ⟨_, rfl⟩
                      rw [← htw]
                      clear htw
                      cases tw with
                      | true =>
                        obtain ⟨x0, x1, x2, x3, xf⟩ := WA78.out.box.cells
                        have crc := recoverP_any E1 E2 e1' f1' e2' f2' rd (h : Int) (g : Int) _ WA78.out.dv HFR.out.1 HFR.out.2
                        rw [(SX.out.calm HHG.out.1 HHG.out.2).1] at crc
                        dsimp only at crc
                        go_wp2_with fail
                        refine crc.mono ?_
                        rintro e wq ⟨F1, k1', j1', F2, k2', j2', rfl, hd, hb⟩
                        have WA80 := Lib.hid (WA78.out.step hb)
                        clear WA78 hb
                        have WA81 := Lib.hid (WA80.out.step ((Below.refl _ _).alloc (Nat.le_refl _) (.cells #[.slice F1 k1' j1', .slice F2 k2' j2', .int .i64 rd.left, .bool rd.dead] 25)))
                        have HAG := Lib.hid (Dv.alloc hd (.cells #[.slice F1 k1' j1', .slice F2 k2' j2', .int .i64 rd.left, .bool rd.dead] 25))
                        clear x0 x1 x2 x3 xf crc
                        obtain ⟨x0, x1, x2, x3, xf⟩ := WA81.out.box.cells
                        clear hd
                        go_wp2_with fail
                        refine (refSame_any F1 F2 k1' j1' k2' j2' rd E1 E2 e1' f1' e2' f2' rd _ HAG.out WA81.out.dv).mono ?_
                        rintro e ws ⟨rfl, hb⟩
                        rw [show ∀ i : Decidable (rd = rd), @decide (rd = rd) i = true from fun i => @decide_eq_true _ i rfl]
                        have WZ := Lib.hid (WA81.out.step hb)
                        clear WA81 WA80 hb x0 x1 x2 x3 xf
                        go_wp2
                        go_roundg (k - (i + 1))
                        case measure => omega
                        case rel => exact ⟨i + 1, GA, gc, want, _, rd, by omega, by omega, by go_num, rfl, Lib.hid (WZ.out.less (by simp)), Lib.hid ⟨SX.out, HIMG.out⟩⟩
                      | false =>
                        go_wp2_with fail
                        refine (refTexts_any _ _ _ _ _ _ want want _ (WA78.out.img GA h want (by simp)) (WA78.out.img WN h want (by simp)) (by omega) (by omega)).mono ?_
                        rintro e wt ⟨rfl, hb⟩
                        have WA79 := Lib.hid (WA78.out.step hb)
                        clear WA78 hb
                        rw [decide_eq_true (rfl : want = want)]
                        obtain ⟨x0, x1, x2, x3, xf⟩ := WA79.out.box.cells
                        have crc := recoverP_any E1 E2 e1' f1' e2' f2' rd (h : Int) (g : Int) _ WA79.out.dv HFR.out.1 HFR.out.2
                        rw [(SX.out.calm HHG.out.1 HHG.out.2).1] at crc
                        dsimp only at crc
                        go_wp2_with fail
                        refine crc.mono ?_
                        rintro e wq ⟨F1, k1', j1', F2, k2', j2', rfl, hd, hb⟩
                        have WA82 := Lib.hid (WA79.out.step hb)
                        clear WA79 hb
                        have WA83 := Lib.hid (WA82.out.step ((Below.refl _ _).alloc (Nat.le_refl _) (.cells #[.slice F1 k1' j1', .slice F2 k2' j2', .int .i64 rd.left, .bool rd.dead] 25)))
                        have HAG := Lib.hid (Dv.alloc hd (.cells #[.slice F1 k1' j1', .slice F2 k2' j2', .int .i64 rd.left, .bool rd.dead] 25))
                        clear x0 x1 x2 x3 xf crc
                        obtain ⟨x0, x1, x2, x3, xf⟩ := WA83.out.box.cells
                        clear hd
                        go_wp2_with fail
                        refine (refSame_any F1 F2 k1' j1' k2' j2' rd E1 E2 e1' f1' e2' f2' rd _ HAG.out WA83.out.dv).mono ?_
                        rintro e ws ⟨rfl, hb⟩
                        rw [show ∀ i : Decidable (rd = rd), @decide (rd = rd) i = true from fun i => @decide_eq_true _ i rfl]
                        have WZ := Lib.hid (WA83.out.step hb)
                        clear WA83 WA82 hb x0 x1 x2 x3 xf
                        go_wp2
                        go_roundg (k - (i + 1))
                        case measure => omega
                        case rel => exact ⟨i + 1, GA, gc, want, _, rd, by omega, by omega, by go_num, rfl, Lib.hid (WZ.out.less (by simp)), Lib.hid ⟨SX.out, HIMG.out⟩⟩
    · have : i = k := by omega
      subst this
      go_wp2_with fail
      refine (awake3_any _).mono ?_
      rintro e w9 ⟨rfl, hb9⟩
      have B9 := Lib.hid (bstep WA.out.below hb9)
      clear hb9
      go_wp2
      go_ret
      exact ⟨rfl, B9.out⟩

end Go.Proofs.Ytlpijikhbjkmfaa
