/-
  Recover: the program's function.
-/
import Derived.Test.YtlpijikhbjkmfaaG27
import Derived.Test.YtlpijikhbjkmfaaG29
namespace Go.Proofs.Ytlpijikhbjkmfaa
open Go.RowKit

set_option maxRecDepth 100000 in
set_option maxHeartbeats 2000000 in
theorem recoverP_any (A A' : Option Addr) (n c m c' : Nat) (d : D) (x y : Int) (w : World) (h : Dv w w.heap.size A n A' m d) (hf : FitP d) (hl : d.left ≤ 9223372036854775807) :
    Calls Try.prog 16 #[.agg #[.slice A n c, .slice A' m c', .int .i64 d.left, .bool d.dead], .int .i64 x, .int .i64 y] w fun e w' => Tells2 w w' (recoverD d x y).1 (recoverD d x y).2 e := by
  have hmf : ∀ (fn : Fn) (first cap : Array Value) (w : World), (Instr.makeFunc fn first cap).run Try.prog w = .ok (.func fn first cap) w := fun _ _ _ _ => rfl
  have HF := Lib.hid (And.intro hf hl)
  have hln := h.bs.lenS
  have hbx := begin_any A A' n c m c' d x y ((w.alloc (.cells #[.slice A n c, .slice A' m c', .int .i64 d.left, .bool d.dead] 25)).alloc (.cells #[.slice none 0 0, .slice none 0 0, .int .i64 0, .bool false] 25)) ((h.alloc _).alloc _)
  obtain ⟨r, hr⟩ : ∃ r, r = recoverD d x y := ⟨_, rfl⟩
  rw [← hr]
  have HR := Lib.hid hr
  clear h hf hl hr
  go_enter Try.func16, Try.ntmps16
  go_wp2_with fail
  refine hbx.mono ?_
  rintro e w1 ⟨g, A2, c2, A2', c2', rfl, hg, hk, hb1⟩
  have hBb : Below w.heap.size w w1 := (alloc2_below w _ _).trans (hb1.mono (by simp; omega))
  have hRb := ((show B4 ((w.alloc (.cells #[.slice A n c, .slice A' m c', .int .i64 d.left, .bool d.dead] 25)).alloc (.cells #[.slice none 0 0, .slice none 0 0, .int .i64 0, .bool false] 25)) (w.heap.size + 1) (.slice none 0 0) (.slice none 0 0) (.int .i64 0) (.bool false) by simpa using B4.new (w.alloc (.cells #[.slice A n c, .slice A' m c', .int .i64 d.left, .bool d.dead] 25)) (.slice none 0 0) (.slice none 0 0) (.int .i64 0) (.bool false)).step hb1)
  have hgz : w.heap.size + 2 ≤ g := by simpa using hg
  obtain ⟨v2, hv2⟩ : ∃ v2, v2 = beginV (layV x y) A2 n c2 A2' m c2' d := ⟨_, rfl⟩
  rw [← hv2] at hk
  have K0 := Lib.hid hk
  have HV : Hid ((v2.p0 = (layV x y).1 ∧ v2.p1 = (layV x y).2.1 ∧ v2.p2 = (layV x y).2.2.1 ∧ v2.p3 = (layV x y).2.2.2) ∧ v2.n = n ∧ v2.k = 0 ∧ v2.dn = false) := Lib.hid (by rw [hv2]; exact ⟨⟨rfl, rfl, rfl, rfl⟩, rfl, rfl, rfl⟩)
  have HBB := Lib.hid (And.intro hBb hRb)
  clear hv2 hbx hb1 hg hk hBb hRb
  go_wp2_with fail
  have hgb := K0.out.blk.lt
  have hrow := heap_alloc_new w1 (.cells #[.func (.func 21) #[.pointer (some ⟨g, 0, none⟩)] #[], .func (.func 49) #[.pointer (some ⟨g, 0, none⟩)] #[]] 63)
  have K3 := Lib.hid (K0.out.step (alloc_below0 w1 (.cells #[.func (.func 21) #[.pointer (some ⟨g, 0, none⟩)] #[], .func (.func 49) #[.pointer (some ⟨g, 0, none⟩)] #[]] 63)))
  have hB3 := HBB.out.1.trans ((alloc_below0 w1 (.cells #[.func (.func 21) #[.pointer (some ⟨g, 0, none⟩)] #[], .func (.func 49) #[.pointer (some ⟨g, 0, none⟩)] #[]] 63)).mono HBB.out.1.size)
  have hR3 := HBB.out.2.alloc (.cells #[.func (.func 21) #[.pointer (some ⟨g, 0, none⟩)] #[], .func (.func 49) #[.pointer (some ⟨g, 0, none⟩)] #[]] 63)
  generalize w1.alloc (.cells #[.func (.func 21) #[.pointer (some ⟨g, 0, none⟩)] #[], .func (.func 49) #[.pointer (some ⟨g, 0, none⟩)] #[]] 63) = W3 at hrow K3 hB3 hR3 ⊢
  have HX := Lib.hid (And.intro hB3 hR3)
  clear hB3 hR3
  refine (run_any (some ⟨w1.heap.size, 0, none⟩) 2 2 (fsLook g) rfl (by omega) (Look g W3 v2 d x y) (Cant g W3 d x y) (fun k W hA => mem_fs hrow hA.gr (by omega)) (eg_look g) (look_steps g W3 v2 d x y HF.out.1 n hln HV.out.2.1 HV.out.2.2.1 HV.out.1) W3 ⟨World.grownBy.refl _ _, fun _ => K3.out, fun h => absurd h (by omega), fun h => absurd h (by omega)⟩).mono ?_
  rintro e w4 ⟨x0, rfl, hcase⟩
  have R4of : ∀ W, W3.grownBy W (some g) → B4 W (w.heap.size + 1) (.slice none 0 0) (.slice none 0 0) (.int .i64 0) (.bool false) := fun W hg => HX.out.2.grown hg (fun e => by injection e; omega)
  have HB4of : ∀ W, W3.grownBy W (some g) → Below w.heap.size w W := fun W hg => HX.out.1.grown hg HX.out.1.size (fun q e => by injection e; omega)
  rcases hcase with ⟨rfl, hA⟩ | ⟨hx0, hBad⟩
  · obtain ⟨hle, v, pl, bl, hv, hk, hr⟩ := hA.hi rfl
    have h0 := hA.f0 (by omega)
    have hne : (layV x y).2.2.2 ≠ 0 := fun e => by
      rw [wrong_fits d x y n hln, e] at h0
      unfold fitsE at h0
      rw [if_pos rfl] at h0
      exact absurd h0 (by decide)
    obtain ⟨h, gg, rfl, rfl, hh1, hh2, gg1, gg2, hlay⟩ := lay_nat hne
    have HX0 : ((h : Int)).toNat = h := rfl
    have HY0 : ((gg : Int)).toNat = gg := rfl
    rw [HX0, HY0] at hle
    rw [HX0] at hr
    have hl8 : listsN h ≤ 8 := by unfold listsN; omega
    have KV := Lib.hid hk
    have R4 := Lib.hid (R4of _ hA.gr)
    have HB4 := Lib.hid (HB4of _ hA.gr)
    have hne1 : g ≠ w.heap.size + 1 := by omega
    have HVP : Hid (v.p0 = 1 ∧ v.p1 = ((1 + listsN h : Nat) : Int) ∧ v.p2 = ((1 + listsN h + gg : Nat) : Int) ∧ v.dn = false) := Lib.hid (by
      obtain ⟨sq, P, k, kc, L, j, jc, rfl⟩ := hv
      obtain ⟨⟨e0, e1, e2, e3⟩, _, _, e6⟩ := HV.out
      rw [hlay] at e0 e1 e2
      exact ⟨e0, e1, e2, e6⟩)
    have z10 := hk.blk.pl
    have HGR := Lib.hid hA.gr
    rcases hr with ⟨hz, hk0⟩ | ⟨hz, hk1, rfl, rfl, hdead⟩
    · have hz1 : ¬ (0 : Int) < (v.k : Int) := by omega
      have HE : Hid (r = (d, 0)) := Lib.hid (by
        rw [HR.out]
        unfold recoverD
        rw [if_neg (by rw [h0]; decide), HX0, HY0, if_neg (by rw [hle]; decide), if_pos hz])
      obtain ⟨z0, z1, z2, z3⟩ := hk.blk.d
      rw [hk.hl] at z2
      rw [hk.hz] at z3
      obtain ⟨y0, y1, y2, y3, yf⟩ := R4.out.cells
      clear hk hA R4of HB4of hne h0 hlay hle hv hz
      go_wp2
      change bodyPost _ _ _ _ _ (putD w4 (w.heap.size + 1) (.slice v.A v.n v.c) (.slice v.A' v.m v.c') (.int .i64 d.left) (.bool d.dead))
      have P := Lib.hid (And.intro (putD_b4 (A := v.A) (n := v.n) (c := v.c) (A' := v.A') (m := v.m) (c' := v.c') (l2 := d.left) (z2 := d.dead) R4.out) (And.intro (putD_dv (A := v.A) (n := v.n) (c := v.c) (A' := v.A') (m := v.m) (c' := v.c') (l2 := d.left) (z2 := d.dead) R4.out KV.out.dv) (putD_below (g := w.heap.size + 1) (a := .slice v.A v.n v.c) (b := .slice v.A' v.m v.c') (c := .int .i64 d.left) (d := .bool d.dead) HB4.out (by omega))))
      generalize putD w4 (w.heap.size + 1) (.slice v.A v.n v.c) (.slice v.A' v.m v.c') (.int .i64 d.left) (.bool d.dead) = w9 at P ⊢
      obtain ⟨t0, t1, t2, t3, tf⟩ := P.out.1.cells
      refine bodyPost_ret (v := .tuple #[.agg #[.slice v.A v.n v.c, .slice v.A' v.m v.c', .int .i64 d.left, .bool d.dead], .int .i64 0]) (by simp [results, Try.results16, go_sem, t0, t1, t2, t3]) rfl ?_
      rw [HE.out]
      exact ⟨v.A, v.n, v.c, v.A', v.m, v.c', rfl, P.out.2.1, P.out.2.2⟩
    · have hz1 : (0 : Int) < (v.k : Int) := by omega
      have hvk : v.k = (plR d h).length := hk.pl.lenN.symm
      have HN := Lib.hid (And.intro hvk (And.intro h0 (And.intro hle (And.intro hz (And.intro hk1 hdead)))))
      clear hk hA hne hlay hv hvk hle h0 hz hdead
      go_wp2_with fail
      obtain ⟨hvk, h0, hle, hz, hk1, hdead⟩ := HN.out
      have hrow6 := heap_alloc_new w4 (.cells #[.func (.func 30) #[.pointer (some ⟨g, 0, none⟩)] #[], .func (.func 27) #[.pointer (some ⟨g, 0, none⟩)] #[], .func (.func 31) #[.pointer (some ⟨g, 0, none⟩)] #[], .func (.func 27) #[.pointer (some ⟨g, 0, none⟩)] #[]] 63)
      have K6 := Lib.hid (KV.out.step (alloc_below0 w4 (.cells #[.func (.func 30) #[.pointer (some ⟨g, 0, none⟩)] #[], .func (.func 27) #[.pointer (some ⟨g, 0, none⟩)] #[], .func (.func 31) #[.pointer (some ⟨g, 0, none⟩)] #[], .func (.func 27) #[.pointer (some ⟨g, 0, none⟩)] #[]] 63)))
      have G6 := Lib.hid (grown_trans HGR.out (World.grownBy_alloc w4 (.cells #[.func (.func 30) #[.pointer (some ⟨g, 0, none⟩)] #[], .func (.func 27) #[.pointer (some ⟨g, 0, none⟩)] #[], .func (.func 31) #[.pointer (some ⟨g, 0, none⟩)] #[], .func (.func 27) #[.pointer (some ⟨g, 0, none⟩)] #[]] 63) (some g)))
      have hS6 : w4.heap.size ≠ g := by have := KV.out.blk.lt; omega
      generalize w4.alloc (.cells #[.func (.func 30) #[.pointer (some ⟨g, 0, none⟩)] #[], .func (.func 27) #[.pointer (some ⟨g, 0, none⟩)] #[], .func (.func 31) #[.pointer (some ⟨g, 0, none⟩)] #[], .func (.func 27) #[.pointer (some ⟨g, 0, none⟩)] #[]] 63) = W6 at hrow6 K6 G6 ⊢
      have hplt : ∀ k, k < (plR d h).length → (plR d h).getD k 0 < 65536 := fun k hk2 => by
        have hk3 : k < cntN d := by simpa [plR] using hk2
        simp [plR, List.getD_eq_getElem?_getD, hk3, num2_lt]
      have hpl9 : (plR d h).length = cntN d := by simp [plR]
      have hbl9 : (blR d h).length = cntN d := by simp [blR, readL_length]
      have hcn : cntN d ≤ 512 := by
        by_cases hb : cntN d < 1 ∨ gg < cntN d ∨ h < cntN d
        · unfold loadE at hle
          rw [if_neg (by rw [hdead]; decide), if_neg hz, if_pos hb] at hle
          exact absurd hle (by decide)
        · omega
      have hst := rec_steps (1 + listsN h + gg) g W6 d (blR d h) (plR d h) 1 ((1 + listsN h : Nat) : Int) v.sq HF.out.1 HF.out.2 (by omega) hplt (by omega) (by omega)
      refine (run_any (some ⟨w4.heap.size, 0, none⟩) 4 4 (fsRec g) rfl (by omega) (fun k W => Dn (stepR (1 + listsN h + gg) (plR d h) (blR d h)) g W6 d [] (blR d h) (plR d h) 1 ((1 + listsN h : Nat) : Int) ((1 + listsN h + gg : Nat) : Int) v.sq false k W) (fun x W => ∃ k, k < 4 ∧ Fl (stepR (1 + listsN h + gg) (plR d h) (blR d h)) g W6 d [] (blR d h) (plR d h) false k x W)
        (fun k W hA => mem_fs hrow6 hA.gr hS6) (eg_rec g) (fun k W p hD hp => (hst k W p hD hp).mono fun e W' hh => by
          obtain ⟨x, he, hcase⟩ := hh
          refine ⟨x, he, ?_⟩
          rcases hcase with hc | ⟨hx, hF⟩
          · exact .inl hc
          · exact .inr ⟨hx, k, by have := (List.getElem?_eq_some_iff.1 hp).1; simpa [fsRec] using this, hF⟩) W6 ⟨⟨v, HVP.out.1, HVP.out.2.1, HVP.out.2.2.1, rfl, HVP.out.2.2.2, K6.out⟩, rfl, World.grownBy.refl _ _⟩).mono ?_
      rintro e w6 ⟨x7, rfl, hcase⟩
      have hex : ∃ (v7 : WV) (D7 : D), Wk w6 g v7 D7 [] (plR d h) (blR d h) ∧ W6.grownBy w6 (some g) ∧ r = (D7, x7) := by
        have hrr : r = runD (d, 0) (preK (stepR (1 + listsN h + gg) (plR d h) (blR d h)) 4) := by
          rw [HR.out, pre_rec]
          unfold recoverD
          rw [if_neg (by rw [h0]; decide), HX0, HY0, if_neg (by rw [hle]; decide), if_neg hz]
        rw [hrr]
        rcases hcase with ⟨rfl, ⟨v7, _, _, _, _, _, hk7⟩, hok, hgr⟩ | ⟨hx, k, hk4, ⟨v7, _, hk7⟩, hokk, hbad, hgr⟩
        · clear hrr
          generalize runD (d, 0) (preK (stepR (1 + listsN h + gg) (plR d h) (blR d h)) 4) = Z at hk7 hok ⊢
          obtain ⟨Z1, Z2⟩ := Z
          exact ⟨v7, Z1, hk7, hgr, congrArg (Prod.mk Z1) hok⟩
        · have e5 := pre_err (stepR (1 + listsN h + gg) (plR d h) (blR d h)) (show k + 1 ≤ 4 by omega) (d, 0) (by rw [hbad]; exact hx)
          rw [e5]
          clear hrr e5
          generalize runD (d, 0) (preK (stepR (1 + listsN h + gg) (plR d h) (blR d h)) (k + 1)) = Z at hk7 hbad ⊢
          obtain ⟨Z1, Z2⟩ := Z
          exact ⟨v7, Z1, hk7, hgr, congrArg (Prod.mk Z1) hbad⟩
      obtain ⟨v7, D7, hk7, hgr7, hres⟩ := hex
      have KV7 := Lib.hid hk7
      have HE := Lib.hid hres
      have R4 := Lib.hid (R4of _ (grown_trans G6.out hgr7))
      have HB4 := Lib.hid (HB4of _ (grown_trans G6.out hgr7))
      obtain ⟨z0, z1, z2, z3⟩ := hk7.blk.d
      rw [hk7.hl] at z2
      rw [hk7.hz] at z3
      obtain ⟨y0, y1, y2, y3, yf⟩ := R4.out.cells
      clear hcase hres hk7 hgr7 hst hplt hrow6 h0 hle hvk hrow R4of HB4of hz1 z10 hz hk1 hdead hpl9 hbl9 hcn
      go_wp2
      change bodyPost _ _ _ _ _ (putD w6 (w.heap.size + 1) (.slice v7.A v7.n v7.c) (.slice v7.A' v7.m v7.c') (.int .i64 D7.left) (.bool D7.dead))
      have P := Lib.hid (And.intro (putD_b4 (A := v7.A) (n := v7.n) (c := v7.c) (A' := v7.A') (m := v7.m) (c' := v7.c') (l2 := D7.left) (z2 := D7.dead) R4.out) (And.intro (putD_dv (A := v7.A) (n := v7.n) (c := v7.c) (A' := v7.A') (m := v7.m) (c' := v7.c') (l2 := D7.left) (z2 := D7.dead) R4.out KV7.out.dv) (putD_below (g := w.heap.size + 1) (a := .slice v7.A v7.n v7.c) (b := .slice v7.A' v7.m v7.c') (c := .int .i64 D7.left) (d := .bool D7.dead) HB4.out (by omega))))
      generalize putD w6 (w.heap.size + 1) (.slice v7.A v7.n v7.c) (.slice v7.A' v7.m v7.c') (.int .i64 D7.left) (.bool D7.dead) = w9 at P ⊢
      obtain ⟨t0, t1, t2, t3, tf⟩ := P.out.1.cells
      refine bodyPost_ret (v := .tuple #[.agg #[.slice v7.A v7.n v7.c, .slice v7.A' v7.m v7.c', .int .i64 D7.left, .bool D7.dead], .int .i64 x7]) (by simp [results, Try.results16, go_sem, t0, t1, t2, t3]) rfl ?_
      rw [HE.out]
      exact ⟨v7.A, v7.n, v7.c, v7.A', v7.m, v7.c', rfl, P.out.2.1, P.out.2.2⟩
  · obtain ⟨v, pl, bl, hk⟩ := hBad.ex
    have KV := Lib.hid hk
    have R4 := Lib.hid (R4of _ hBad.gr)
    have HB4 := Lib.hid (HB4of _ hBad.gr)
    have HC := Lib.hid hBad.is
    have hx2 : (x0 == 0) = false := by simpa using hx0
    have hne : g ≠ w.heap.size + 1 := by omega
    obtain ⟨z0, z1, z2, z3⟩ := hk.blk.d
    rw [hk.hl] at z2
    rw [hk.hz] at z3
    obtain ⟨y0, y1, y2, y3, yf⟩ := R4.out.cells
    clear hk hBad R4of HB4of hx0
    go_wp2
    change bodyPost _ _ _ _ _ (putD w4 (w.heap.size + 1) (.slice v.A v.n v.c) (.slice v.A' v.m v.c') (.int .i64 d.left) (.bool d.dead))
    have P := Lib.hid (And.intro (putD_b4 (A := v.A) (n := v.n) (c := v.c) (A' := v.A') (m := v.m) (c' := v.c') (l2 := d.left) (z2 := d.dead) R4.out) (And.intro (putD_dv (A := v.A) (n := v.n) (c := v.c) (A' := v.A') (m := v.m) (c' := v.c') (l2 := d.left) (z2 := d.dead) R4.out KV.out.dv) (putD_below (g := w.heap.size + 1) (a := .slice v.A v.n v.c) (b := .slice v.A' v.m v.c') (c := .int .i64 d.left) (d := .bool d.dead) HB4.out (by omega))))
    generalize putD w4 (w.heap.size + 1) (.slice v.A v.n v.c) (.slice v.A' v.m v.c') (.int .i64 d.left) (.bool d.dead) = w9 at P ⊢
    obtain ⟨t0, t1, t2, t3, tf⟩ := P.out.1.cells
    refine bodyPost_ret (v := .tuple #[.agg #[.slice v.A v.n v.c, .slice v.A' v.m v.c', .int .i64 d.left, .bool d.dead], .int .i64 x0]) (by simp [results, Try.results16, go_sem, t0, t1, t2, t3]) rfl ?_
    rw [HR.out, HC.out]
    exact ⟨v.A, v.n, v.c, v.A', v.m, v.c', rfl, P.out.2.1, P.out.2.2⟩

end Go.Proofs.Ytlpijikhbjkmfaa
