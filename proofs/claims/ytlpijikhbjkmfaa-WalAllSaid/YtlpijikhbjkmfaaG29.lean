/-
  Commit: the program's function.
-/
import Derived.Test.YtlpijikhbjkmfaaG25
namespace Go.Proofs.Ytlpijikhbjkmfaa
open Go.RowKit

theorem Wk.keepSlice {W0 W : World} {g S : Nat} (hg : W0.grownBy W (some g)) (hS : S < W0.heap.size) (hne : S ≠ g) {o : Nat} {u : Value} (h : W0.cell? ⟨S, o, none⟩ = some u) : W.cell? ⟨S, o, none⟩ = some u :=
  (World.cell?_of_block (a := ⟨S, o, none⟩) (hg.block S hS (fun e => hne (by injection e)))).trans h

theorem mem_fs {W0 W : World} {g S : Nat} {fs : List (Nat × Nat)} {t : TypeId} (h : W0.heap[S]? = some (.cells (fs.map fun p => Value.func (.func p.1) #[.pointer (some ⟨p.2, 0, none⟩)] #[]).toArray t (0, 0))) (hg : W0.grownBy W (some g)) (hne : S ≠ g) :
    ∀ j p, fs[j]? = some p → ∃ b o, (some ⟨S, 0, none⟩ : Option Addr) = some ⟨b, o, none⟩ ∧ W.cell? ⟨b, o + j, none⟩ = some (.func (.func p.1) #[.pointer (some ⟨p.2, 0, none⟩)] #[]) := by
  intro j p hp
  refine ⟨S, 0, rfl, ?_⟩
  rw [Nat.zero_add]
  refine Wk.keepSlice hg (Array.getElem?_eq_some_iff.1 h).1 hne ?_
  simp [World.cell?, h, hp]
set_option maxRecDepth 100000 in
set_option maxHeartbeats 2000000 in
theorem commitP_any (A A' : Option Addr) (n c m c' : Nat) (d : D) (x y : Int) (sq : Nat) (I : Option Addr) (i ic : Nat) (img : List ByteArray) (w : World) (h : Dv w w.heap.size A n A' m d) (hi : Reads w w.heap.size 1 I i (encS img)) (hi2 : i * 16 ≤ 140737488355328) (hf : FitP d) (hl : d.left ≤ 9223372036854775807) (hsq : sq < 18446744073709551616) :
    Calls Try.prog 7 #[.agg #[.slice A n c, .slice A' m c', .int .i64 d.left, .bool d.dead], .int .i64 x, .int .i64 y, .int .u64 sq, .slice I i ic] w fun e w' => Tells3 w w' (commitD d x y sq img) e := by
  have hmx : Try.prog.follows .mixedOrders = true := by kernel_rfl
  have hmf : ∀ (fn : Fn) (first cap : Array Value) (w : World), (Instr.makeFunc fn first cap).run Try.prog w = .ok (.func fn first cap) w := fun _ _ _ _ => rfl
  have H := Lib.hid (And.intro h (And.intro hi hi2))
  have HF := Lib.hid (And.intro hf (And.intro hl hsq))
  have hln := h.bs.lenS
  have hbx := begin_any A A' n c m c' d x y ((w.alloc (.cells #[.slice A n c, .slice A' m c', .int .i64 d.left, .bool d.dead] 25)).alloc (.cells #[.slice none 0 0, .slice none 0 0, .int .i64 0, .bool false] 25)) ((h.alloc _).alloc _)
  obtain ⟨r, hr⟩ : ∃ r, r = commitD d x y sq img := ⟨_, rfl⟩
  rw [← hr]
  have HR := Lib.hid hr
  clear h hi hi2 hf hl hr
  go_enter Try.func7, Try.ntmps7
  go_wp2_with fail
  refine hbx.mono ?_
  rintro e w1 ⟨g, A2, c2, A2', c2', rfl, hg, hk, hb1⟩
  have hB1 : Below w.heap.size w w1 := (alloc2_below w _ _).trans (hb1.mono (by simp; omega))
  have K0 := Lib.hid (hk.seqimg sq (ic := ic) (H.out.2.1.step hB1) H.out.2.2)
  have HB1 := Lib.hid hB1
  have R1 := Lib.hid ((show B4 ((w.alloc (.cells #[.slice A n c, .slice A' m c', .int .i64 d.left, .bool d.dead] 25)).alloc (.cells #[.slice none 0 0, .slice none 0 0, .int .i64 0, .bool false] 25)) (w.heap.size + 1) (.slice none 0 0) (.slice none 0 0) (.int .i64 0) (.bool false) by simpa using B4.new (w.alloc (.cells #[.slice A n c, .slice A' m c', .int .i64 d.left, .bool d.dead] 25)) (.slice none 0 0) (.slice none 0 0) (.int .i64 0) (.bool false)).step hb1)
  have hgz : w.heap.size + 2 ≤ g := by simpa using hg
  have c8 := hk.blk.im
  have c9 := hk.blk.sq
  have cf := hk.blk.f
  clear hbx hb1 hB1 hg hk
  go_wp2_with fail
  obtain ⟨v2, hv2⟩ : ∃ v2, v2 = { beginV (layV x y) A2 n c2 A2' m c2' d with sq := sq, I := I, i := i, ic := ic } := ⟨_, rfl⟩
  rw [← hv2] at K0
  have HV : Hid ((v2.p0 = (layV x y).1 ∧ v2.p1 = (layV x y).2.1 ∧ v2.p2 = (layV x y).2.2.1 ∧ v2.p3 = (layV x y).2.2.2) ∧ v2.n = n ∧ (v2.L = none ∧ v2.j = 0 ∧ v2.jc = 0) ∧ v2.sq = sq ∧ v2.dn = false) := Lib.hid (by rw [hv2]; exact ⟨⟨rfl, rfl, rfl, rfl⟩, rfl, ⟨rfl, rfl, rfl⟩, rfl, rfl⟩)
  clear hv2 c8 c9
  have hzb : ((w1.setCell ⟨g, 9, none⟩ (.int .u64 sq)).setCell ⟨g, 8, none⟩ (.slice I i ic)).heap.size = w1.heap.size := by simp
  have hBb : Below w.heap.size w ((w1.setCell ⟨g, 9, none⟩ (.int .u64 sq)).setCell ⟨g, 8, none⟩ (.slice I i ic)) := (HB1.out.setCell (p := ⟨g, 9, none⟩) (by show w.heap.size ≤ g; omega) _).setCell (p := ⟨g, 8, none⟩) (by show w.heap.size ≤ g; omega) _
  have hRb := (R1.out.far (p := ⟨g, 9, none⟩) (by show w.heap.size + 1 ≠ g; omega) (.int .u64 sq)).far (p := ⟨g, 8, none⟩) (by show w.heap.size + 1 ≠ g; omega) (.slice I i ic)
  generalize (w1.setCell ⟨g, 9, none⟩ (.int .u64 sq)).setCell ⟨g, 8, none⟩ (.slice I i ic) = Wb at K0 hzb hBb hRb ⊢
  rw [← hzb]
  have hgb := K0.out.blk.lt
  have hrow := heap_alloc_new Wb (.cells #[.func (.func 21) #[.pointer (some ⟨g, 0, none⟩)] #[], .func (.func 22) #[.pointer (some ⟨g, 0, none⟩)] #[], .func (.func 23) #[.pointer (some ⟨g, 0, none⟩)] #[], .func (.func 24) #[.pointer (some ⟨g, 0, none⟩)] #[]] 63)
  have K3 := Lib.hid (K0.out.step (alloc_below0 Wb (.cells #[.func (.func 21) #[.pointer (some ⟨g, 0, none⟩)] #[], .func (.func 22) #[.pointer (some ⟨g, 0, none⟩)] #[], .func (.func 23) #[.pointer (some ⟨g, 0, none⟩)] #[], .func (.func 24) #[.pointer (some ⟨g, 0, none⟩)] #[]] 63)))
  have hB3 := hBb.trans ((alloc_below0 Wb (.cells #[.func (.func 21) #[.pointer (some ⟨g, 0, none⟩)] #[], .func (.func 22) #[.pointer (some ⟨g, 0, none⟩)] #[], .func (.func 23) #[.pointer (some ⟨g, 0, none⟩)] #[], .func (.func 24) #[.pointer (some ⟨g, 0, none⟩)] #[]] 63)).mono hBb.size)
  have hR3 := hRb.alloc (.cells #[.func (.func 21) #[.pointer (some ⟨g, 0, none⟩)] #[], .func (.func 22) #[.pointer (some ⟨g, 0, none⟩)] #[], .func (.func 23) #[.pointer (some ⟨g, 0, none⟩)] #[], .func (.func 24) #[.pointer (some ⟨g, 0, none⟩)] #[]] 63)
  generalize Wb.alloc (.cells #[.func (.func 21) #[.pointer (some ⟨g, 0, none⟩)] #[], .func (.func 22) #[.pointer (some ⟨g, 0, none⟩)] #[], .func (.func 23) #[.pointer (some ⟨g, 0, none⟩)] #[], .func (.func 24) #[.pointer (some ⟨g, 0, none⟩)] #[]] 63) = W3 at hrow K3 hB3 hR3 ⊢
  have HX := Lib.hid (And.intro hB3 hR3)
  clear hB3 hR3 hBb hRb
  refine (run_any (some ⟨Wb.heap.size, 0, none⟩) 4 4 (fsFirst g) rfl (by omega) (Ask g W3 v2 d x y img) (Bad g W3 d x y sq img) (fun k W hA => mem_fs hrow hA.gr (by omega)) (eg_first g) (first_steps g W3 v2 d x y sq img HF.out.1 n hln HV.out.2.1 HV.out.2.2.1 HV.out.1) W3 ⟨World.grownBy.refl _ _, fun _ => K3.out, fun h => absurd h (by omega), fun h => absurd h (by omega), fun h => absurd h (by omega), fun h => absurd h (by omega)⟩).mono ?_
  rintro e w4 ⟨x0, rfl, hcase⟩
  have R4of : ∀ W, W3.grownBy W (some g) → B4 W (w.heap.size + 1) (.slice none 0 0) (.slice none 0 0) (.int .i64 0) (.bool false) := fun W hg => HX.out.2.grown hg (fun e => by injection e; omega)
  have HB4of : ∀ W, W3.grownBy W (some g) → Below w.heap.size w W := fun W hg => HX.out.1.grown hg HX.out.1.size (fun q e => by injection e; omega)
  rcases hcase with ⟨rfl, hA⟩ | ⟨hx0, hBad⟩
  · obtain ⟨hle, v, hv, hk⟩ := hA.hi rfl
    have h0 := hA.f0 (by omega)
    have h1 := hA.f1 (by omega)
    have h2 := hA.f2 (by omega)
    have hne : (layV x y).2.2.2 ≠ 0 := fun e => by
      rw [wrong_fits d x y n hln, e] at h0
      unfold fitsE at h0
      rw [if_pos rfl] at h0
      exact absurd h0 (by decide)
    obtain ⟨h, gg, rfl, rfl, hh1, hh2, gg1, gg2, hlay⟩ := lay_nat hne
    rw [show homeL d ((h : Int)).toNat ((gg : Int)).toNat = homeL d h gg from rfl] at hle hk
    rw [show ((gg : Int)).toNat = gg from rfl] at hle
    have hl8 : listsN h ≤ 8 := by unfold listsN; omega
    obtain ⟨pl, hpl⟩ : ∃ pl, pl = changedL (homeL d h gg) img := ⟨_, rfl⟩
    rw [← hpl] at hle hk
    have KV := Lib.hid hk
    have R4 := Lib.hid (R4of _ hA.gr)
    have HB4 := Lib.hid (HB4of _ hA.gr)
    have hvk : v.k = pl.length := hk.pl.lenN.symm
    have hne1 : g ≠ w.heap.size + 1 := by omega
    have HC := Lib.hid (And.intro h0 (And.intro h1 (And.intro h2 (And.intro hpl hle))))
    have HVP : Hid (v.p0 = 1 ∧ v.p1 = ((1 + listsN h : Nat) : Int) ∧ v.p2 = ((1 + listsN h + gg : Nat) : Int) ∧ v.sq = sq ∧ v.dn = false) := Lib.hid (by
      obtain ⟨P, k, kc, L, j, jc, rfl⟩ := hv
      obtain ⟨⟨e0, e1, e2, e3⟩, _, _, e5, e6⟩ := HV.out
      rw [hlay] at e0 e1 e2
      exact ⟨e0, e1, e2, e5, e6⟩)
    have z10 := hk.blk.pl
    have HGR := Lib.hid hA.gr
    by_cases hn : pl.length = 0
    · have hz1 : ((v.k : Int) == 0) = true := by rw [hvk, hn]; rfl
      have hzz : v.k = 0 := by omega
      have HE : Hid (r = (d, 0, true)) := Lib.hid (by
        rw [HR.out]
        unfold commitD
        rw [if_neg (by rw [h0]; decide), if_neg (fun hh => hh h1), if_neg (by rw [h2]; decide)]
        rw [show changedL (homeL d ((h : Int)).toNat ((gg : Int)).toNat) img = pl from hpl.symm, if_neg (by rw [show ((gg : Int)).toNat = gg from rfl]; omega), if_pos hn])
      obtain ⟨z0, z1, z2, z3⟩ := hk.blk.d
      rw [hk.hl] at z2
      rw [hk.hz] at z3
      obtain ⟨y0, y1, y2, y3, yf⟩ := R4.out.cells
      clear hk hA R4of HB4of hne h0 h1 h2 hlay hpl hle hv hvk hn
      go_wp2
      change bodyPost _ _ _ _ _ (putD w4 (w.heap.size + 1) (.slice v.A v.n v.c) (.slice v.A' v.m v.c') (.int .i64 d.left) (.bool d.dead))
      have P := Lib.hid (And.intro (putD_b4 (A := v.A) (n := v.n) (c := v.c) (A' := v.A') (m := v.m) (c' := v.c') (l2 := d.left) (z2 := d.dead) R4.out) (And.intro (putD_dv (A := v.A) (n := v.n) (c := v.c) (A' := v.A') (m := v.m) (c' := v.c') (l2 := d.left) (z2 := d.dead) R4.out KV.out.dv) (putD_below (g := w.heap.size + 1) (a := .slice v.A v.n v.c) (b := .slice v.A' v.m v.c') (c := .int .i64 d.left) (d := .bool d.dead) HB4.out (by omega))))
      generalize putD w4 (w.heap.size + 1) (.slice v.A v.n v.c) (.slice v.A' v.m v.c') (.int .i64 d.left) (.bool d.dead) = w9 at P ⊢
      obtain ⟨t0, t1, t2, t3, tf⟩ := P.out.1.cells
      refine bodyPost_ret (v := .tuple #[.agg #[.slice v.A v.n v.c, .slice v.A' v.m v.c', .int .i64 d.left, .bool d.dead], .int .i64 0, .bool true]) (by simp [results, Try.results7, go_sem, t0, t1, t2, t3]) rfl ?_
      rw [HE.out]
      exact ⟨v.A, v.n, v.c, v.A', v.m, v.c', rfl, P.out.2.1, P.out.2.2⟩
    · have hz1 : ((v.k : Int) == 0) = false := by rw [beq_eq_false_iff_ne]; omega
      have hkn : ¬ v.k = 0 := by omega
      have HN := Lib.hid (And.intro hvk hn)
      clear hk hA hne hlay hv hvk hn hpl hle h0 h1 h2
      go_wp2_with fail
      obtain ⟨h0, h1, h2, hpl, hle⟩ := HC.out
      obtain ⟨hvk, hn⟩ := HN.out
      have hrow6 := heap_alloc_new w4 (.cells #[.func (.func 25) #[.pointer (some ⟨g, 0, none⟩)] #[], .func (.func 26) #[.pointer (some ⟨g, 0, none⟩)] #[], .func (.func 27) #[.pointer (some ⟨g, 0, none⟩)] #[], .func (.func 28) #[.pointer (some ⟨g, 0, none⟩)] #[], .func (.func 27) #[.pointer (some ⟨g, 0, none⟩)] #[], .func (.func 29) #[.pointer (some ⟨g, 0, none⟩)] #[], .func (.func 30) #[.pointer (some ⟨g, 0, none⟩)] #[], .func (.func 27) #[.pointer (some ⟨g, 0, none⟩)] #[], .func (.func 31) #[.pointer (some ⟨g, 0, none⟩)] #[], .func (.func 27) #[.pointer (some ⟨g, 0, none⟩)] #[]] 63)
      have K6 := Lib.hid (KV.out.step (alloc_below0 w4 (.cells #[.func (.func 25) #[.pointer (some ⟨g, 0, none⟩)] #[], .func (.func 26) #[.pointer (some ⟨g, 0, none⟩)] #[], .func (.func 27) #[.pointer (some ⟨g, 0, none⟩)] #[], .func (.func 28) #[.pointer (some ⟨g, 0, none⟩)] #[], .func (.func 27) #[.pointer (some ⟨g, 0, none⟩)] #[], .func (.func 29) #[.pointer (some ⟨g, 0, none⟩)] #[], .func (.func 30) #[.pointer (some ⟨g, 0, none⟩)] #[], .func (.func 27) #[.pointer (some ⟨g, 0, none⟩)] #[], .func (.func 31) #[.pointer (some ⟨g, 0, none⟩)] #[], .func (.func 27) #[.pointer (some ⟨g, 0, none⟩)] #[]] 63)))
      have G6 := Lib.hid (grown_trans HGR.out (World.grownBy_alloc w4 (.cells #[.func (.func 25) #[.pointer (some ⟨g, 0, none⟩)] #[], .func (.func 26) #[.pointer (some ⟨g, 0, none⟩)] #[], .func (.func 27) #[.pointer (some ⟨g, 0, none⟩)] #[], .func (.func 28) #[.pointer (some ⟨g, 0, none⟩)] #[], .func (.func 27) #[.pointer (some ⟨g, 0, none⟩)] #[], .func (.func 29) #[.pointer (some ⟨g, 0, none⟩)] #[], .func (.func 30) #[.pointer (some ⟨g, 0, none⟩)] #[], .func (.func 27) #[.pointer (some ⟨g, 0, none⟩)] #[], .func (.func 31) #[.pointer (some ⟨g, 0, none⟩)] #[], .func (.func 27) #[.pointer (some ⟨g, 0, none⟩)] #[]] 63) (some g)))
      have hS6 : w4.heap.size ≠ g := by have := KV.out.blk.lt; omega
      generalize w4.alloc (.cells #[.func (.func 25) #[.pointer (some ⟨g, 0, none⟩)] #[], .func (.func 26) #[.pointer (some ⟨g, 0, none⟩)] #[], .func (.func 27) #[.pointer (some ⟨g, 0, none⟩)] #[], .func (.func 28) #[.pointer (some ⟨g, 0, none⟩)] #[], .func (.func 27) #[.pointer (some ⟨g, 0, none⟩)] #[], .func (.func 29) #[.pointer (some ⟨g, 0, none⟩)] #[], .func (.func 30) #[.pointer (some ⟨g, 0, none⟩)] #[], .func (.func 27) #[.pointer (some ⟨g, 0, none⟩)] #[], .func (.func 31) #[.pointer (some ⟨g, 0, none⟩)] #[], .func (.func 27) #[.pointer (some ⟨g, 0, none⟩)] #[]] 63) = W6 at hrow6 K6 G6 ⊢
      have hple : pl.length ≤ h := by rw [hpl]; exact changedL_le (by simp [homeL]) (by have := h1.2; omega)
      have hplt : ∀ k, k < pl.length → pl.getD k 0 < h := fun k hk2 => getD_lt (by rw [hpl]; exact changedL_lt (by simp [homeL]) (by have := h1.2; omega)) hk2
      have hbl : ∀ b ∈ pl.map (blk img), b.size = 128 := fun b hb => by
        obtain ⟨k, hk2, rfl⟩ := List.mem_map.1 hb
        have hkh : k < img.length := by
          have h3 : k < h := by rw [hpl] at hk2; exact changedL_lt (by simp [homeL]) (by have := h1.2; omega) k hk2
          have := h1.2; omega
        exact h1.1 _ (List.mem_of_getElem? (blk_get hkh))
      have hst := commit_steps h (1 + listsN h + gg) sq g W6 d img (pl.map (blk img)) pl HF.out.1 HF.out.2.1 hh2 (by omega) (fun k hk2 => by have := hplt k hk2; omega) ⟨by omega, by omega⟩ (by simp) hbl HF.out.2.2
      refine (run_any (some ⟨w4.heap.size, 0, none⟩) 10 10 (fsCommit g) rfl (by omega) (fun k W => Dn (stepK h (1 + listsN h + gg) sq pl (pl.map (blk img))) g W6 d img (pl.map (blk img)) pl 1 ((1 + listsN h : Nat) : Int) ((1 + listsN h + gg : Nat) : Int) sq (decide (6 ≤ k)) k W) (fun x W => ∃ k, k < 10 ∧ Fl (stepK h (1 + listsN h + gg) sq pl (pl.map (blk img))) g W6 d img (pl.map (blk img)) pl (decide (6 ≤ k)) k x W)
        (fun k W hA => mem_fs hrow6 hA.gr hS6) (eg_commit g) (fun k W p hD hp => (hst k W p hD hp).mono fun e W' hh => by
          obtain ⟨x, he, hcase⟩ := hh
          refine ⟨x, he, ?_⟩
          rcases hcase with hc | ⟨hx, hF⟩
          · exact .inl hc
          · exact .inr ⟨hx, k, by have := (List.getElem?_eq_some_iff.1 hp).1; simpa [fsCommit] using this, hF⟩) W6 ⟨⟨v, HVP.out.1, HVP.out.2.1, HVP.out.2.2.1, HVP.out.2.2.2.1, HVP.out.2.2.2.2, K6.out⟩, rfl, World.grownBy.refl _ _⟩).mono ?_
      rintro e w6 ⟨x7, rfl, hcase⟩
      have hex : ∃ (v7 : WV) (D7 : D) (dn : Bool), v7.dn = dn ∧ Wk w6 g v7 D7 img pl (pl.map (blk img)) ∧ W6.grownBy w6 (some g) ∧ r = (D7, x7, dn) := by
        rw [HR.out, commitD_late h0 h1 h2 hpl hle hn]
        rcases hcase with ⟨rfl, ⟨v7, _, _, _, _, e4, hk7⟩, hok, hgr⟩ | ⟨hx, k, hk10, ⟨v7, e4, hk7⟩, hokk, hbad, hgr⟩
        · refine ⟨v7, _, true, e4, hk7, hgr, ?_⟩
          rw [if_neg (by rw [late_done hok]; decide), hok]
        · by_cases h4 : k ≤ 4
          · have e5 := pre_err (stepK h (1 + listsN h + gg) sq pl (pl.map (blk img))) (show k + 1 ≤ 5 by omega) (d, 0) (by rw [hbad]; exact hx)
            refine ⟨v7, _, false, by rw [e4]; exact decide_eq_false (by omega), hk7, hgr, ?_⟩
            rw [e5, hbad, if_pos hx]
          · have h5 : (runD (d, 0) (preK (stepK h (1 + listsN h + gg) sq pl (pl.map (blk img))) 5)).2 = 0 := by
              by_cases hz : (runD (d, 0) (preK (stepK h (1 + listsN h + gg) sq pl (pl.map (blk img))) 5)).2 = 0
              · exact hz
              · have := pre_err (stepK h (1 + listsN h + gg) sq pl (pl.map (blk img))) (show 5 ≤ k by omega) (d, 0) hz
                rw [this] at hokk
                exact hokk
            by_cases hk5 : k = 5
            · subst hk5
              have e6 : preK (stepK h (1 + listsN h + gg) sq pl (pl.map (blk img))) (5 + 1) = preK (stepK h (1 + listsN h + gg) sq pl (pl.map (blk img))) 5 := by
                show preK _ 5 ++ [] = _
                rw [List.append_nil]
              rw [e6, h5] at hbad
              exact absurd hbad.symm hx
            · have e5 := pre_err (stepK h (1 + listsN h + gg) sq pl (pl.map (blk img))) (show k + 1 ≤ 10 by omega) (d, 0) (by rw [hbad]; exact hx)
              refine ⟨v7, _, true, by rw [e4]; exact decide_eq_true (by omega), hk7, hgr, ?_⟩
              rw [if_neg (by rw [h5]; decide), e5, hbad]
      obtain ⟨v7, D7, dn, hdn, hk7, hgr7, hres⟩ := hex
      have KV7 := Lib.hid hk7
      have HE := Lib.hid hres
      have R4 := Lib.hid (R4of _ (grown_trans G6.out hgr7))
      have HB4 := Lib.hid (HB4of _ (grown_trans G6.out hgr7))
      obtain ⟨z0, z1, z2, z3⟩ := hk7.blk.d
      rw [hk7.hl] at z2
      rw [hk7.hz] at z3
      have z12 := hk7.blk.dn
      rw [hdn] at z12
      obtain ⟨y0, y1, y2, y3, yf⟩ := R4.out.cells
      clear hcase hres hk7 hgr7 hdn hst hbl hplt hple hrow6 h0 h1 h2 hpl hle hvk hn hrow R4of HB4of hz1 hkn z10
      go_wp2_with fail
      refine wp_region_till (fun w' => w'.cell? ⟨g, 4, none⟩ = some (.slice v7.A v7.n v7.c) ∧ w'.cell? ⟨g, 5, none⟩ = some (.slice v7.A' v7.m v7.c') ∧ w'.cell? ⟨g, 6, none⟩ = some (.int .i64 D7.left) ∧ w'.cell? ⟨g, 7, none⟩ = some (.bool D7.dead) ∧ w'.cell? ⟨g, 12, none⟩ = some (.bool dn)) 11 12 hmx (by kernel_rfl) ?_
      have HS : (w6.drew).cell? ⟨g, 4, none⟩ = some (.slice v7.A v7.n v7.c) ∧ (w6.drew).cell? ⟨g, 5, none⟩ = some (.slice v7.A' v7.m v7.c') ∧ (w6.drew).cell? ⟨g, 6, none⟩ = some (.int .i64 D7.left) ∧ (w6.drew).cell? ⟨g, 7, none⟩ = some (.bool D7.dead) ∧ (w6.drew).cell? ⟨g, 12, none⟩ = some (.bool dn) := ⟨z0, z1, z2, z3, z12⟩
      refine till_take (i := 0) _ (.pointer (some ⟨g, 0, none⟩)) [0] rfl (by kernel_rfl) (by kernel_rfl) (by kernel_rfl) (by kernel_rfl) (fun _ _ _ h => h) (.inl ⟨by rfl, fun w' hS => ?_⟩) HS ?_
      · obtain ⟨x0, x1, x2, x3, x4⟩ := hS; go_simp
      try simp only [Act.put, List.setIfInBounds_toArray]
      refine till_take (i := 1) _ (.pointer (some ⟨g, 0, none⟩)) [1] rfl (by kernel_rfl) (by kernel_rfl) (by kernel_rfl) (by kernel_rfl) (fun _ _ _ h => h) (.inl ⟨by rfl, fun w' hS => ?_⟩) HS ?_
      · obtain ⟨x0, x1, x2, x3, x4⟩ := hS; go_simp
      try simp only [Act.put]
      refine till_take (i := 2) _ (.pointer (some ⟨g, 4, none⟩)) [2] rfl (by kernel_rfl) (by kernel_rfl) (by kernel_rfl) (by kernel_rfl) (fun _ _ _ h => h) (.inl ⟨by rfl, fun w' hS => ?_⟩) HS ?_
      · obtain ⟨x0, x1, x2, x3, x4⟩ := hS; go_simp
      try simp only [Act.put]
      refine till_take (i := 3) _ (.agg #[.slice v7.A v7.n v7.c, .slice v7.A' v7.m v7.c', .int .i64 D7.left, .bool D7.dead]) [3] rfl (by kernel_rfl) (by kernel_rfl) (by kernel_rfl) (by kernel_rfl) (fun _ _ _ h => h) (.inl ⟨by rfl, fun w' hS => ?_⟩) HS ?_
      · obtain ⟨x0, x1, x2, x3, x4⟩ := hS; go_simp
      try simp only [Act.put]
      refine till_take (i := 4) _ (.int .i64 x7) [4] rfl (by kernel_rfl) (by kernel_rfl) (by kernel_rfl) (by kernel_rfl) (fun _ _ _ h => h) (.inl ⟨by rfl, fun w' hS => ?_⟩) HS ?_
      · obtain ⟨x0, x1, x2, x3, x4⟩ := hS; go_simp
      try simp only [Act.put]
      refine till_take (i := 5) _ (.pointer (some ⟨g, 0, none⟩)) [5] rfl (by kernel_rfl) (by kernel_rfl) (by kernel_rfl) (by kernel_rfl) (fun _ _ _ h => h) (.inl ⟨by rfl, fun w' hS => ?_⟩) HS ?_
      · obtain ⟨x0, x1, x2, x3, x4⟩ := hS; go_simp
      try simp only [Act.put]
      refine till_take (i := 6) _ (.pointer (some ⟨g, 0, none⟩)) [6] rfl (by kernel_rfl) (by kernel_rfl) (by kernel_rfl) (by kernel_rfl) (fun _ _ _ h => h) (.inl ⟨by rfl, fun w' hS => ?_⟩) HS ?_
      · obtain ⟨x0, x1, x2, x3, x4⟩ := hS; go_simp
      try simp only [Act.put]
      refine till_take (i := 7) _ (.pointer (some ⟨g, 12, none⟩)) [7] rfl (by kernel_rfl) (by kernel_rfl) (by kernel_rfl) (by kernel_rfl) (fun _ _ _ h => h) (.inl ⟨by rfl, fun w' hS => ?_⟩) HS ?_
      · obtain ⟨x0, x1, x2, x3, x4⟩ := hS; go_simp
      try simp only [Act.put]
      refine till_take (i := 8) _ (.bool dn) [8] rfl (by kernel_rfl) (by kernel_rfl) (by kernel_rfl) (by kernel_rfl) (fun _ _ _ h => h) (.inl ⟨by rfl, fun w' hS => ?_⟩) HS ?_
      · obtain ⟨x0, x1, x2, x3, x4⟩ := hS; go_simp
      try simp only [Act.put]
      clear z0 z1 z2 z3 z12
      refine till_one (i := 9) _ (by kernel_rfl) rfl rfl (fun K0 hK => ?_)
      go_simp
      change K0 _ (putD w6 (w.heap.size + 1) (.slice v7.A v7.n v7.c) (.slice v7.A' v7.m v7.c') (.int .i64 D7.left) (.bool D7.dead)).drew
      have HS9 : (putD w6 (w.heap.size + 1) (.slice v7.A v7.n v7.c) (.slice v7.A' v7.m v7.c') (.int .i64 D7.left) (.bool D7.dead)).cell? ⟨g, 4, none⟩ = some (.slice v7.A v7.n v7.c) ∧ (putD w6 (w.heap.size + 1) (.slice v7.A v7.n v7.c) (.slice v7.A' v7.m v7.c') (.int .i64 D7.left) (.bool D7.dead)).cell? ⟨g, 5, none⟩ = some (.slice v7.A' v7.m v7.c') ∧ (putD w6 (w.heap.size + 1) (.slice v7.A v7.n v7.c) (.slice v7.A' v7.m v7.c') (.int .i64 D7.left) (.bool D7.dead)).cell? ⟨g, 6, none⟩ = some (.int .i64 D7.left) ∧ (putD w6 (w.heap.size + 1) (.slice v7.A v7.n v7.c) (.slice v7.A' v7.m v7.c') (.int .i64 D7.left) (.bool D7.dead)).cell? ⟨g, 7, none⟩ = some (.bool D7.dead) ∧ (putD w6 (w.heap.size + 1) (.slice v7.A v7.n v7.c) (.slice v7.A' v7.m v7.c') (.int .i64 D7.left) (.bool D7.dead)).cell? ⟨g, 12, none⟩ = some (.bool dn) := by
        have hk9 : ∀ o, (putD w6 (w.heap.size + 1) (.slice v7.A v7.n v7.c) (.slice v7.A' v7.m v7.c') (.int .i64 D7.left) (.bool D7.dead)).cell? ⟨g, o, none⟩ = w6.cell? ⟨g, o, none⟩ := fun o => by
          unfold putD
          have e9 : ∀ o', (⟨w.heap.size + 1, o', none⟩ : Addr) ≠ ⟨g, o, none⟩ := fun o' h => hne1 (congrArg Addr.block h).symm
          rw [World.cell?_setCell_other (h := e9 3), World.cell?_setCell_other (h := e9 2), World.cell?_setCell_other (h := e9 1), World.cell?_setCell_other (h := e9 0)]
        exact ⟨(hk9 4).trans HS.1, (hk9 5).trans HS.2.1, (hk9 6).trans HS.2.2.1, (hk9 7).trans HS.2.2.2.1, (hk9 12).trans HS.2.2.2.2⟩
      have P := Lib.hid (And.intro (putD_b4 (A := v7.A) (n := v7.n) (c := v7.c) (A' := v7.A') (m := v7.m) (c' := v7.c') (l2 := D7.left) (z2 := D7.dead) R4.out) (And.intro (putD_dv (A := v7.A) (n := v7.n) (c := v7.c) (A' := v7.A') (m := v7.m) (c' := v7.c') (l2 := D7.left) (z2 := D7.dead) R4.out KV7.out.dv) (putD_below (g := w.heap.size + 1) (a := .slice v7.A v7.n v7.c) (b := .slice v7.A' v7.m v7.c') (c := .int .i64 D7.left) (d := .bool D7.dead) HB4.out (by omega))))
      generalize (putD w6 (w.heap.size + 1) (.slice v7.A v7.n v7.c) (.slice v7.A' v7.m v7.c') (.int .i64 D7.left) (.bool D7.dead)) = w9 at P HS9 ⊢
      refine hK.out _ _ (fun _ _ => HS9) ?_
      try simp only [Act.put, List.setIfInBounds_toArray, List.set_cons_zero, List.set_cons_succ]
      clear hK K0 HS y0 y1 y2 y3 yf
      refine till_one (i := 10) _ (by kernel_rfl) rfl rfl (fun K0 hK => ?_)
      go_simp
      refine hK.out _ _ (fun _ _ => HS9) ?_
      try simp only [Act.put, List.setIfInBounds_toArray, List.set_cons_zero, List.set_cons_succ]
      clear hK K0
      refine till_one (i := 11) _ (by kernel_rfl) rfl rfl (fun K0 hK => ?_)
      go_simp
      refine hK.out _ _ (fun h => absurd rfl h) ?_
      try simp only [Act.put, List.setIfInBounds_toArray, List.set_cons_zero, List.set_cons_succ]
      clear hK K0
      refine till_done (by kernel_rfl) ?_
      go_wp2
      obtain ⟨t0, t1, t2, t3, tf⟩ := P.out.1.cells
      refine bodyPost_ret (v := .tuple #[.agg #[.slice v7.A v7.n v7.c, .slice v7.A' v7.m v7.c', .int .i64 D7.left, .bool D7.dead], .int .i64 x7, .bool dn]) (by simp [results, Try.results7, go_sem, t0, t1, t2, t3]) rfl ?_
      rw [HE.out]
      exact ⟨v7.A, v7.n, v7.c, v7.A', v7.m, v7.c', rfl, ⟨P.out.2.1.bs, P.out.2.1.cs, P.out.2.1.hn, P.out.2.1.hm⟩, P.out.2.2.drew⟩
  · obtain ⟨v, pl, bl, hk⟩ := hBad.ex
    have KV := Lib.hid hk
    have R4 := Lib.hid (R4of _ hBad.gr)
    have HB4 := Lib.hid (HB4of _ hBad.gr)
    have HC := Lib.hid hBad.is
    have hx1 : (x0 != 0) = true := by simpa using hx0
    have hx2 : (x0 == 0) = false := by simpa using hx0
    obtain ⟨z0, z1, z2, z3⟩ := hk.blk.d
    rw [hk.hl] at z2
    rw [hk.hz] at z3
    obtain ⟨y0, y1, y2, y3, yf⟩ := R4.out.cells
    have hne : g ≠ w.heap.size + 1 := by omega
    clear hk hBad R4of HB4of hx0
    go_wp2
    change bodyPost _ _ _ _ _ (putD w4 (w.heap.size + 1) (.slice v.A v.n v.c) (.slice v.A' v.m v.c') (.int .i64 d.left) (.bool d.dead))
    have P := Lib.hid (And.intro (putD_b4 (A := v.A) (n := v.n) (c := v.c) (A' := v.A') (m := v.m) (c' := v.c') (l2 := d.left) (z2 := d.dead) R4.out) (And.intro (putD_dv (A := v.A) (n := v.n) (c := v.c) (A' := v.A') (m := v.m) (c' := v.c') (l2 := d.left) (z2 := d.dead) R4.out KV.out.dv) (putD_below (g := w.heap.size + 1) (a := .slice v.A v.n v.c) (b := .slice v.A' v.m v.c') (c := .int .i64 d.left) (d := .bool d.dead) HB4.out (by omega))))
    generalize putD w4 (w.heap.size + 1) (.slice v.A v.n v.c) (.slice v.A' v.m v.c') (.int .i64 d.left) (.bool d.dead) = w9 at P ⊢
    obtain ⟨t0, t1, t2, t3, tf⟩ := P.out.1.cells
    refine bodyPost_ret (v := .tuple #[.agg #[.slice v.A v.n v.c, .slice v.A' v.m v.c', .int .i64 d.left, .bool d.dead], .int .i64 x0, .bool false]) (by simp [results, Try.results7, go_sem, t0, t1, t2, t3]) rfl ?_
    rw [HR.out, HC.out]
    exact ⟨v.A, v.n, v.c, v.A', v.m, v.c', rfl, P.out.2.1, P.out.2.2⟩

end Go.Proofs.Ytlpijikhbjkmfaa
