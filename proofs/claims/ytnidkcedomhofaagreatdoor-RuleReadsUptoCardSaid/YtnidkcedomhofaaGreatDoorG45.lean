/-
  The document's own answers of layer 14: a part's value read into a rule: FREQ, UNTIL and WKST.
-/
import Derived.Test.YtnidkcedomhofaaGreatDoorG44
import Derived.Test.YtnidkcedomhofaaGreatDoorG40
namespace Go.Proofs.YtnidkcedomhofaaGreatDoor
open Go.RowKit

set_option maxRecDepth 100000 in
set_option maxHeartbeats 8000000 in
theorem one0_any (r : RuV) (v1 v2 v3 v4 v5 : Value) (sn : List (List UInt8)) (s : ByteArray) (hs : s.size ≤ 1048576) (n : Nat) (w : World) (h : Rw w n r sn v1 v2 v3 v4 v5) (hn : n ≤ w.heap.size) (hl : lenR r ≤ 50000000) :
    Calls Tryz.prog 26 #[ruV r v1 v2 v3 v4, .string ⟨#[70, 82, 69, 81]⟩, .string s] w (OneA n 0 r sn v5 s.data.toList w) := by
  have H0 := Lib.hid (KO.begin h hn)
  obtain ⟨a1, e1, a2, e2, a3, e3, a4, e4, rfl, rfl, rfl, rfl⟩ := h.lits
  have HL := Lib.hid hl
  clear h hn hl
  have cs := refSplit_any 44 s hs
  rw [show (((44 : UInt8).toNat : Nat) : Int) = 44 from rfl] at cs
  have cb : ∀ W, Calls Tryz.prog 55 #[.string ⟨#[70, 82, 69, 81]⟩, .string ⟨#[66, 89]⟩] W fun e w' => e = .returned (.bool false) ∧ w' = W := fun W => refStarts_k (k := 0) (by decide) W
  go_enter Tryz.func26, Tryz.ntmps26
  go_upto_region 1 with fail
  change Code.wp _ _ _ _ (OW w r (.slice a1 r.mon.length e1) (.slice a2 r.md.length e2) (.slice a3 r.dys.length e3) (.slice a4 r.pos.length e4))
  generalize OW w r (.slice a1 r.mon.length e1) (.slice a2 r.md.length e2) (.slice a3 r.dys.length e3) (.slice a4 r.pos.length e4) = w1 at H0 ⊢
  generalize ruV r (.slice a1 r.mon.length e1) (.slice a2 r.md.length e2) (.slice a3 r.dys.length e3) (.slice a4 r.pos.length e4) = VA
  have cp := fun v W h => refPlace_any v freqB s W h (by decide)
  have EQ := Lib.hid (oneL_0 r s.data.toList)
  have HF : Hid (freqL s.data.toList = max 0 (placeN freqB s.data.toList 0)) := Lib.hid rfl
  generalize placeN freqB s.data.toList 0 = pf at cp HF
  by_cases hp : pf < 1
  · have HE : Hid (oneL 0 r s.data.toList = .error 21) := Lib.hid (by rw [EQ.out, if_pos (by rw [HF.out]; omega)])
    go_wp2_with (first
      | (go_at_call 16; refine (cs _).mono ?_; rintro e w2 ⟨l, rfl, ho, hb2⟩; clear cs
         obtain ⟨al, cl, rfl⟩ := (Sl.of_own ho).lit
         have H2 := Lib.hid (H0.out.step hb2)
         have HO := Lib.hid ho
         clear hb2 ho H0
         obtain ⟨x0, x1, x2, x3, x4, x5, x6, x7, x8, x9, x10, x11⟩ := H2.out.var.cells
         have xf := H2.out.var.frozen)
      | (go_at_call 55; refine (cb _).mono ?_; rintro e w' ⟨rfl, hw⟩; subst w'; clear cb)
      | (go_at_call 25; refine (refFreqs_any _).mono ?_; rintro e w3 ⟨vf, rfl, hsf, hb3⟩
         have H3 := Lib.hid (H2.out.step hb3)
         have HSF := Lib.hid hsf
         clear hsf hb3 H2)
      | (go_at_call 23; refine (cp vf _ HSF.out).mono ?_; rintro e w4 ⟨rfl, hb4⟩; clear cp x0 x1 x2 x3 x4 x5 x6 x7 x8 x9 x10 x11 xf
         have H4 := Lib.hid (H3.out.step hb4)
         clear hb4 H3
         obtain ⟨x0, x1, x2, x3, x4, x5, x6, x7, x8, x9, x10, x11⟩ := H4.out.var.cells
         have xf := H4.out.var.frozen
         obtain ⟨z0, z1, z2, z3, z4, z5, z6, z7, z8, z9, z10, z11⟩ := H4.out.res.cells
         simp only [RuV.zero, Wh.zero, nilV] at z0 z1 z2 z3 z4 z5 z6 z7 z8 z9 z10 z11
         have zf := H4.out.res.frozen))
    obtain ⟨p1, p2, p3, p4⟩ := one_post H4.out
    exact bodyPost_ret (results_cell2 rfl _ rfl rfl (load_ru p1)) rfl ⟨r, _, _, _, _, 21, rfl, p2, p3, p4, by omega, .inr ⟨by decide, HE.out⟩⟩
  · have HE : Hid (oneL 0 r s.data.toList = .ok { r with freq := pf }) := Lib.hid (by
      have e : freqL s.data.toList = pf := by rw [HF.out]; omega
      rw [EQ.out, if_neg (by rw [e]; omega), e])
    go_upto_region 48 with (first
      | (go_at_call 16; refine (cs _).mono ?_; rintro e w2 ⟨l, rfl, ho, hb2⟩; clear cs
         obtain ⟨al, cl, rfl⟩ := (Sl.of_own ho).lit
         have H2 := Lib.hid (H0.out.step hb2)
         have HO := Lib.hid ho
         clear hb2 ho H0
         obtain ⟨x0, x1, x2, x3, x4, x5, x6, x7, x8, x9, x10, x11⟩ := H2.out.var.cells
         have xf := H2.out.var.frozen)
      | (go_at_call 55; refine (cb _).mono ?_; rintro e w' ⟨rfl, hw⟩; subst w'; clear cb)
      | (go_at_call 25; refine (refFreqs_any _).mono ?_; rintro e w3 ⟨vf, rfl, hsf, hb3⟩
         have H3 := Lib.hid (H2.out.step hb3)
         have HSF := Lib.hid hsf
         clear hsf hb3 H2)
      | (go_at_call 23; refine (cp vf _ HSF.out).mono ?_; rintro e w4 ⟨rfl, hb4⟩; clear cp x0 x1 x2 x3 x4 x5 x6 x7 x8 x9 x10 x11 xf
         have H4 := Lib.hid (H3.out.step hb4)
         clear hb4 H3
         obtain ⟨x0, x1, x2, x3, x4, x5, x6, x7, x8, x9, x10, x11⟩ := H4.out.var.cells
         have xf := H4.out.var.frozen
         obtain ⟨z0, z1, z2, z3, z4, z5, z6, z7, z8, z9, z10, z11⟩ := H4.out.res.cells
         simp only [RuV.zero, Wh.zero, nilV] at z0 z1 z2 z3 z4 z5 z6 z7 z8 z9 z10 z11
         have zf := H4.out.res.frozen))
    obtain ⟨q, hq⟩ : ∃ q : RuV, q = { r with freq := pf } := ⟨_, rfl⟩
    have H5 := Lib.hid (H4.out.setv (j := 0) (u := .int .i64 pf) q (by rw [hq]; rfl) (by decide) (by rw [hq]) (by rw [hq]) (by rw [hq]) (by rw [hq]))
    have HL2 : Hid (lenR q ≤ lenR r + 24) := Lib.hid (by rw [hq]; unfold lenR; simp only; omega)
    rw [← hq] at HE
    clear H4 x0 x1 x2 x3 x4 x5 x6 x7 x8 x9 x10 x11 z0 z1 z2 z3 z4 z5 z6 z7 z8 z9 z10 z11 xf zf hq
    generalize w4.setCell ⟨w.heap.size, 0, none⟩ (.int .i64 pf) = w5 at H5 ⊢
    obtain ⟨x0, x1, x2, x3, x4, x5, x6, x7, x8, x9, x10, x11⟩ := H5.out.var.cells
    have xf := H5.out.var.frozen
    obtain ⟨z0, z1, z2, z3, z4, z5, z6, z7, z8, z9, z10, z11⟩ := H5.out.res.cells
    simp only [RuV.zero, Wh.zero, nilV] at z0 z1 z2 z3 z4 z5 z6 z7 z8 z9 z10 z11
    have zf := H5.out.res.frozen
    go_wp2
    obtain ⟨p1, p2, p3, p4⟩ := one_post H5.out
    exact bodyPost_ret (results_cell2 rfl _ rfl rfl (load_ru p1)) rfl ⟨q, _, _, _, _, 0, rfl, p2, p3, p4, HL2.out, .inl ⟨rfl, HE.out⟩⟩
set_option maxRecDepth 100000 in
set_option maxHeartbeats 8000000 in
theorem one3_any (r : RuV) (v1 v2 v3 v4 v5 : Value) (sn : List (List UInt8)) (s : ByteArray) (hs : s.size ≤ 1048576) (n : Nat) (w : World) (h : Rw w n r sn v1 v2 v3 v4 v5) (hn : n ≤ w.heap.size) (hl : lenR r ≤ 50000000) :
    Calls Tryz.prog 26 #[ruV r v1 v2 v3 v4, .string ⟨#[85, 78, 84, 73, 76]⟩, .string s] w (OneA n 3 r sn v5 s.data.toList w) := by
  have H0 := Lib.hid (KO.begin h hn)
  obtain ⟨a1, e1, a2, e2, a3, e3, a4, e4, rfl, rfl, rfl, rfl⟩ := h.lits
  have HL := Lib.hid hl
  clear h hn hl
  have cs := refSplit_any 44 s hs
  rw [show (((44 : UInt8).toNat : Nat) : Int) = 44 from rfl] at cs
  have cb : ∀ W, Calls Tryz.prog 55 #[.string ⟨#[85, 78, 84, 73, 76]⟩, .string ⟨#[66, 89]⟩] W fun e w' => e = .returned (.bool false) ∧ w' = W := fun W => refStarts_k (k := 3) (by decide) W
  go_enter Tryz.func26, Tryz.ntmps26
  go_upto_region 1 with fail
  change Code.wp _ _ _ _ (OW w r (.slice a1 r.mon.length e1) (.slice a2 r.md.length e2) (.slice a3 r.dys.length e3) (.slice a4 r.pos.length e4))
  generalize OW w r (.slice a1 r.mon.length e1) (.slice a2 r.md.length e2) (.slice a3 r.dys.length e3) (.slice a4 r.pos.length e4) = w1 at H0 ⊢
  generalize ruV r (.slice a1 r.mon.length e1) (.slice a2 r.md.length e2) (.slice a3 r.dys.length e3) (.slice a4 r.pos.length e4) = VA
  have ct := fun W => refTime13_any s W
  have EQ := Lib.hid (oneL_3 r s.data.toList)
  generalize (timV s.data.toList).1 = T at ct EQ
  generalize (timV s.data.toList).2 = N at ct EQ
  obtain ⟨us, uu, ud⟩ := T
  unfold whV at ct
  simp only at ct
  by_cases hp : N = 0
  · have HE : Hid (oneL 3 r s.data.toList = .ok { r with unt := ⟨us, uu, ud⟩, has := true }) := Lib.hid (by rw [EQ.out, if_pos hp])
    subst hp
    go_upto_region 43 with (first
      | (go_at_call 16; refine (cs _).mono ?_; rintro e w2 ⟨l, rfl, ho, hb2⟩; clear cs
         obtain ⟨al, cl, rfl⟩ := (Sl.of_own ho).lit
         have H2 := Lib.hid (H0.out.step hb2)
         have HO := Lib.hid ho
         clear hb2 ho H0
         obtain ⟨x0, x1, x2, x3, x4, x5, x6, x7, x8, x9, x10, x11⟩ := H2.out.var.cells
         have xf := H2.out.var.frozen)
      | (go_at_call 55; refine (cb _).mono ?_; rintro e w' ⟨rfl, hw⟩; subst w'; clear cb)
      | (go_at_call 57; refine (ct _).mono ?_; rintro e w3 ⟨rfl, hb3⟩; clear ct x0 x1 x2 x3 x4 x5 x6 x7 x8 x9 x10 x11 xf
         have hal := (Below.refl w3.heap.size w3).alloc (Nat.le_refl _) (.cells #[.int .i64 us, .bool uu, .bool ud] 23)
         have H3 := Lib.hid ((H2.out.step hb3).step hal)
         have N3 := Go.Proofs.YtnidkcedomhofaaGreatDoor.H3.new w3 ⟨us, uu, ud⟩
         obtain ⟨y0, y1, y2⟩ := N3.cells
         clear hal hb3 H2 N3
         obtain ⟨x0, x1, x2, x3, x4, x5, x6, x7, x8, x9, x10, x11⟩ := H3.out.var.cells
         have xf := H3.out.var.frozen
         obtain ⟨z0, z1, z2, z3, z4, z5, z6, z7, z8, z9, z10, z11⟩ := H3.out.res.cells
         simp only [RuV.zero, Wh.zero, nilV] at z0 z1 z2 z3 z4 z5 z6 z7 z8 z9 z10 z11
         have zf := H3.out.res.frozen))
    obtain ⟨q, hq⟩ : ∃ q : RuV, q = { r with unt := ⟨us, uu, ud⟩ } := ⟨_, rfl⟩
    have H5 := Lib.hid (((H3.out.setv (j := 4) (u := .int .i64 us) { r with unt := ⟨us, r.unt.utc, r.unt.date⟩ } rfl (by decide) rfl rfl rfl rfl).setv (j := 5) (u := .bool uu) { r with unt := ⟨us, uu, r.unt.date⟩ } rfl (by decide) rfl rfl rfl rfl).setv (j := 6) (u := .bool ud) q (by rw [hq]; rfl) (by decide) (by rw [hq]) (by rw [hq]) (by rw [hq]) (by rw [hq]))
    have HQ := Lib.hid hq
    clear H3 x0 x1 x2 x3 x4 x5 x6 x7 x8 x9 x10 x11 z0 z1 z2 z3 z4 z5 z6 z7 z8 z9 z10 z11 xf zf hq y0 y1 y2
    generalize (((w3.alloc (.cells #[.int .i64 us, .bool uu, .bool ud] 23)).setCell ⟨w.heap.size, 4, none⟩ (.int .i64 us)).setCell ⟨w.heap.size, 5, none⟩ (.bool uu)).setCell ⟨w.heap.size, 6, none⟩ (.bool ud) = w5 at H5 ⊢
    obtain ⟨x0, x1, x2, x3, x4, x5, x6, x7, x8, x9, x10, x11⟩ := H5.out.var.cells
    have xf := H5.out.var.frozen
    go_upto_region 48 with fail
    obtain ⟨q2, hq2⟩ : ∃ q2 : RuV, q2 = { r with unt := ⟨us, uu, ud⟩, has := true } := ⟨_, rfl⟩
    have H6 := Lib.hid (H5.out.setv (j := 3) (u := .bool true) q2 (by rw [hq2, HQ.out]; rfl) (by decide) (by rw [hq2, HQ.out]) (by rw [hq2, HQ.out]) (by rw [hq2, HQ.out]) (by rw [hq2, HQ.out]))
    have HL2 : Hid (lenR q2 ≤ lenR r + 24) := Lib.hid (by rw [hq2]; unfold lenR; simp only; omega)
    rw [← hq2] at HE
    clear H5 x0 x1 x2 x3 x4 x5 x6 x7 x8 x9 x10 x11 xf hq2
    generalize w5.setCell ⟨w.heap.size, 3, none⟩ (.bool true) = w6 at H6 ⊢
    obtain ⟨x0, x1, x2, x3, x4, x5, x6, x7, x8, x9, x10, x11⟩ := H6.out.var.cells
    have xf := H6.out.var.frozen
    obtain ⟨z0, z1, z2, z3, z4, z5, z6, z7, z8, z9, z10, z11⟩ := H6.out.res.cells
    simp only [RuV.zero, Wh.zero, nilV] at z0 z1 z2 z3 z4 z5 z6 z7 z8 z9 z10 z11
    have zf := H6.out.res.frozen
    go_wp2
    obtain ⟨p1, p2, p3, p4⟩ := one_post H6.out
    exact bodyPost_ret (results_cell2 rfl _ rfl rfl (load_ru p1)) rfl ⟨q2, _, _, _, _, 0, rfl, p2, p3, p4, HL2.out, .inl ⟨rfl, HE.out⟩⟩
  · have HE : Hid (oneL 3 r s.data.toList = .error 10) := Lib.hid (by rw [EQ.out, if_neg hp])
    have hpb : (N != 0) = true := by rw [bne_iff_ne]; exact hp
    clear hp
    go_wp2_with (first
      | (go_at_call 16; refine (cs _).mono ?_; rintro e w2 ⟨l, rfl, ho, hb2⟩; clear cs
         obtain ⟨al, cl, rfl⟩ := (Sl.of_own ho).lit
         have H2 := Lib.hid (H0.out.step hb2)
         have HO := Lib.hid ho
         clear hb2 ho H0
         obtain ⟨x0, x1, x2, x3, x4, x5, x6, x7, x8, x9, x10, x11⟩ := H2.out.var.cells
         have xf := H2.out.var.frozen)
      | (go_at_call 55; refine (cb _).mono ?_; rintro e w' ⟨rfl, hw⟩; subst w'; clear cb)
      | (go_at_call 57; refine (ct _).mono ?_; rintro e w3 ⟨rfl, hb3⟩; clear ct x0 x1 x2 x3 x4 x5 x6 x7 x8 x9 x10 x11 xf
         have hal := (Below.refl w3.heap.size w3).alloc (Nat.le_refl _) (.cells #[.int .i64 us, .bool uu, .bool ud] 23)
         have H3 := Lib.hid ((H2.out.step hb3).step hal)
         have N3 := Go.Proofs.YtnidkcedomhofaaGreatDoor.H3.new w3 ⟨us, uu, ud⟩
         obtain ⟨y0, y1, y2⟩ := N3.cells
         clear hal hb3 H2 N3
         obtain ⟨x0, x1, x2, x3, x4, x5, x6, x7, x8, x9, x10, x11⟩ := H3.out.var.cells
         have xf := H3.out.var.frozen
         obtain ⟨z0, z1, z2, z3, z4, z5, z6, z7, z8, z9, z10, z11⟩ := H3.out.res.cells
         simp only [RuV.zero, Wh.zero, nilV] at z0 z1 z2 z3 z4 z5 z6 z7 z8 z9 z10 z11
         have zf := H3.out.res.frozen))
    obtain ⟨p1, p2, p3, p4⟩ := one_post H3.out
    exact bodyPost_ret (results_cell2 rfl _ rfl rfl (load_ru p1)) rfl ⟨r, _, _, _, _, 10, rfl, p2, p3, p4, by omega, .inr ⟨by decide, HE.out⟩⟩
set_option maxRecDepth 100000 in
set_option maxHeartbeats 8000000 in
theorem one8_any (r : RuV) (v1 v2 v3 v4 v5 : Value) (sn : List (List UInt8)) (s : ByteArray) (hs : s.size ≤ 1048576) (n : Nat) (w : World) (h : Rw w n r sn v1 v2 v3 v4 v5) (hn : n ≤ w.heap.size) (hl : lenR r ≤ 50000000) :
    Calls Tryz.prog 26 #[ruV r v1 v2 v3 v4, .string ⟨#[87, 75, 83, 84]⟩, .string s] w (OneA n 8 r sn v5 s.data.toList w) := by
  have H0 := Lib.hid (KO.begin h hn)
  obtain ⟨a1, e1, a2, e2, a3, e3, a4, e4, rfl, rfl, rfl, rfl⟩ := h.lits
  have HL := Lib.hid hl
  clear h hn hl
  have cs := refSplit_any 44 s hs
  rw [show (((44 : UInt8).toNat : Nat) : Int) = 44 from rfl] at cs
  have cb : ∀ W, Calls Tryz.prog 55 #[.string ⟨#[87, 75, 83, 84]⟩, .string ⟨#[66, 89]⟩] W fun e w' => e = .returned (.bool false) ∧ w' = W := fun W => refStarts_k (k := 8) (by decide) W
  go_enter Tryz.func26, Tryz.ntmps26
  go_upto_region 1 with fail
  change Code.wp _ _ _ _ (OW w r (.slice a1 r.mon.length e1) (.slice a2 r.md.length e2) (.slice a3 r.dys.length e3) (.slice a4 r.pos.length e4))
  generalize OW w r (.slice a1 r.mon.length e1) (.slice a2 r.md.length e2) (.slice a3 r.dys.length e3) (.slice a4 r.pos.length e4) = w1 at H0 ⊢
  generalize ruV r (.slice a1 r.mon.length e1) (.slice a2 r.md.length e2) (.slice a3 r.dys.length e3) (.slice a4 r.pos.length e4) = VA
  have cp := fun v W h => refPlace_any v dayB s W h (by decide)
  have EQ := Lib.hid (oneL_8 r s.data.toList)
  rw [show dayL s.data.toList = placeN dayB s.data.toList 0 from rfl] at EQ
  generalize placeN dayB s.data.toList 0 = N at cp EQ
  go_upto_region 46 with (first
    | (go_at_call 16; refine (cs _).mono ?_; rintro e w2 ⟨l, rfl, ho, hb2⟩; clear cs
       obtain ⟨al, cl, rfl⟩ := (Sl.of_own ho).lit
       have H2 := Lib.hid (H0.out.step hb2)
       have HO := Lib.hid ho
       clear hb2 ho H0
       obtain ⟨x0, x1, x2, x3, x4, x5, x6, x7, x8, x9, x10, x11⟩ := H2.out.var.cells
       have xf := H2.out.var.frozen)
    | (go_at_call 55; refine (cb _).mono ?_; rintro e w' ⟨rfl, hw⟩; subst w'; clear cb)
    | (go_at_call 44; refine (refDays14_any _).mono ?_; rintro e w3 ⟨vf, rfl, hsf, hb3⟩
       have H3 := Lib.hid (H2.out.step hb3)
       have HSF := Lib.hid hsf
       clear hsf hb3 H2)
    | (go_at_call 23; refine (cp vf _ HSF.out).mono ?_; rintro e w4 ⟨rfl, hb4⟩; clear cp x0 x1 x2 x3 x4 x5 x6 x7 x8 x9 x10 x11 xf
       have H4 := Lib.hid (H3.out.step hb4)
       clear hb4 H3
       obtain ⟨x0, x1, x2, x3, x4, x5, x6, x7, x8, x9, x10, x11⟩ := H4.out.var.cells
       have xf := H4.out.var.frozen
       obtain ⟨z0, z1, z2, z3, z4, z5, z6, z7, z8, z9, z10, z11⟩ := H4.out.res.cells
       simp only [RuV.zero, Wh.zero, nilV] at z0 z1 z2 z3 z4 z5 z6 z7 z8 z9 z10 z11
       have zf := H4.out.res.frozen))
  obtain ⟨q, hq⟩ : ∃ q : RuV, q = { r with wk := N } := ⟨_, rfl⟩
  have H5 := Lib.hid (H4.out.setv (j := 11) (u := .int .i64 N) q (by rw [hq]; rfl) (by decide) (by rw [hq]) (by rw [hq]) (by rw [hq]) (by rw [hq]))
  have hqi : q.wk = N := by rw [hq]
  have HL2 : Hid (lenR q ≤ lenR r + 24) := Lib.hid (by rw [hq]; unfold lenR; simp only; omega)
  have HQ := Lib.hid hq
  have HX := Lib.hid hqi
  clear H4 x0 x1 x2 x3 x4 x5 x6 x7 x8 x9 x10 x11 z0 z1 z2 z3 z4 z5 z6 z7 z8 z9 z10 z11 xf zf hq hqi
  generalize w4.setCell ⟨w.heap.size, 11, none⟩ (.int .i64 N) = w5 at H5 ⊢
  obtain ⟨x0, x1, x2, x3, x4, x5, x6, x7, x8, x9, x10, x11⟩ := H5.out.var.cells
  have xf := H5.out.var.frozen
  obtain ⟨z0, z1, z2, z3, z4, z5, z6, z7, z8, z9, z10, z11⟩ := H5.out.res.cells
  simp only [RuV.zero, Wh.zero, nilV] at z0 z1 z2 z3 z4 z5 z6 z7 z8 z9 z10 z11
  have zf := H5.out.res.frozen
  by_cases h0 : q.wk < 0
  · have HE : Hid (oneL 8 r s.data.toList = .error 10) := Lib.hid (by rw [EQ.out, if_pos (by rw [← HX.out]; exact h0)])
    go_wp2
    obtain ⟨p1, p2, p3, p4⟩ := one_post H5.out
    exact bodyPost_ret (results_cell2 rfl _ rfl rfl (load_ru p1)) rfl ⟨q, _, _, _, _, 10, rfl, p2, p3, p4, HL2.out, .inr ⟨by decide, HE.out⟩⟩
  · have HE : Hid (oneL 8 r s.data.toList = .ok q) := Lib.hid (by rw [EQ.out, if_neg (by rw [← HX.out]; exact h0), HQ.out])
    go_wp2
    obtain ⟨p1, p2, p3, p4⟩ := one_post H5.out
    exact bodyPost_ret (results_cell2 rfl _ rfl rfl (load_ru p1)) rfl ⟨q, _, _, _, _, 0, rfl, p2, p3, p4, HL2.out, .inl ⟨rfl, HE.out⟩⟩
end Go.Proofs.YtnidkcedomhofaaGreatDoor
