/-
  The document's own answers of layer 14: a part's values read into a rule: a list.
-/
import Derived.Test.YtnidkcedomhofaaGreatDoorG44
import Derived.Test.YtnidkcedomhofaaGreatDoorG22
namespace Go.Proofs.YtnidkcedomhofaaGreatDoor
open Go.RowKit

set_option maxRecDepth 100000 in
set_option maxHeartbeats 8000000 in
theorem one4_any (r : RuV) (v1 v2 v3 v4 v5 : Value) (sn : List (List UInt8)) (s : ByteArray) (hs : s.size ≤ 1048576) (n : Nat) (w : World) (h : Rw w n r sn v1 v2 v3 v4 v5) (hn : n ≤ w.heap.size) (hl : lenR r ≤ 50000000) :
    Calls Tryz.prog 26 #[ruV r v1 v2 v3 v4, .string ⟨#[66, 89, 77, 79, 78, 84, 72]⟩, .string s] w (OneA n 4 r sn v5 s.data.toList w) := by
  have H0 := Lib.hid (KO.begin h hn)
  obtain ⟨a1, e1, a2, e2, a3, e3, a4, e4, rfl, rfl, rfl, rfl⟩ := h.lits
  have HL := Lib.hid hl
  clear h hn hl
  have cs := refSplit_any 44 s hs
  rw [show (((44 : UInt8).toNat : Nat) : Int) = 44 from rfl] at cs
  have cb : ∀ W, Calls Tryz.prog 55 #[.string ⟨#[66, 89, 77, 79, 78, 84, 72]⟩, .string ⟨#[66, 89]⟩] W fun e w' => e = .returned (.bool true) ∧ w' = W := fun W => refStarts_k (k := 4) (by decide) W
  go_enter Tryz.func26, Tryz.ntmps26
  go_upto_region 1 with fail
  change Code.wp _ _ _ _ (OW w r (.slice a1 r.mon.length e1) (.slice a2 r.md.length e2) (.slice a3 r.dys.length e3) (.slice a4 r.pos.length e4))
  generalize OW w r (.slice a1 r.mon.length e1) (.slice a2 r.md.length e2) (.slice a3 r.dys.length e3) (.slice a4 r.pos.length e4) = w1 at H0 ⊢
  generalize ruV r (.slice a1 r.mon.length e1) (.slice a2 r.md.length e2) (.slice a3 r.dys.length e3) (.slice a4 r.pos.length e4) = VA
  obtain ⟨P, hP⟩ : ∃ P, splitC 44 [] s.data.toList = P := ⟨_, rfl⟩
  simp only [hP] at cs
  have HP := Lib.hid hP
  have HPL : Hid (∀ p ∈ P, p.length ≤ s.size) := Lib.hid (by rw [← hP, bsize]; intro p hp; simpa using splitC_le 44 _ _ p hp)
  clear hP
  by_cases h24 : 24 < P.length
  · have h24i : (24 : Int) < (P.length : Int) := by omega
    have HE : Hid (oneL 4 r s.data.toList = .error 27) := Lib.hid (oneL_many rfl (by rw [HP.out]; exact h24))
    go_wp2_with (first
      | (go_at_call 16; refine (cs _).mono ?_; rintro e w2 ⟨l, rfl, ho, hb2⟩; clear cs
         obtain ⟨al, cl, rfl⟩ := (Sl.of_own ho).lit
         have H2 := Lib.hid (H0.out.step hb2)
         have HO := Lib.hid ho
         clear hb2 ho H0
         obtain ⟨x0, x1, x2, x3, x4, x5, x6, x7, x8, x9, x10, x11⟩ := H2.out.var.cells
         have xf := H2.out.var.frozen
         obtain ⟨z0, z1, z2, z3, z4, z5, z6, z7, z8, z9, z10, z11⟩ := H2.out.res.cells
         simp only [RuV.zero, Wh.zero, nilV] at z0 z1 z2 z3 z4 z5 z6 z7 z8 z9 z10 z11
         have zf := H2.out.res.frozen)
      | (go_at_call 55; refine (cb _).mono ?_; rintro e w' ⟨rfl, hw⟩; subst w'; clear cb))
    obtain ⟨p1, p2, p3, p4⟩ := one_post H2.out
    exact bodyPost_ret (results_cell2 rfl _ rfl rfl (load_ru p1)) rfl ⟨r, _, _, _, _, 27, rfl, p2, p3, p4, by omega, .inr ⟨by decide, HE.out⟩⟩
  · have h24i : ¬ ((24 : Int) < (P.length : Int)) := by omega
    have HEQ : Hid (oneL 4 r s.data.toList = match foldK 4 r P with | none => .error 10 | some q => .ok q) := Lib.hid (by rw [oneL_list rfl (by rw [HP.out]; exact h24), HP.out]; rfl)
    go_wp2_with (first
      | (go_at_call 16; refine (cs _).mono ?_; rintro e w2 ⟨l, rfl, ho, hb2⟩; clear cs
         obtain ⟨al, cl, rfl⟩ := (Sl.of_own ho).lit
         have H2 := Lib.hid (H0.out.step hb2)
         have HO := Lib.hid ho
         clear hb2 ho H0
         obtain ⟨x0, x1, x2, x3, x4, x5, x6, x7, x8, x9, x10, x11⟩ := H2.out.var.cells
         have xf := H2.out.var.frozen
         obtain ⟨z0, z1, z2, z3, z4, z5, z6, z7, z8, z9, z10, z11⟩ := H2.out.res.cells
         simp only [RuV.zero, Wh.zero, nilV] at z0 z1 z2 z3 z4 z5 z6 z7 z8 z9 z10 z11
         have zf := H2.out.res.frozen)
      | (go_at_call 55; refine (cb _).mono ?_; rintro e w' ⟨rfl, hw⟩; subst w'; clear cb))
    clear x0 x1 x2 x3 x4 x5 x6 x7 x8 x9 x10 x11 z0 z1 z2 z3 z4 z5 z6 z7 z8 z9 z10 z11 xf zf
    go_loopg [12] P.length (fun g s12 wr => ∃ (i : Nat), i ≤ P.length ∧ P.length - i ≤ g ∧ s12 = .int .i64 i ∧ Hid (∃ q u1 u2 u3 u4, foldK 4 r (P.take i) = some q ∧ KO n w wr q sn u1 u2 u3 u4 v5 ∧ KI w2 wr))
    case atStart => exact ⟨0, Nat.zero_le _, by omega, rfl, Lib.hid ⟨r, _, _, _, _, rfl, H2.out, KI.refl _⟩⟩
    case round =>
      clear H2
      obtain ⟨i, hi, hg, rfl, HJ⟩ := hrel
      obtain ⟨q, u1, u2, u3, u4, hf, hK, hki⟩ := HJ.out
      obtain ⟨b1, d1, b2, d2, b3, d3, b4, d4, rfl, rfl, rfl, rfl⟩ := hK.rw.lits
      have hql := foldK_len _ _ _ hf
      rw [List.length_take] at hql
      have HK := Lib.hid hK
      have HF := Lib.hid hf
      have HI := Lib.hid hki
      clear HJ hf hki hK
      by_cases hlt : i < P.length
      · have hin : (i : Int) < (P.length : Int) := by omega
        have HO2 := Lib.hid (own_ki HO.out (by decide) (by decide) (by decide) HI.out)
        obtain ⟨bp, op, rfl, gp⟩ := (Sl.of_own HO2.out).str hlt
        have hpm : P.getD i [] ∈ P := by rw [List.getD_eq_getElem?_getD, List.getElem?_eq_getElem hlt]; exact List.getElem_mem hlt
        have hpl := HPL.out _ hpm
        have hT : P.take (i + 1) = P.take i ++ [P.getD i []] := by
          rw [List.take_add_one, List.getD_eq_getElem?_getD, List.getElem?_eq_getElem hlt]; rfl
        have hS : foldK 4 r (P.take (i + 1)) = readK 4 q (P.getD i []) := by rw [hT, foldK_snoc, HF.out]; rfl
        have hfull : readK 4 q (P.getD i []) = none → foldK 4 r P = none := fun h => by
          rw [← List.take_append_drop (i + 1) P]
          exact foldK_pre 4 _ _ _ (by rw [hS, h])
        generalize P.getD i [] = p at gp hpl hS hfull
        obtain ⟨X, hX⟩ : ∃ X : ByteArray, ⟨p.toArray⟩ = X := ⟨_, rfl⟩
        have hXl : X.data.toList = p := by rw [← hX]
        have hXs : X.size ≤ 1048576 := by rw [bsize, hXl]; omega
        rw [hX] at gp
        have HS := Lib.hid hS
        have HU := Lib.hid hfull
        have hnn : n ≤ wr.heap.size := by have := HK.out.size; have := HK.out.base; omega
        have HLq : Hid (lenR q ≤ lenR r + i) := Lib.hid (by omega)
        have hlen : q.mon.length ≤ 100000000 := by have := HL.out; unfold lenR at this hql; omega
        clear hS hfull hpm hT hX hql hpl HO2
        obtain ⟨x0, x1, x2, x3, x4, x5, x6, x7, x8, x9, x10, x11⟩ := HK.out.var.cells
        have xf := HK.out.var.frozen
        obtain ⟨i0, hi0, hz0, hz1, hz2⟩ := info_parts infoIn
        have cn := fun W => refNum0_any X hXs 12 (by omega) W
        rw [hXl] at cn
        have HR : Hid (readK 4 q p = if cntL p 12 = 0 then none else some { q with mon := q.mon ++ [cntL p 12] }) := Lib.hid rfl
        generalize cntL p 12 = N at cn HR
        clear hXl
        go_upto_region 23 with (first
          | (go_at_call 56; refine (cn _).mono ?_; rintro e w' ⟨rfl, hw⟩; subst w'; clear cn)
          | (at_builtin
             refine wpList_append_own_at _ rfl _ _ 24 rfl n 3 i0 (.int .i64 0) 1 8 Tryz.underlying24 hi0 hz0 hz1 hz2 rfl (by decide) _ _ _ rfl (HK.out.rw.o1.alloc _) ⟨_, 0, none⟩ 1 1 [.int .i64 N] rfl rfl (cells_newV _ [.int .i64 N] _) (by simp [Value.oneCell']) (by unfold maxLen; omega) (by omega) (by simp; omega) ?_
             intro v' w5 hown' hgrow _ hat
             obtain ⟨g', cap', rfl⟩ := ownsRow_succ hown'
             obtain ⟨hV, hZ, hB, hKi⟩ := HK.out.grown (.inl rfl) HK.out.rw.o1 hgrow
             have HQ5 := Lib.hid (And.intro hV (And.intro hZ (And.intro hB (And.intro hKi (And.intro (HK.out.rw.app1 N hown' hgrow hat) (HI.out.trans (KI.append (.inl rfl) HK.out.rw.o1 hgrow)))))))
             clear hown' hgrow hat hZ hB hKi x0 x1 x2 x3 x4 x5 x6 x7 x8 x9 x10 x11 xf
             obtain ⟨x0, x1, x2, x3, x4, x5, x6, x7, x8, x9, x10, x11⟩ := hV.cells
             have xf := hV.frozen
             clear hV))
        obtain ⟨q2, hq2⟩ : ∃ q2 : RuV, q2 = { q with mon := q.mon ++ [N] } := ⟨_, rfl⟩
        have hR5 := HQ5.out.2.2.2.2.1
        rw [← hq2] at hR5
        have H6 := Lib.hid (KO.put (j := 7) (u := .slice (some ⟨g', 0, none⟩) (q.mon.length + 1) cap') HQ5.out.1 HQ5.out.2.1 HQ5.out.2.2.1 HQ5.out.2.2.2.1 HK.out.base hR5 (by rw [hq2]; rfl) (by decide))
        have HI6 := Lib.hid (HQ5.out.2.2.2.2.2.trans (KI.set HQ5.out.1 7 (.slice (some ⟨g', 0, none⟩) (q.mon.length + 1) cap')))
        rw [← hq2] at HR
        have HL2 : Hid (lenR q2 ≤ lenR r + 24) := Lib.hid (by have := HLq.out; rw [hq2]; unfold lenR at this ⊢; simp only [List.length_append, List.length_singleton]; omega)
        clear hR5 HQ5 HK HI x0 x1 x2 x3 x4 x5 x6 x7 x8 x9 x10 x11 xf hq2
        generalize w5.setCell ⟨w.heap.size, 7, none⟩ (.slice (some ⟨g', 0, none⟩) (q.mon.length + 1) cap') = w6 at H6 HI6 ⊢
        by_cases h0 : N = 0
        · have HE : Hid (oneL 4 r s.data.toList = .error 10) := Lib.hid (by rw [HEQ.out, HU.out (by rw [HR.out, if_pos h0])])
          have h0b : (N == 0) = true := by rw [beq_iff_eq]; exact h0
          clear h0
          obtain ⟨x0, x1, x2, x3, x4, x5, x6, x7, x8, x9, x10, x11⟩ := H6.out.var.cells
          have xf := H6.out.var.frozen
          obtain ⟨z0, z1, z2, z3, z4, z5, z6, z7, z8, z9, z10, z11⟩ := H6.out.res.cells
          simp only [RuV.zero, Wh.zero, nilV] at z0 z1 z2 z3 z4 z5 z6 z7 z8 z9 z10 z11
          have zf := H6.out.res.frozen
          go_wp2
          obtain ⟨p1, p2, p3, p4⟩ := one_post H6.out
          exact bodyPost_ret (results_cell2 rfl _ rfl rfl (load_ru p1)) rfl ⟨q2, _, _, _, _, 10, rfl, p2, p3, p4, HL2.out, .inr ⟨by decide, HE.out⟩⟩
        · have HN : Hid (∃ q u1 u2 u3 u4, foldK 4 r (P.take (i + 1)) = some q ∧ KO n w w6 q sn u1 u2 u3 u4 v5 ∧ KI w2 w6) := Lib.hid ⟨q2, _, _, _, _, by rw [HS.out, HR.out, if_neg h0], H6.out, HI6.out⟩
          have h0b : (N == 0) = false := by rw [beq_eq_false_iff_ne]; exact h0
          clear h0
          go_wp2
          go_roundg (P.length - (i + 1))
          case measure => omega
          case rel => exact ⟨i + 1, by omega, Nat.le_refl _, by go_num, HN⟩
      · obtain rfl : i = P.length := by omega
        have HE : Hid (oneL 4 r s.data.toList = .ok q) := Lib.hid (by
          have := HF.out
          rw [List.take_length] at this
          rw [HEQ.out, this])
        have HL2 : Hid (lenR q ≤ lenR r + 24) := Lib.hid (by omega)
        clear hql
        obtain ⟨x0, x1, x2, x3, x4, x5, x6, x7, x8, x9, x10, x11⟩ := HK.out.var.cells
        have xf := HK.out.var.frozen
        obtain ⟨z0, z1, z2, z3, z4, z5, z6, z7, z8, z9, z10, z11⟩ := HK.out.res.cells
        simp only [RuV.zero, Wh.zero, nilV] at z0 z1 z2 z3 z4 z5 z6 z7 z8 z9 z10 z11
        have zf := HK.out.res.frozen
        go_wp2
        obtain ⟨p1, p2, p3, p4⟩ := one_post HK.out
        exact bodyPost_ret (results_cell2 rfl _ rfl rfl (load_ru p1)) rfl ⟨q, _, _, _, _, 0, rfl, p2, p3, p4, HL2.out, .inl ⟨rfl, HE.out⟩⟩
end Go.Proofs.YtnidkcedomhofaaGreatDoor

/-
  The document's own answers of layer 14: a part's values read into a rule: a list.
-/
namespace Go.Proofs.YtnidkcedomhofaaGreatDoor
open Go.RowKit

set_option maxRecDepth 100000 in
set_option maxHeartbeats 8000000 in
theorem one5_any (r : RuV) (v1 v2 v3 v4 v5 : Value) (sn : List (List UInt8)) (s : ByteArray) (hs : s.size ≤ 1048576) (n : Nat) (w : World) (h : Rw w n r sn v1 v2 v3 v4 v5) (hn : n ≤ w.heap.size) (hl : lenR r ≤ 50000000) :
    Calls Tryz.prog 26 #[ruV r v1 v2 v3 v4, .string ⟨#[66, 89, 77, 79, 78, 84, 72, 68, 65, 89]⟩, .string s] w (OneA n 5 r sn v5 s.data.toList w) := by
  have H0 := Lib.hid (KO.begin h hn)
  obtain ⟨a1, e1, a2, e2, a3, e3, a4, e4, rfl, rfl, rfl, rfl⟩ := h.lits
  have HL := Lib.hid hl
  clear h hn hl
  have cs := refSplit_any 44 s hs
  rw [show (((44 : UInt8).toNat : Nat) : Int) = 44 from rfl] at cs
  have cb : ∀ W, Calls Tryz.prog 55 #[.string ⟨#[66, 89, 77, 79, 78, 84, 72, 68, 65, 89]⟩, .string ⟨#[66, 89]⟩] W fun e w' => e = .returned (.bool true) ∧ w' = W := fun W => refStarts_k (k := 5) (by decide) W
  go_enter Tryz.func26, Tryz.ntmps26
  go_upto_region 1 with fail
  change Code.wp _ _ _ _ (OW w r (.slice a1 r.mon.length e1) (.slice a2 r.md.length e2) (.slice a3 r.dys.length e3) (.slice a4 r.pos.length e4))
  generalize OW w r (.slice a1 r.mon.length e1) (.slice a2 r.md.length e2) (.slice a3 r.dys.length e3) (.slice a4 r.pos.length e4) = w1 at H0 ⊢
  generalize ruV r (.slice a1 r.mon.length e1) (.slice a2 r.md.length e2) (.slice a3 r.dys.length e3) (.slice a4 r.pos.length e4) = VA
  obtain ⟨P, hP⟩ : ∃ P, splitC 44 [] s.data.toList = P := ⟨_, rfl⟩
  simp only [hP] at cs
  have HP := Lib.hid hP
  have HPL : Hid (∀ p ∈ P, p.length ≤ s.size) := Lib.hid (by rw [← hP, bsize]; intro p hp; simpa using splitC_le 44 _ _ p hp)
  clear hP
  by_cases h24 : 24 < P.length
  · have h24i : (24 : Int) < (P.length : Int) := by omega
    have HE : Hid (oneL 5 r s.data.toList = .error 27) := Lib.hid (oneL_many rfl (by rw [HP.out]; exact h24))
    go_wp2_with (first
      | (go_at_call 16; refine (cs _).mono ?_; rintro e w2 ⟨l, rfl, ho, hb2⟩; clear cs
         obtain ⟨al, cl, rfl⟩ := (Sl.of_own ho).lit
         have H2 := Lib.hid (H0.out.step hb2)
         have HO := Lib.hid ho
         clear hb2 ho H0
         obtain ⟨x0, x1, x2, x3, x4, x5, x6, x7, x8, x9, x10, x11⟩ := H2.out.var.cells
         have xf := H2.out.var.frozen
         obtain ⟨z0, z1, z2, z3, z4, z5, z6, z7, z8, z9, z10, z11⟩ := H2.out.res.cells
         simp only [RuV.zero, Wh.zero, nilV] at z0 z1 z2 z3 z4 z5 z6 z7 z8 z9 z10 z11
         have zf := H2.out.res.frozen)
      | (go_at_call 55; refine (cb _).mono ?_; rintro e w' ⟨rfl, hw⟩; subst w'; clear cb))
    obtain ⟨p1, p2, p3, p4⟩ := one_post H2.out
    exact bodyPost_ret (results_cell2 rfl _ rfl rfl (load_ru p1)) rfl ⟨r, _, _, _, _, 27, rfl, p2, p3, p4, by omega, .inr ⟨by decide, HE.out⟩⟩
  · have h24i : ¬ ((24 : Int) < (P.length : Int)) := by omega
    have HEQ : Hid (oneL 5 r s.data.toList = match foldK 5 r P with | none => .error 10 | some q => .ok q) := Lib.hid (by rw [oneL_list rfl (by rw [HP.out]; exact h24), HP.out]; rfl)
    go_wp2_with (first
      | (go_at_call 16; refine (cs _).mono ?_; rintro e w2 ⟨l, rfl, ho, hb2⟩; clear cs
         obtain ⟨al, cl, rfl⟩ := (Sl.of_own ho).lit
         have H2 := Lib.hid (H0.out.step hb2)
         have HO := Lib.hid ho
         clear hb2 ho H0
         obtain ⟨x0, x1, x2, x3, x4, x5, x6, x7, x8, x9, x10, x11⟩ := H2.out.var.cells
         have xf := H2.out.var.frozen
         obtain ⟨z0, z1, z2, z3, z4, z5, z6, z7, z8, z9, z10, z11⟩ := H2.out.res.cells
         simp only [RuV.zero, Wh.zero, nilV] at z0 z1 z2 z3 z4 z5 z6 z7 z8 z9 z10 z11
         have zf := H2.out.res.frozen)
      | (go_at_call 55; refine (cb _).mono ?_; rintro e w' ⟨rfl, hw⟩; subst w'; clear cb))
    clear x0 x1 x2 x3 x4 x5 x6 x7 x8 x9 x10 x11 z0 z1 z2 z3 z4 z5 z6 z7 z8 z9 z10 z11 xf zf
    go_loopg [12] P.length (fun g s12 wr => ∃ (i : Nat), i ≤ P.length ∧ P.length - i ≤ g ∧ s12 = .int .i64 i ∧ Hid (∃ q u1 u2 u3 u4, foldK 5 r (P.take i) = some q ∧ KO n w wr q sn u1 u2 u3 u4 v5 ∧ KI w2 wr))
    case atStart => exact ⟨0, Nat.zero_le _, by omega, rfl, Lib.hid ⟨r, _, _, _, _, rfl, H2.out, KI.refl _⟩⟩
    case round =>
      clear H2
      obtain ⟨i, hi, hg, rfl, HJ⟩ := hrel
      obtain ⟨q, u1, u2, u3, u4, hf, hK, hki⟩ := HJ.out
      obtain ⟨b1, d1, b2, d2, b3, d3, b4, d4, rfl, rfl, rfl, rfl⟩ := hK.rw.lits
      have hql := foldK_len _ _ _ hf
      rw [List.length_take] at hql
      have HK := Lib.hid hK
      have HF := Lib.hid hf
      have HI := Lib.hid hki
      clear HJ hf hki hK
      by_cases hlt : i < P.length
      · have hin : (i : Int) < (P.length : Int) := by omega
        have HO2 := Lib.hid (own_ki HO.out (by decide) (by decide) (by decide) HI.out)
        obtain ⟨bp, op, rfl, gp⟩ := (Sl.of_own HO2.out).str hlt
        have hpm : P.getD i [] ∈ P := by rw [List.getD_eq_getElem?_getD, List.getElem?_eq_getElem hlt]; exact List.getElem_mem hlt
        have hpl := HPL.out _ hpm
        have hT : P.take (i + 1) = P.take i ++ [P.getD i []] := by
          rw [List.take_add_one, List.getD_eq_getElem?_getD, List.getElem?_eq_getElem hlt]; rfl
        have hS : foldK 5 r (P.take (i + 1)) = readK 5 q (P.getD i []) := by rw [hT, foldK_snoc, HF.out]; rfl
        have hfull : readK 5 q (P.getD i []) = none → foldK 5 r P = none := fun h => by
          rw [← List.take_append_drop (i + 1) P]
          exact foldK_pre 5 _ _ _ (by rw [hS, h])
        generalize P.getD i [] = p at gp hpl hS hfull
        obtain ⟨X, hX⟩ : ∃ X : ByteArray, ⟨p.toArray⟩ = X := ⟨_, rfl⟩
        have hXl : X.data.toList = p := by rw [← hX]
        have hXs : X.size ≤ 1048576 := by rw [bsize, hXl]; omega
        rw [hX] at gp
        have HS := Lib.hid hS
        have HU := Lib.hid hfull
        have hnn : n ≤ wr.heap.size := by have := HK.out.size; have := HK.out.base; omega
        have HLq : Hid (lenR q ≤ lenR r + i) := Lib.hid (by omega)
        have hlen : q.md.length ≤ 100000000 := by have := HL.out; unfold lenR at this hql; omega
        clear hS hfull hpm hT hX hql hpl HO2
        obtain ⟨x0, x1, x2, x3, x4, x5, x6, x7, x8, x9, x10, x11⟩ := HK.out.var.cells
        have xf := HK.out.var.frozen
        obtain ⟨i0, hi0, hz0, hz1, hz2⟩ := info_parts infoIn
        have cn := fun W => refNum1_any X hXs 31 (by omega) W
        rw [hXl] at cn
        have HR : Hid (readK 5 q p = if eitL p 31 = 0 then none else some { q with md := q.md ++ [eitL p 31] }) := Lib.hid rfl
        generalize eitL p 31 = N at cn HR
        clear hXl
        go_upto_region 23 with (first
          | (go_at_call 56; refine (cn _).mono ?_; rintro e w' ⟨rfl, hw⟩; subst w'; clear cn)
          | (at_builtin
             refine wpList_append_own_at _ rfl _ _ 24 rfl n 3 i0 (.int .i64 0) 1 8 Tryz.underlying24 hi0 hz0 hz1 hz2 rfl (by decide) _ _ _ rfl (HK.out.rw.o2.alloc _) ⟨_, 0, none⟩ 1 1 [.int .i64 N] rfl rfl (cells_newV _ [.int .i64 N] _) (by simp [Value.oneCell']) (by unfold maxLen; omega) (by omega) (by simp; omega) ?_
             intro v' w5 hown' hgrow _ hat
             obtain ⟨g', cap', rfl⟩ := ownsRow_succ hown'
             obtain ⟨hV, hZ, hB, hKi⟩ := HK.out.grown (.inl rfl) HK.out.rw.o2 hgrow
             have HQ5 := Lib.hid (And.intro hV (And.intro hZ (And.intro hB (And.intro hKi (And.intro (HK.out.rw.app2 N hown' hgrow hat) (HI.out.trans (KI.append (.inl rfl) HK.out.rw.o2 hgrow)))))))
             clear hown' hgrow hat hZ hB hKi x0 x1 x2 x3 x4 x5 x6 x7 x8 x9 x10 x11 xf
             obtain ⟨x0, x1, x2, x3, x4, x5, x6, x7, x8, x9, x10, x11⟩ := hV.cells
             have xf := hV.frozen
             clear hV))
        obtain ⟨q2, hq2⟩ : ∃ q2 : RuV, q2 = { q with md := q.md ++ [N] } := ⟨_, rfl⟩
        have hR5 := HQ5.out.2.2.2.2.1
        rw [← hq2] at hR5
        have H6 := Lib.hid (KO.put (j := 8) (u := .slice (some ⟨g', 0, none⟩) (q.md.length + 1) cap') HQ5.out.1 HQ5.out.2.1 HQ5.out.2.2.1 HQ5.out.2.2.2.1 HK.out.base hR5 (by rw [hq2]; rfl) (by decide))
        have HI6 := Lib.hid (HQ5.out.2.2.2.2.2.trans (KI.set HQ5.out.1 8 (.slice (some ⟨g', 0, none⟩) (q.md.length + 1) cap')))
        rw [← hq2] at HR
        have HL2 : Hid (lenR q2 ≤ lenR r + 24) := Lib.hid (by have := HLq.out; rw [hq2]; unfold lenR at this ⊢; simp only [List.length_append, List.length_singleton]; omega)
        clear hR5 HQ5 HK HI x0 x1 x2 x3 x4 x5 x6 x7 x8 x9 x10 x11 xf hq2
        generalize w5.setCell ⟨w.heap.size, 8, none⟩ (.slice (some ⟨g', 0, none⟩) (q.md.length + 1) cap') = w6 at H6 HI6 ⊢
        by_cases h0 : N = 0
        · have HE : Hid (oneL 5 r s.data.toList = .error 10) := Lib.hid (by rw [HEQ.out, HU.out (by rw [HR.out, if_pos h0])])
          have h0b : (N == 0) = true := by rw [beq_iff_eq]; exact h0
          clear h0
          obtain ⟨x0, x1, x2, x3, x4, x5, x6, x7, x8, x9, x10, x11⟩ := H6.out.var.cells
          have xf := H6.out.var.frozen
          obtain ⟨z0, z1, z2, z3, z4, z5, z6, z7, z8, z9, z10, z11⟩ := H6.out.res.cells
          simp only [RuV.zero, Wh.zero, nilV] at z0 z1 z2 z3 z4 z5 z6 z7 z8 z9 z10 z11
          have zf := H6.out.res.frozen
          go_wp2
          obtain ⟨p1, p2, p3, p4⟩ := one_post H6.out
          exact bodyPost_ret (results_cell2 rfl _ rfl rfl (load_ru p1)) rfl ⟨q2, _, _, _, _, 10, rfl, p2, p3, p4, HL2.out, .inr ⟨by decide, HE.out⟩⟩
        · have HN : Hid (∃ q u1 u2 u3 u4, foldK 5 r (P.take (i + 1)) = some q ∧ KO n w w6 q sn u1 u2 u3 u4 v5 ∧ KI w2 w6) := Lib.hid ⟨q2, _, _, _, _, by rw [HS.out, HR.out, if_neg h0], H6.out, HI6.out⟩
          have h0b : (N == 0) = false := by rw [beq_eq_false_iff_ne]; exact h0
          clear h0
          go_wp2
          go_roundg (P.length - (i + 1))
          case measure => omega
          case rel => exact ⟨i + 1, by omega, Nat.le_refl _, by go_num, HN⟩
      · obtain rfl : i = P.length := by omega
        have HE : Hid (oneL 5 r s.data.toList = .ok q) := Lib.hid (by
          have := HF.out
          rw [List.take_length] at this
          rw [HEQ.out, this])
        have HL2 : Hid (lenR q ≤ lenR r + 24) := Lib.hid (by omega)
        clear hql
        obtain ⟨x0, x1, x2, x3, x4, x5, x6, x7, x8, x9, x10, x11⟩ := HK.out.var.cells
        have xf := HK.out.var.frozen
        obtain ⟨z0, z1, z2, z3, z4, z5, z6, z7, z8, z9, z10, z11⟩ := HK.out.res.cells
        simp only [RuV.zero, Wh.zero, nilV] at z0 z1 z2 z3 z4 z5 z6 z7 z8 z9 z10 z11
        have zf := HK.out.res.frozen
        go_wp2
        obtain ⟨p1, p2, p3, p4⟩ := one_post HK.out
        exact bodyPost_ret (results_cell2 rfl _ rfl rfl (load_ru p1)) rfl ⟨q, _, _, _, _, 0, rfl, p2, p3, p4, HL2.out, .inl ⟨rfl, HE.out⟩⟩
end Go.Proofs.YtnidkcedomhofaaGreatDoor
