/-
  The chapter's examples (layer 14), as the law asks them.
-/
import Derived.Test.YtnidkcedomhofaaGreatDoorG33
import Derived.Test.YtnidkcedomhofaaGreatDoorG37
import Derived.Test.YtnidkcedomhofaaGreatDoorG38
import Derived.Test.YtnidkcedomhofaaGreatDoorG36
import Derived.Deep.DeepCutAuto
import Derived.Deep.CutBlock
namespace Go.Proofs.YtnidkcedomhofaaGreatDoor
open Go.RowKit

set_option maxRecDepth 100000 in
set_option maxHeartbeats 8000000 in
theorem awake14_any (w : World) (hv : VV w) : Calls Tryz.prog 10 #[] w fun e w' => e = .returned (.bool true) ∧ Below w.heap.size w w' := by
  have c1 := fun W (hV : VV W) => pParse14_any ⟨#[70, 82, 69, 81, 61, 77, 79, 78, 84, 72, 76, 89, 59, 66, 89, 68, 65, 89, 61, 45, 49, 70, 82, 59, 67, 79, 85, 78, 84, 61, 51]⟩ (by decide) W hV
  have c2 := fun W (hV : VV W) => pParse14_any ⟨#[70, 82, 69, 81, 61, 72, 79, 85, 82, 76, 89]⟩ (by decide) W hV
  have c3 := fun W (hV : VV W) => pParse14_any ⟨#[67, 79, 85, 78, 84, 61, 51]⟩ (by decide) W hV
  have c4 := fun W (hV : VV W) => pParse14_any ⟨#[70, 82, 69, 81, 61, 87, 69, 69, 75, 76, 89, 59, 66, 89, 68, 65, 89, 61, 49, 77, 79]⟩ (by decide) W hV
  unfold RuAns at c1 c2 c3 c4
  simp only [awk1] at c1
  simp only [awk2] at c2
  simp only [awk3] at c3
  simp only [awk4] at c4
  generalize (parV [70, 82, 69, 81, 61, 72, 79, 85, 82, 76, 89]).1 = r2 at c2
  generalize (parV [67, 79, 85, 78, 84, 61, 51]).1 = r3 at c3
  generalize (parV [70, 82, 69, 81, 61, 87, 69, 69, 75, 76, 89, 59, 66, 89, 68, 65, 89, 61, 49, 77, 79]).1 = r4 at c4
  unfold ruV at c1 c2 c3 c4
  have c5 := fun W v1 v2 v3 v4 (hV : VV W) (h : RuS W awkR v1 v2 v3 v4) => pPrint14_any awkR v1 v2 v3 v4 W hV (by decide) h
  rw [awk_prn] at c5
  unfold ruV mkB at c5
  simp only [awkR] at c5
  have H0 := Lib.hid (And.intro (Below.refl w.heap.size w) hv)
  clear hv
  go_enter Tryz.func10, Tryz.ntmps10
  go_wp2_with (first
    | (go_at_call 7; (with_reducible refine (c1 _ H0.out.2).mono ?_); rintro e w1 ⟨v11, v12, v13, v14, rfl, hs, hb⟩; clear c1
       obtain ⟨a11, e11, rfl⟩ := hs.s1.lit
       obtain ⟨a12, e12, rfl⟩ := hs.s2.lit
       obtain ⟨a13, e13, rfl⟩ := hs.s3.lit
       obtain ⟨a14, e14, rfl⟩ := hs.s4.lit
       have N1 := KA.new (bstep H0.out.1 hb) (H0.out.2.step hb) hs
       have H1 := Lib.hid (And.intro N1.bel N1.vv)
       have K1 := Lib.hid N1
       clear N1 hs hb)
    | (go_at_call 7; (with_reducible refine (c2 _ H1.out.2).mono ?_); rintro e w2 ⟨v21, v22, v23, v24, rfl, hs, hb⟩; clear c2
       obtain ⟨a21, e21, rfl⟩ := hs.s1.lit
       obtain ⟨a22, e22, rfl⟩ := hs.s2.lit
       obtain ⟨a23, e23, rfl⟩ := hs.s3.lit
       obtain ⟨a24, e24, rfl⟩ := hs.s4.lit
       have N2 := KA.new (bstep H1.out.1 hb) (H1.out.2.step hb) hs
       have H2 := Lib.hid (And.intro N2.bel N2.vv)
       have hx := bstep hb ((Below.refl w2.heap.size w2).alloc (Nat.le_refl _) (.cells #[.int .i64 r2.freq, .int .i64 r2.intv, .int .i64 r2.cnt, .bool r2.has, .int .i64 r2.unt.secs, .bool r2.unt.utc, .bool r2.unt.date, .slice a21 r2.mon.length e21, .slice a22 r2.md.length e22, .slice a23 r2.dys.length e23, .slice a24 r2.pos.length e24, .int .i64 r2.wk] 27))
       have K2 := Lib.hid (K1.out.step hx)
       clear N2 K1 hs hb hx)
    | (go_at_call 7; (with_reducible refine (c3 _ H2.out.2).mono ?_); rintro e w3 ⟨v31, v32, v33, v34, rfl, hs, hb⟩; clear c3
       obtain ⟨a31, e31, rfl⟩ := hs.s1.lit
       obtain ⟨a32, e32, rfl⟩ := hs.s2.lit
       obtain ⟨a33, e33, rfl⟩ := hs.s3.lit
       obtain ⟨a34, e34, rfl⟩ := hs.s4.lit
       have N3 := KA.new (bstep H2.out.1 hb) (H2.out.2.step hb) hs
       have H3 := Lib.hid (And.intro N3.bel N3.vv)
       have hx := bstep hb ((Below.refl w3.heap.size w3).alloc (Nat.le_refl _) (.cells #[.int .i64 r3.freq, .int .i64 r3.intv, .int .i64 r3.cnt, .bool r3.has, .int .i64 r3.unt.secs, .bool r3.unt.utc, .bool r3.unt.date, .slice a31 r3.mon.length e31, .slice a32 r3.md.length e32, .slice a33 r3.dys.length e33, .slice a34 r3.pos.length e34, .int .i64 r3.wk] 27))
       have K3 := Lib.hid (K2.out.step hx)
       clear N3 K2 hs hb hx)
    | (go_at_call 7; (with_reducible refine (c4 _ H3.out.2).mono ?_); rintro e w4 ⟨v41, v42, v43, v44, rfl, hs, hb⟩; clear c4
       obtain ⟨a41, e41, rfl⟩ := hs.s1.lit
       obtain ⟨a42, e42, rfl⟩ := hs.s2.lit
       obtain ⟨a43, e43, rfl⟩ := hs.s3.lit
       obtain ⟨a44, e44, rfl⟩ := hs.s4.lit
       have N4 := KA.new (bstep H3.out.1 hb) (H3.out.2.step hb) hs
       have H4 := Lib.hid (And.intro N4.bel N4.vv)
       have hx := bstep hb ((Below.refl w4.heap.size w4).alloc (Nat.le_refl _) (.cells #[.int .i64 r4.freq, .int .i64 r4.intv, .int .i64 r4.cnt, .bool r4.has, .int .i64 r4.unt.secs, .bool r4.unt.utc, .bool r4.unt.date, .slice a41 r4.mon.length e41, .slice a42 r4.md.length e42, .slice a43 r4.dys.length e43, .slice a44 r4.pos.length e44, .int .i64 r4.wk] 27))
       have K4 := Lib.hid (K3.out.step hx)
       clear N4 K3 hs hb hx
       obtain ⟨x0, x1, x2, x3, x4, x5, x6, x7, x8, x9, x10, x11⟩ := K4.out.var.cells
       simp only [awkR] at x0 x1 x2 x3 x4 x5 x6 x7 x8 x9 x10 x11
       obtain ⟨b, o, hA, y0, y1⟩ := K4.out.rs.s3.wd (i := 0) (by decide)
       subst hA
       simp [awkR] at y0 y1)
    | (go_at_call 13; refine (c5 _ _ _ _ _ K4.out.vv K4.out.rs).mono ?_; rintro e w5 ⟨rfl, hb⟩; clear c5
       have B5 := Lib.hid (bstep K4.out.bel hb)
       clear hb))
  go_ret
  exact ⟨rfl, B5.out⟩
end Go.Proofs.YtnidkcedomhofaaGreatDoor

/-
  Plain mathematics for layer 14 (rule): the parts turned round, as the law lays them.
-/
namespace Go.Proofs.YtnidkcedomhofaaGreatDoor
open Go.RowKit

/-- The parts so far, turned round, in small letters. -/
def bkL (ps : List (List UInt8)) : List UInt8 := Lib.join (ps.reverse.map lowL) [59]
theorem bkL_nil : bkL [] = [] := rfl
theorem bkL_one (p : List UInt8) : bkL [p] = lowL p := by unfold bkL; simp [Lib.join_one]
theorem joinTail_ne {q : List UInt8} {qs : List (List UInt8)} : Lib.joinTail [59] (q :: qs) = 59 :: Lib.join (q :: qs) [59] := by
  rw [Lib.join_cons]; simp [Lib.joinTail]
theorem bkL_snoc {ps : List (List UInt8)} (h : ps ≠ []) (p : List UInt8) : bkL (ps ++ [p]) = lowL p ++ 59 :: bkL ps := by
  unfold bkL
  rw [List.reverse_append, List.reverse_singleton, List.singleton_append, List.map_cons, Lib.join_cons]
  cases hr : ps.reverse.map lowL with
  | nil => simp at hr; exact absurd hr h
  | cons q qs => rw [joinTail_ne]
theorem bkL_ne {ps : List (List UInt8)} (h : ps ≠ []) : ∀ p, (∀ q ∈ ps, q ≠ []) → bkL (ps ++ [p]) ≠ [] := fun p _ => by rw [bkL_snoc h]; simp
theorem lowL_len (l : List UInt8) : (lowL l).length = l.length := by unfold lowL; simp
theorem bkL_len {M : Nat} {ps : List (List UInt8)} (h : ∀ q ∈ ps, q.length ≤ M) : (bkL ps).length ≤ (M + 1) * ps.length := by
  have := join_max2 (M := M) (ps.reverse.map lowL) (fun t ht => by
    obtain ⟨q, hq, rfl⟩ := List.mem_map.1 ht
    rw [lowL_len]
    exact h q (List.mem_reverse.1 hq))
  simpa [bkL] using this
theorem split_prn {r : RuV} (h : FitV r) : splitC 59 [] (prnV r) = partsV r := by
  unfold prnV
  rw [if_pos ((fitV_iff r).2 h)]
  exact split_join (partsV_ne r) (fun q hq hc => (parts_gd h q hq 59 hc).1 rfl)
theorem part_facts {r : RuV} (h : FitV r) : ∀ q ∈ partsV r, q ≠ [] ∧ q.length ≤ 3000 := fun q hq => by
  obtain ⟨k, hk, rfl⟩ := List.mem_map.1 hq
  unfold partK
  have h2 := valT_len h k
  have h3 : (nameB.getD k []).length ≤ 20 := by rcases key_cases (keys_mem.1 hk).1 with rfl | rfl | rfl | rfl | rfl | rfl | rfl | rfl | rfl <;> decide
  exact ⟨by simp, by rw [List.length_append, List.length_cons]; omega⟩
theorem parts_count (r : RuV) : (partsV r).length ≤ 9 := by
  unfold partsV keysV
  rw [List.length_map]
  exact Nat.le_trans (List.length_filter_le _ _) (by simp)
theorem prnV_len {r : RuV} : (prnV r).length ≤ 100000 := by
  unfold prnV
  split
  · rename_i h; exact parts_max ((fitV_iff r).1 h)
  · simp
theorem prnV_fit {r : RuV} (h : prnV r ≠ []) : FitV r := by
  unfold prnV at h
  split at h
  · rename_i k; exact (fitV_iff r).1 k
  · exact absurd rfl h
end Go.Proofs.YtnidkcedomhofaaGreatDoor

/-
  RuleBack: a rule written and read is the same, and what is read, written, is read as the same.
-/
namespace Go.Proofs.YtnidkcedomhofaaGreatDoor
open Go.RowKit

theorem parV_u (s : List UInt8) : UOk (parV s).1 := by
  unfold parV
  cases h : runV RuV.init [] (splitC 59 [] (upL s)) with
  | error e => exact (show UOk RuV.zero from ⟨by decide, by decide⟩)
  | ok x =>
    unfold endV
    simp only
    split
    · exact ⟨by decide, by decide⟩
    · split
      · exact runV_u _ _ _ x (show UOk RuV.init from ⟨by decide, by decide⟩) h
      · exact ⟨by decide, by decide⟩
set_option maxRecDepth 100000 in
set_option maxHeartbeats 8000000 in
theorem back14_any (r : RuV) (v1 v2 v3 v4 : Value) (s : ByteArray) (hs : s.size ≤ 1048576) (w : World) (hv : VV w) (hu : UOk r) (h : RuS w r v1 v2 v3 v4) :
    Calls Tryz.prog 5 #[ruV r v1 v2 v3 v4, .string s] w fun e w' => e = .returned (.bool true) ∧ Below w.heap.size w w' := by
  obtain ⟨a01, e01, rfl⟩ := h.s1.lit
  obtain ⟨a02, e02, rfl⟩ := h.s2.lit
  obtain ⟨a03, e03, rfl⟩ := h.s3.lit
  obtain ⟨a04, e04, rfl⟩ := h.s4.lit
  have K0 := Lib.hid (KA.new (Below.refl w.heap.size w) hv h)
  have HU := Lib.hid hu
  have HS := Lib.hid hs
  clear h hv hu hs
  unfold ruV
  go_enter Tryz.func5, Tryz.ntmps5
  go_upto_region 1 with fail
  generalize w.alloc (.cells #[.int .i64 r.freq, .int .i64 r.intv, .int .i64 r.cnt, .bool r.has, .int .i64 r.unt.secs, .bool r.unt.utc, .bool r.unt.date, .slice a01 r.mon.length e01, .slice a02 r.md.length e02, .slice a03 r.dys.length e03, .slice a04 r.pos.length e04, .int .i64 r.wk] 27) = w0 at K0 ⊢
  obtain ⟨x0, x1, x2, x3, x4, x5, x6, x7, x8, x9, x10, x11⟩ := K0.out.var.cells
  have cp := pPrint14_any r _ _ _ _ w0 K0.out.vv HU.out K0.out.rs
  unfold ruV at cp
  go_wp2_with fail
  refine cp.mono ?_
  rintro e w1 ⟨rfl, hb1⟩
  have K1 := Lib.hid (K0.out.step hb1)
  clear hb1 K0 cp x0 x1 x2 x3 x4 x5 x6 x7 x8 x9 x10 x11
  have hpz := prnV_len (r := r)
  obtain ⟨T, hT⟩ : ∃ T : ByteArray, T = mkB (prnV r) := ⟨_, rfl⟩
  rw [← hT]
  have hTl : T.data.toList = prnV r := by rw [hT]; simp [mkB]
  have hTs : T.size ≤ 100000 := by rw [bsize, hTl]; exact hpz
  clear hT hpz
  obtain ⟨z, hz, HZ⟩ : ∃ z, (!T.toList.isEmpty) = z ∧ Hid (z = true → prnV r ≠ []) := ⟨_, rfl, Lib.hid (fun h => by
    intro e
    rw [Lib.toList_data, hTl, e] at h
    cases h)⟩
  go_upto_if 15 with fail
  clear hz
  go_cut [] (fun wc => Hid (KA w wc w.heap.size r (.slice a01 r.mon.length e01) (.slice a02 r.md.length e02) (.slice a03 r.dys.length e03) (.slice a04 r.pos.length e04)))
  case first =>
    cases z
    · clear hTl hTs
      go_wp2_with fail
      go_meet
      case rel => exact K1
    · have HP := Lib.hid (show parV T.data.toList = (r, 0) from by rw [hTl]; exact parV_prn (prnV_fit (HZ.out rfl)))
      clear hTl
      have c2 := pParse14_any T (by omega) w1 K1.out.vv
      unfold RuAns at c2
      rw [HP.out] at c2
      unfold ruV at c2
      go_wp2_with fail
      refine c2.mono ?_
      rintro e w3 ⟨u1, u2, u3, u4, rfl, hs3, hb3⟩
      obtain ⟨a11, e11, rfl⟩ := hs3.s1.lit
      obtain ⟨a12, e12, rfl⟩ := hs3.s2.lit
      obtain ⟨a13, e13, rfl⟩ := hs3.s3.lit
      obtain ⟨a14, e14, rfl⟩ := hs3.s4.lit
      have K3 := Lib.hid (K1.out.step hb3)
      have N3 := Lib.hid (KA.new K3.out.bel K3.out.vv hs3)
      have K4 := Lib.hid (K3.out.step ((Below.refl w3.heap.size w3).alloc (Nat.le_refl _) (.cells #[.int .i64 r.freq, .int .i64 r.intv, .int .i64 r.cnt, .bool r.has, .int .i64 r.unt.secs, .bool r.unt.utc, .bool r.unt.date, .slice a11 r.mon.length e11, .slice a12 r.md.length e12, .slice a13 r.dys.length e13, .slice a14 r.pos.length e14, .int .i64 r.wk] 27)))
      have cs := refSame14_any r r _ _ _ _ _ _ _ _ _ K4.out.rs N3.out.rs
      rw [decide_eq_true rfl] at cs
      unfold ruV at cs
      clear hs3 hb3 K3 c2 K1
      obtain ⟨x0, x1, x2, x3, x4, x5, x6, x7, x8, x9, x10, x11⟩ := K4.out.var.cells
      obtain ⟨y0, y1, y2, y3, y4, y5, y6, y7, y8, y9, y10, y11⟩ := N3.out.var.cells
      go_wp2_with fail
      refine cs.mono ?_
      rintro e w5 ⟨rfl, hb5⟩
      have K5 := Lib.hid (K4.out.step hb5)
      clear hb5 K4 N3 cs x0 x1 x2 x3 x4 x5 x6 x7 x8 x9 x10 x11 y0 y1 y2 y3 y4 y5 y6 y7 y8 y9 y10 y11
      go_wp2_with fail
      go_meet
      case rel => exact K5
  case rest =>
    clear K1 hTs hTl HZ
    have K2 := Lib.hid (And.intro hcut.out.bel hcut.out.vv)
    clear hcut
    have c2 := pParse14_any s HS.out wc K2.out.2
    unfold RuAns at c2
    have HF := Lib.hid (fun h => parV_fit (s := s.data.toList) h)
    obtain ⟨q, hq⟩ : ∃ q, (parV s.data.toList).1 = q := ⟨_, rfl⟩
    obtain ⟨k, hk⟩ : ∃ k, (parV s.data.toList).2 = k := ⟨_, rfl⟩
    have HQ := Lib.hid (parV_u s.data.toList)
    rw [hq] at HQ
    rw [hq, hk] at c2 HF
    clear hq hk
    unfold ruV at c2
    by_cases hk0 : k = 0
    · subst hk0
      have hF := HF.out rfl
      have HF := Lib.hid hF
      clear hF
      have HP := Lib.hid (parV_prn HF.out)
      have hpz := prnV_len (r := q)
      have hTl : (mkB (prnV q)).data.toList = prnV q := by simp [mkB]
      have c3 := fun W (hV : VV W) => pParse14_any (mkB (prnV q)) (by rw [bsize, hTl]; omega) W hV
      unfold RuAns at c3
      rw [hTl, HP.out] at c3
      unfold ruV at c3
      simp only at c3
      have cpq := fun W v1 v2 v3 v4 (hV : VV W) (h : RuS W q v1 v2 v3 v4) => pPrint14_any q v1 v2 v3 v4 W hV HQ.out h
      have cf := fun W v1 v2 v3 v4 (hV : VV W) (h : RuS W q v1 v2 v3 v4) => pFit14_any q v1 v2 v3 v4 W hV HQ.out h
      rw [(fitV_iff q).2 HF.out] at cf
      have cs := fun W v1 v2 v3 v4 u1 u2 u3 u4 (h1 : RuS W q v1 v2 v3 v4) (h2 : RuS W q u1 u2 u3 u4) => refSame14_any q q v1 v2 v3 v4 u1 u2 u3 u4 W h1 h2
      simp only [decide_true] at cs
      unfold ruV at cpq cf cs
      clear hTl hpz
      generalize mkB (prnV q) = T2 at c3 cpq
      go_wp2_with (first
        | (go_at_call 7; (with_reducible refine c2.mono ?_); rintro e w3 ⟨u1, u2, u3, u4, rfl, hs3, hb3⟩; clear c2
           obtain ⟨a11, e11, rfl⟩ := hs3.s1.lit
           obtain ⟨a12, e12, rfl⟩ := hs3.s2.lit
           obtain ⟨a13, e13, rfl⟩ := hs3.s3.lit
           obtain ⟨a14, e14, rfl⟩ := hs3.s4.lit
           have N3 := Lib.hid (KA.new (bstep K2.out.1 hb3) (K2.out.2.step hb3) hs3)
           clear hs3 hb3
           obtain ⟨x0, x1, x2, x3, x4, x5, x6, x7, x8, x9, x10, x11⟩ := N3.out.var.cells)
        | (go_at_call 13; (with_reducible refine (cpq _ _ _ _ _ N3.out.vv N3.out.rs).mono ?_); rintro e w4 ⟨rfl, hb4⟩; clear cpq x0 x1 x2 x3 x4 x5 x6 x7 x8 x9 x10 x11
           have N4 := Lib.hid (N3.out.step hb4)
           clear hb4 N3)
        | (go_at_call 7; (with_reducible refine (c3 _ N4.out.vv).mono ?_); rintro e w5 ⟨u1, u2, u3, u4, rfl, hs5, hb5⟩; clear c3
           obtain ⟨a21, e21, rfl⟩ := hs5.s1.lit
           obtain ⟨a22, e22, rfl⟩ := hs5.s2.lit
           obtain ⟨a23, e23, rfl⟩ := hs5.s3.lit
           obtain ⟨a24, e24, rfl⟩ := hs5.s4.lit
           have N5 := N4.out.step hb5
           have M5 := Lib.hid (KA.new N5.bel N5.vv hs5)
           have N6 := Lib.hid (N5.step ((Below.refl w5.heap.size w5).alloc (Nat.le_refl _) (.cells #[.int .i64 q.freq, .int .i64 q.intv, .int .i64 q.cnt, .bool q.has, .int .i64 q.unt.secs, .bool q.unt.utc, .bool q.unt.date, .slice a21 q.mon.length e21, .slice a22 q.md.length e22, .slice a23 q.dys.length e23, .slice a24 q.pos.length e24, .int .i64 q.wk] 27)))
           clear hs5 hb5 N5 N4
           obtain ⟨x0, x1, x2, x3, x4, x5, x6, x7, x8, x9, x10, x11⟩ := N6.out.var.cells
           obtain ⟨y0, y1, y2, y3, y4, y5, y6, y7, y8, y9, y10, y11⟩ := M5.out.var.cells)
        | (go_at_call 11; (with_reducible refine (cf _ _ _ _ _ N6.out.vv N6.out.rs).mono ?_); rintro e w7 ⟨rfl, hb7⟩; clear cf x0 x1 x2 x3 x4 x5 x6 x7 x8 x9 x10 x11 y0 y1 y2 y3 y4 y5 y6 y7 y8 y9 y10 y11
           have N7 := Lib.hid (N6.out.step hb7)
           have M7 := Lib.hid (M5.out.step hb7)
           clear hb7 N6 M5
           obtain ⟨x0, x1, x2, x3, x4, x5, x6, x7, x8, x9, x10, x11⟩ := N7.out.var.cells
           obtain ⟨y0, y1, y2, y3, y4, y5, y6, y7, y8, y9, y10, y11⟩ := M7.out.var.cells)
        | (go_at_call 9; (with_reducible refine (cs _ _ _ _ _ _ _ _ _ M7.out.rs N7.out.rs).mono ?_); rintro e w8 ⟨rfl, hb8⟩; clear cs x0 x1 x2 x3 x4 x5 x6 x7 x8 x9 x10 x11 y0 y1 y2 y3 y4 y5 y6 y7 y8 y9 y10 y11
           have N8 := Lib.hid (N7.out.step hb8)
           clear hb8 N7 M7)
        | (go_at_call 10; refine (awake14_any _ N8.out.vv).mono ?_; rintro e w9 ⟨rfl, hb9⟩; have B9 := Lib.hid (bstep N8.out.bel hb9); clear hb9))
      go_ret
      exact ⟨rfl, B9.out⟩
    · have hkb : (k != 0) = true := by rw [bne_iff_ne]; exact hk0
      clear hk0 HF
      go_wp2_with (first
        | (go_at_call 7; refine c2.mono ?_; rintro e w3 ⟨u1, u2, u3, u4, rfl, hs3, hb3⟩; clear c2
           obtain ⟨a11, e11, rfl⟩ := hs3.s1.lit
           obtain ⟨a12, e12, rfl⟩ := hs3.s2.lit
           obtain ⟨a13, e13, rfl⟩ := hs3.s3.lit
           obtain ⟨a14, e14, rfl⟩ := hs3.s4.lit
           have N3 := Lib.hid (KA.new (bstep K2.out.1 hb3) (K2.out.2.step hb3) hs3)
           clear hs3 hb3)
        | (go_at_call 10; refine (awake14_any _ N3.out.vv).mono ?_; rintro e w5 ⟨rfl, hb5⟩; have B5 := Lib.hid (bstep N3.out.bel hb5); clear hb5))
      go_ret
      exact ⟨rfl, B5.out⟩
end Go.Proofs.YtnidkcedomhofaaGreatDoor
