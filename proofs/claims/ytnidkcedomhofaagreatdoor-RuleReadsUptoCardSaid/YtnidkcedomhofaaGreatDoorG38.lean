/-
  A rule's variable of the call's own, and its rows: what the laws of layer 14 carry along.
-/
import Derived.Test.YtnidkcedomhofaaGreatDoorG32
import Derived.WalkSmall
import Derived.StillTailTactics
namespace Go.Proofs.YtnidkcedomhofaaGreatDoor
open Go.RowKit

section
variable {W W' : World} {g : Nat} {r : RuV} {v1 v2 v3 v4 : Value}
theorem RVar.lt (h : RVar W g r v1 v2 v3 v4) : g < W.heap.size := by
  rcases Nat.lt_or_ge g W.heap.size with hlt | hge
  · exact hlt
  · unfold RVar at h; rw [Array.getElem?_eq_none hge] at h; cases h
theorem RVar.step (h : RVar W g r v1 v2 v3 v4) (hb : Below W.heap.size W W') : RVar W' g r v1 v2 v3 v4 := (hb.block g h.lt).trans h
theorem RVar.new (w : World) (r : RuV) (v1 v2 v3 v4 : Value) : RVar (w.alloc (.cells #[.int .i64 r.freq, .int .i64 r.intv, .int .i64 r.cnt, .bool r.has, .int .i64 r.unt.secs, .bool r.unt.utc, .bool r.unt.date, v1, v2, v3, v4, .int .i64 r.wk] 27)) w.heap.size r v1 v2 v3 v4 := heap_alloc_new w _
theorem RVar.cells (h : RVar W g r v1 v2 v3 v4) : W.cell? ⟨g, 0, none⟩ = some (.int .i64 r.freq) ∧ W.cell? ⟨g, 1, none⟩ = some (.int .i64 r.intv) ∧ W.cell? ⟨g, 2, none⟩ = some (.int .i64 r.cnt) ∧ W.cell? ⟨g, 3, none⟩ = some (.bool r.has) ∧ W.cell? ⟨g, 4, none⟩ = some (.int .i64 r.unt.secs) ∧ W.cell? ⟨g, 5, none⟩ = some (.bool r.unt.utc) ∧ W.cell? ⟨g, 6, none⟩ = some (.bool r.unt.date) ∧ W.cell? ⟨g, 7, none⟩ = some v1 ∧ W.cell? ⟨g, 8, none⟩ = some v2 ∧ W.cell? ⟨g, 9, none⟩ = some v3 ∧ W.cell? ⟨g, 10, none⟩ = some v4 ∧ W.cell? ⟨g, 11, none⟩ = some (.int .i64 r.wk) :=
  ⟨cell_of h rfl, cell_of h rfl, cell_of h rfl, cell_of h rfl, cell_of h rfl, cell_of h rfl, cell_of h rfl, cell_of h rfl, cell_of h rfl, cell_of h rfl, cell_of h rfl, cell_of h rfl⟩
end
/-- A rule that lies in the variable g, its rows, and what lay before. -/
structure KA (w W : World) (g : Nat) (r : RuV) (v1 v2 v3 v4 : Value) : Prop where
  var : RVar W g r v1 v2 v3 v4
  rs : RuS W r v1 v2 v3 v4
  bel : Below w.heap.size w W
  vv : VV W
section
variable {w W W' : World} {g : Nat} {r : RuV} {v1 v2 v3 v4 : Value}
theorem KA.step (h : KA w W g r v1 v2 v3 v4) (hb : Below W.heap.size W W') : KA w W' g r v1 v2 v3 v4 := ⟨h.var.step hb, h.rs.step hb, bstep h.bel hb, h.vv.step hb⟩
theorem KA.new (hbel : Below w.heap.size w W) (hv : VV W) (h : RuS W r v1 v2 v3 v4) : KA w (W.alloc (.cells #[.int .i64 r.freq, .int .i64 r.intv, .int .i64 r.cnt, .bool r.has, .int .i64 r.unt.secs, .bool r.unt.utc, .bool r.unt.date, v1, v2, v3, v4, .int .i64 r.wk] 27)) W.heap.size r v1 v2 v3 v4 :=
  have hb := (Below.refl W.heap.size W).alloc (Nat.le_refl _) (.cells #[.int .i64 r.freq, .int .i64 r.intv, .int .i64 r.cnt, .bool r.has, .int .i64 r.unt.secs, .bool r.unt.utc, .bool r.unt.date, v1, v2, v3, v4, .int .i64 r.wk] 27)
  ⟨RVar.new W r v1 v2 v3 v4, h.step hb, bstep hbel hb, hv.step hb⟩
end
end Go.Proofs.YtnidkcedomhofaaGreatDoor

/-
  The document's own answers of layer 14: two rules, the same?
-/
namespace Go.Proofs.YtnidkcedomhofaaGreatDoor
open Go.RowKit

theorem Sl.int {W : World} {A : Option Addr} {c n : Nat} {l : List Int} (h : Sl W (.slice A n c) n 1 (intC l)) {i : Nat} (hi : i < n) : ∃ b o, A = some ⟨b, o, none⟩ ∧ W.cell? ⟨b, o + i, none⟩ = some (.int .i64 (l.getD i 0)) := by
  have hl := h.1
  rw [intC_len] at hl
  rcases h.2 with ⟨h0, _⟩ | ⟨b, o, c', he, _, hc⟩
  · omega
  · injection he with h1 _ _
    refine ⟨b, o, h1, hc i _ ?_⟩
    have hi2 : i < l.length := by omega
    simp [intC, List.getElem?_eq_getElem hi2, List.getD_eq_getElem?_getD]
theorem Sl.wd {W : World} {A : Option Addr} {c n : Nat} {l : List (Int × Int)} (h : Sl W (.slice A n c) n 2 (wdC l)) {i : Nat} (hi : i < n) : ∃ b o, A = some ⟨b, o, none⟩ ∧ W.cell? ⟨b, o + i * 2, none⟩ = some (.int .i64 (l.getD i (0, 0)).1) ∧ W.cell? ⟨b, o + i * 2 + 1, none⟩ = some (.int .i64 (l.getD i (0, 0)).2) := by
  have hl := h.1
  rw [wdC_len] at hl
  rcases h.2 with ⟨h0, _⟩ | ⟨b, o, c', he, _, hc⟩
  · omega
  · injection he with h1 _ _
    have hi2 : i < l.length := by omega
    obtain ⟨g0, g1⟩ := wd_cells hc hi2
    have e : l.getD i (0, 0) = l[i] := by simp [List.getD_eq_getElem?_getD, List.getElem?_eq_getElem hi2]
    rw [e]
    exact ⟨b, o, h1, g0, g1⟩
theorem ext_getD {α : Type} {a b : List α} {n : Nat} {d : α} (ha : a.length = n) (hb : b.length = n) (h : ∀ k, k < n → a.getD k d = b.getD k d) : a = b := by
  refine List.ext_getElem? fun k => ?_
  by_cases hk : k < n
  · have := h k hk
    rw [List.getD_eq_getElem?_getD, List.getD_eq_getElem?_getD] at this
    rw [List.getElem?_eq_getElem (by omega), List.getElem?_eq_getElem (by omega)] at this ⊢
    simpa using this
  · rw [List.getElem?_eq_none (by omega), List.getElem?_eq_none (by omega)]
set_option maxRecDepth 100000 in
set_option maxHeartbeats 1000000 in
theorem refInts14_any (A A' : Option Addr) (n c m c' : Nat) (a b : List Int) (w : World) (ha : Sl w (.slice A n c) n 1 (intC a)) (hb : Sl w (.slice A' m c') m 1 (intC b)) (hn : n ≤ 100000000) (hm : m ≤ 100000000) :
    Calls Tryz.prog 27 #[.slice A n c, .slice A' m c'] w fun e w' => e = .returned (.bool (decide (a = b))) ∧ ∃ q, w' = w.drewN q := by
  have HA := Lib.hid ha
  have HB := Lib.hid hb
  have hl1 := ha.1
  have hl2 := hb.1
  rw [intC_len] at hl1 hl2
  have HL : Hid (a.length = n ∧ b.length = m) := Lib.hid ⟨by omega, by omega⟩
  clear ha hb hl1 hl2
  by_cases hnm : n = m
  · subst hnm
    have ht : ((n : Int) != (n : Int)) = false := by simp
    obtain ⟨r, hr⟩ : ∃ r, r = decide (a = b) := ⟨_, rfl⟩
    rw [← hr]
    have HR := Lib.hid hr
    clear hr
    go_enter Tryz.func27, Tryz.ntmps27
    go_wp2
    go_loopg [5] n (fun g s5 wr => ∃ i q : Nat, i ≤ n ∧ n - i ≤ g ∧ s5 = .int .i64 i ∧ w.drewN q = wr ∧ Hid (∀ k, k < i → a.getD k 0 = b.getD k 0))
    case atStart => exact ⟨0, 0, Nat.zero_le _, by omega, rfl, rfl, Lib.hid fun k hk => absurd hk (Nat.not_lt_zero _)⟩
    case round =>
      obtain ⟨i, q, hi, hg, rfl, rfl, J⟩ := hrel
      by_cases hlt : i < n
      · have hin : (i : Int) < (n : Int) := by omega
        obtain ⟨b1, o1, rfl, g1⟩ := HA.out.int hlt
        obtain ⟨b2, o2, rfl, g2⟩ := HB.out.int hlt
        by_cases hxy : a.getD i 0 = b.getD i 0
        · have JN : Hid (∀ k, k < i + 1 → a.getD k 0 = b.getD k 0) := Lib.hid fun k hk => by
            by_cases e : k = i
            · rw [e]; exact hxy
            · exact J.out k (by omega)
          rw [← hxy] at g2
          generalize a.getD i 0 = x at g1 g2
          have hx : ((x : Int) != (x : Int)) = false := by simp
          clear hxy
          go_wp2_with fail
          go_quiet (fail)
          go_wp2
          go_roundg (n - (i + 1))
          case measure => omega
          case rel => exact ⟨i + 1, q + nq, by omega, by omega, by go_num, rfl, JN⟩
        · have HE : Hid (r = false) := Lib.hid (HR.out.trans (decide_eq_false (fun e => hxy (by rw [e]))))
          have hx : (a.getD i 0 != b.getD i 0) = true := by simpa using hxy
          generalize a.getD i 0 = x at g1 hx
          generalize b.getD i 0 = y at g2 hx
          clear hxy
          go_wp2_with fail
          go_quiet (fail)
          go_wp2
          go_ret
          rw [HE.out]
          exact ⟨rfl, q + nq, World.drewN_drewN _ _ _⟩
      · have : i = n := by omega
        subst this
        have HE : Hid (r = true) := Lib.hid (HR.out.trans (decide_eq_true (ext_getD HL.out.1 HL.out.2 J.out)))
        go_wp2
        go_ret
        rw [HE.out]
        exact ⟨rfl, q, rfl⟩
  · have ht : ((n : Int) != (m : Int)) = true := by simp only [bne_iff_ne, ne_eq]; omega
    have HD : Hid (decide (a = b) = false) := Lib.hid (decide_eq_false (fun e => hnm (by rw [← HL.out.1, ← HL.out.2, e])))
    rw [HD.out]
    go_enter Tryz.func27, Tryz.ntmps27
    go_wp2
    go_ret
    exact ⟨rfl, 0, rfl⟩
theorem refInts14_b (A A' : Option Addr) (n c m c' : Nat) (a b : List Int) (w : World) (ha : Sl w (.slice A n c) n 1 (intC a)) (hb : Sl w (.slice A' m c') m 1 (intC b)) (hn : n ≤ 100000000) (hm : m ≤ 100000000) :
    Calls Tryz.prog 27 #[.slice A n c, .slice A' m c'] w fun e w' => e = .returned (.bool (decide (a = b))) ∧ Below w.heap.size w w' :=
  (refInts14_any A A' n c m c' a b w ha hb hn hm).mono fun _ _ ⟨h1, q, h2⟩ => ⟨h1, by rw [h2]; exact below_drewN (Below.refl _ _) q⟩
def SW (w : World) (a b : RuV) (v1 v2 v3 v4 u1 u2 u3 u4 : Value) : World := (w.alloc (.cells (ruA a v1 v2 v3 v4) 27)).alloc (.cells (ruA b u1 u2 u3 u4) 27)
theorem SW.all {w : World} {a b : RuV} {v1 v2 v3 v4 u1 u2 u3 u4 : Value} (ha : RuS w a v1 v2 v3 v4) (hb : RuS w b u1 u2 u3 u4) : RVar (SW w a b v1 v2 v3 v4 u1 u2 u3 u4) w.heap.size a v1 v2 v3 v4 ∧ RVar (SW w a b v1 v2 v3 v4 u1 u2 u3 u4) (w.heap.size + 1) b u1 u2 u3 u4 ∧ RuS (SW w a b v1 v2 v3 v4 u1 u2 u3 u4) a v1 v2 v3 v4 ∧ RuS (SW w a b v1 v2 v3 v4 u1 u2 u3 u4) b u1 u2 u3 u4 ∧ Below w.heap.size w (SW w a b v1 v2 v3 v4 u1 u2 u3 u4) := by
  have h1 := (Below.refl w.heap.size w).alloc (Nat.le_refl _) (.cells (ruA a v1 v2 v3 v4) 27)
  have hx := (Below.refl _ (w.alloc (.cells (ruA a v1 v2 v3 v4) 27))).alloc (Nat.le_refl _) (.cells (ruA b u1 u2 u3 u4) 27)
  have h2 := bstep h1 hx
  refine ⟨RVar.step (RVar.new w a v1 v2 v3 v4) hx, ?_, ha.step h2, hb.step h2, h2⟩
  have := RVar.new (w.alloc (.cells (ruA a v1 v2 v3 v4) 27)) b u1 u2 u3 u4
  have e : (w.alloc (.cells (ruA a v1 v2 v3 v4) 27)).heap.size = w.heap.size + 1 := by simp
  rw [e] at this
  exact this
set_option maxRecDepth 100000 in
set_option maxHeartbeats 8000000 in
theorem refSame14_any (a b : RuV) (v1 v2 v3 v4 u1 u2 u3 u4 : Value) (w : World) (ha : RuS w a v1 v2 v3 v4) (hb : RuS w b u1 u2 u3 u4) :
    Calls Tryz.prog 9 #[ruV a v1 v2 v3 v4, ruV b u1 u2 u3 u4] w fun e w' => e = .returned (.bool (decide (a = b))) ∧ Below w.heap.size w w' := by
  obtain ⟨a1, c1, rfl⟩ := ha.s1.lit
  obtain ⟨a2, c2, rfl⟩ := ha.s2.lit
  obtain ⟨a3, c3, rfl⟩ := ha.s3.lit
  obtain ⟨a4, c4, rfl⟩ := ha.s4.lit
  obtain ⟨b1, d1, rfl⟩ := hb.s1.lit
  obtain ⟨b2, d2, rfl⟩ := hb.s2.lit
  obtain ⟨b3, d3, rfl⟩ := hb.s3.lit
  obtain ⟨b4, d4, rfl⟩ := hb.s4.lit
  have HALL := Lib.hid (SW.all ha hb)
  clear ha hb
  obtain ⟨rr, hrr⟩ : ∃ rr, decide (a = b) = rr := ⟨_, rfl⟩
  rw [hrr]
  have HR := Lib.hid hrr
  clear hrr
  go_enter Tryz.func9, Tryz.ntmps9
  go_upto_region 1 with fail
  change Code.wp _ _ _ _ (SW w a b (.slice a1 a.mon.length c1) (.slice a2 a.md.length c2) (.slice a3 a.dys.length c3) (.slice a4 a.pos.length c4) (.slice b1 b.mon.length d1) (.slice b2 b.md.length d2) (.slice b3 b.dys.length d3) (.slice b4 b.pos.length d4))
  generalize SW w a b (.slice a1 a.mon.length c1) (.slice a2 a.md.length c2) (.slice a3 a.dys.length c3) (.slice a4 a.pos.length c4) (.slice b1 b.mon.length d1) (.slice b2 b.md.length d2) (.slice b3 b.dys.length d3) (.slice b4 b.pos.length d4) = w1 at HALL ⊢
  obtain ⟨x0, x1, x2, x3, x4, x5, x6, x7, x8, x9, x10, x11⟩ := HALL.out.1.cells
  obtain ⟨y0, y1, y2, y3, y4, y5, y6, y7, y8, y9, y10, y11⟩ := HALL.out.2.1.cells
  generalize ruV a (.slice a1 a.mon.length c1) (.slice a2 a.md.length c2) (.slice a3 a.dys.length c3) (.slice a4 a.pos.length c4) = VA
  generalize ruV b (.slice b1 b.mon.length d1) (.slice b2 b.md.length d2) (.slice b3 b.dys.length d3) (.slice b4 b.pos.length d4) = VB
  obtain ⟨f, i, c, hs, ⟨us, uu, ud⟩, mo, md, dy, po, wk⟩ := a
  obtain ⟨f2, i2, c2', hs2, ⟨us2, uu2, ud2⟩, mo2, md2, dy2, po2, wk2⟩ := b
  simp only at x0 x1 x2 x3 x4 x5 x6 x7 x8 x9 x10 x11 y0 y1 y2 y3 y4 y5 y6 y7 y8 y9 y10 y11
  have HB := Lib.hid HALL.out.2.2.2.2
  by_cases h1 : f = f2
  rotate_left
  · have E : Hid (rr = false) := Lib.hid (HR.out.symm.trans (decide_eq_false (fun e => h1 (by injection e))))
    have hb1 : (f != f2) = true := by rw [bne_iff_ne]; exact h1
    clear h1
    go_wp2
    go_ret
    exact ⟨by rw [E.out]; rfl, HB.out⟩
  subst h1
  have t1 : (f != f) = false := by simp
  by_cases h2 : i = i2
  rotate_left
  · have E : Hid (rr = false) := Lib.hid (HR.out.symm.trans (decide_eq_false (fun e => h2 (by injection e))))
    have hb2 : (i != i2) = true := by rw [bne_iff_ne]; exact h2
    clear h2
    go_wp2
    go_ret
    exact ⟨by rw [E.out]; rfl, HB.out⟩
  subst h2
  have t2 : (i != i) = false := by simp
  by_cases h3 : c = c2'
  rotate_left
  · have E : Hid (rr = false) := Lib.hid (HR.out.symm.trans (decide_eq_false (fun e => h3 (by injection e))))
    have hb3 : (c != c2') = true := by rw [bne_iff_ne]; exact h3
    clear h3
    go_wp2
    go_ret
    exact ⟨by rw [E.out]; rfl, HB.out⟩
  subst h3
  have t3 : (c != c) = false := by simp
  by_cases h4 : hs = hs2
  rotate_left
  · have E : Hid (rr = false) := Lib.hid (HR.out.symm.trans (decide_eq_false (fun e => h4 (by injection e))))
    cases hs <;> cases hs2 <;> first
      | exact absurd rfl h4
      | (clear h4
         go_wp2
         go_ret
         exact ⟨by rw [E.out]; rfl, HB.out⟩)
  subst h4
  have t4 : (hs != hs) = false := by simp
  by_cases h5 : us = us2 ∧ uu = uu2 ∧ ud = ud2
  rotate_left
  · have E : Hid (rr = false) := Lib.hid (HR.out.symm.trans (decide_eq_false (fun e => h5 (by injection e with _ _ _ _ e5; injection e5 with p q r; exact ⟨p, q, r⟩))))
    have hc : (¬ us = us2) ∨ (us = us2 ∧ uu ≠ uu2) ∨ (us = us2 ∧ uu = uu2 ∧ ud ≠ ud2) := by
      by_cases e1 : us = us2
      · by_cases e2 : uu = uu2
        · exact .inr (.inr ⟨e1, e2, fun e3 => h5 ⟨e1, e2, e3⟩⟩)
        · exact .inr (.inl ⟨e1, e2⟩)
      · exact .inl e1
    clear h5
    rcases hc with e1 | ⟨rfl, e2⟩ | ⟨rfl, rfl, e3⟩
    · have hb5 : (us == us2) = false := by rw [beq_eq_false_iff_ne]; exact e1
      go_wp2
      go_ret
      exact ⟨by rw [E.out]; rfl, HB.out⟩
    · cases uu <;> cases uu2 <;> first
        | exact absurd rfl e2
        | (clear e2
           go_wp2
           go_ret
           exact ⟨by rw [E.out]; rfl, HB.out⟩)
    · cases ud <;> cases ud2 <;> first
        | exact absurd rfl e3
        | (clear e3
           go_wp2
           go_ret
           exact ⟨by rw [E.out]; rfl, HB.out⟩)
  obtain ⟨rfl, rfl, rfl⟩ := h5
  by_cases h6 : wk = wk2
  rotate_left
  · have E : Hid (rr = false) := Lib.hid (HR.out.symm.trans (decide_eq_false (fun e => h6 (by injection e))))
    have hb6 : (wk != wk2) = true := by rw [bne_iff_ne]; exact h6
    clear h6
    go_wp2
    go_ret
    exact ⟨by rw [E.out]; rfl, HB.out⟩
  subst h6
  have t6 : (wk != wk) = false := by simp
  have hl1 := HALL.out.2.2.1.s3.1
  have hl2 := HALL.out.2.2.2.1.s3.1
  obtain ⟨n, hn⟩ : ∃ n, dy.length = n := ⟨_, rfl⟩
  obtain ⟨n2, hn2⟩ : ∃ n2, dy2.length = n2 := ⟨_, rfl⟩
  have HN := Lib.hid (And.intro hn hn2)
  have hnn : n ≤ 100000000 := by rw [← hn]; exact HALL.out.2.2.1.l3
  have HS1 := Lib.hid HALL.out.2.2.1
  have HS2 := Lib.hid HALL.out.2.2.2.1
  have HD1 := Lib.hid HALL.out.2.2.1.s3
  have HD2 := Lib.hid HALL.out.2.2.2.1.s3
  simp only [hn] at HD1 x9
  simp only [hn2] at HD2 y9
  have HVa := Lib.hid HALL.out.1
  have HVb := Lib.hid HALL.out.2.1
  clear hl1 hl2 HALL hn hn2
  by_cases h7 : n = n2
  rotate_left
  · have E : Hid (rr = false) := Lib.hid (HR.out.symm.trans (decide_eq_false (fun e => h7 (by injection e with _ _ _ _ _ _ _ e8; rw [← HN.out.1, ← HN.out.2, e8]))))
    have hb7 : ((n : Int) != (n2 : Int)) = true := by simp only [bne_iff_ne, ne_eq]; omega
    clear h7
    go_wp2
    go_ret
    exact ⟨by rw [E.out]; rfl, HB.out⟩
  subst h7
  have t7 : ((n : Int) != (n : Int)) = false := by simp
  go_wp2
  go_loopg [5] n (fun g s5 wr => ∃ i q : Nat, i ≤ n ∧ n - i ≤ g ∧ s5 = .int .i64 i ∧ w1.drewN q = wr ∧ Hid (∀ k, k < i → dy.getD k (0, 0) = dy2.getD k (0, 0)))
  case atStart => exact ⟨0, 0, Nat.zero_le _, by omega, rfl, rfl, Lib.hid fun k hk => absurd hk (Nat.not_lt_zero _)⟩
  case round =>
    obtain ⟨i1, q, hi, hg, rfl, rfl, J⟩ := hrel
    by_cases hlt : i1 < n
    · have hin : (i1 : Int) < (n : Int) := by omega
      obtain ⟨z1, o1, rfl, g0, g1⟩ := HD1.out.wd hlt
      obtain ⟨z2, o2, rfl, p0, p1⟩ := HD2.out.wd hlt
      by_cases hxy : dy.getD i1 (0, 0) = dy2.getD i1 (0, 0)
      · have JN : Hid (∀ k, k < i1 + 1 → dy.getD k (0, 0) = dy2.getD k (0, 0)) := Lib.hid fun k hk => by
          by_cases e : k = i1
          · rw [e]; exact hxy
          · exact J.out k (by omega)
        rw [← hxy] at p0 p1
        generalize (dy.getD i1 (0, 0)).1 = x at g0 p0
        generalize (dy.getD i1 (0, 0)).2 = y at g1 p1
        clear hxy
        go_wp2_with fail
        go_quiet (fail)
        go_wp2
        go_roundg (n - (i1 + 1))
        case measure => omega
        case rel => exact ⟨i1 + 1, q + nq, by omega, by omega, by go_num, rfl, JN⟩
      · have E : Hid (rr = false) := Lib.hid (HR.out.symm.trans (decide_eq_false (fun e => hxy (by injection e with _ _ _ _ _ _ _ e8; rw [e8]))))
        have hc : ((dy.getD i1 (0, 0)).1 ≠ (dy2.getD i1 (0, 0)).1) ∨ ((dy.getD i1 (0, 0)).1 = (dy2.getD i1 (0, 0)).1 ∧ (dy.getD i1 (0, 0)).2 ≠ (dy2.getD i1 (0, 0)).2) := by
          by_cases e1 : (dy.getD i1 (0, 0)).1 = (dy2.getD i1 (0, 0)).1
          · exact .inr ⟨e1, fun e2 => hxy (Prod.ext e1 e2)⟩
          · exact .inl e1
        clear hxy
        generalize (dy.getD i1 (0, 0)).1 = x at g0 hc
        generalize (dy.getD i1 (0, 0)).2 = y at g1 hc
        generalize (dy2.getD i1 (0, 0)).1 = x2' at p0 hc
        generalize (dy2.getD i1 (0, 0)).2 = y2' at p1 hc
        rcases hc with e1 | ⟨rfl, e2⟩
        · have hb8 : (x == x2') = false := by rw [beq_eq_false_iff_ne]; exact e1
          go_wp2_with fail
          go_quiet (fail)
          go_wp2
          go_ret
          exact ⟨by rw [E.out]; rfl, below_drewN (below_drewN HB.out _) _⟩
        · have hb8 : (y == y2') = false := by rw [beq_eq_false_iff_ne]; exact e2
          go_wp2_with fail
          go_quiet (fail)
          go_wp2
          go_ret
          exact ⟨by rw [E.out]; rfl, below_drewN (below_drewN HB.out _) _⟩
    · obtain rfl : i1 = n := by omega
      have HDY : Hid (dy = dy2) := Lib.hid (ext_getD HN.out.1 HN.out.2 J.out)
      have q1 := fun (W : World) (hb : Below w1.heap.size w1 W) => refInts14_b a1 b1 mo.length c1 mo2.length d1 mo mo2 W (HS1.out.s1.step hb) (HS2.out.s1.step hb) HS1.out.l1 HS2.out.l1
      have q2 := fun (W : World) (hb : Below w1.heap.size w1 W) => refInts14_b a2 b2 md.length c2 md2.length d2 md md2 W (HS1.out.s2.step hb) (HS2.out.s2.step hb) HS1.out.l2 HS2.out.l2
      have q3 := fun (W : World) (hb : Below w1.heap.size w1 W) => refInts14_b a4 b4 po.length c4 po2.length d4 po po2 W (HS1.out.s4.step hb) (HS2.out.s4.step hb) HS1.out.l4 HS2.out.l4
      have HBQ := Lib.hid (below_drewN (Below.refl w1.heap.size w1) q)
      by_cases m1 : mo = mo2
      · have e1 : decide (mo = mo2) = true := decide_eq_true m1
        simp only [e1] at q1
        by_cases m2 : md = md2
        · have e2 : decide (md = md2) = true := decide_eq_true m2
          simp only [e2] at q2
          have E : Hid (rr = decide (po = po2)) := Lib.hid (HR.out.symm.trans (by rw [decide_eq_decide]; exact ⟨fun e => by injection e, fun e => by rw [m1, m2, HDY.out, e]⟩))
          clear m1 m2 e1 e2
          generalize decide (po = po2) = p3 at q3 E
          go_wp2_with (first
            | (go_at_call 27; (with_reducible refine (q1 _ HBQ.out).mono ?_); rintro e w21 ⟨rfl, hb1⟩; clear q1; have HBR := Lib.hid (bstep HBQ.out hb1); clear hb1; obtain ⟨_, _, _, _, _, _, _, _, s8, _, s10, _⟩ := (HVa.out.step HBR.out).cells; obtain ⟨_, _, _, _, _, _, _, _, r8, _, r10, _⟩ := (HVb.out.step HBR.out).cells)
            | (go_at_call 27; (with_reducible refine (q2 _ HBR.out).mono ?_); rintro e w22 ⟨rfl, hb2⟩; clear q2; have HBS := Lib.hid (bstep HBR.out hb2); clear hb2; obtain ⟨_, _, _, _, _, _, _, _, _, _, q10, _⟩ := (HVa.out.step HBS.out).cells; obtain ⟨_, _, _, _, _, _, _, _, _, _, p10, _⟩ := (HVb.out.step HBS.out).cells)
            | (go_at_call 27; (with_reducible refine (q3 _ HBS.out).mono ?_); rintro e w23 ⟨rfl, hb3⟩; clear q3; have HBT := Lib.hid (bstep HBS.out hb3); clear hb3))
          go_ret
          exact ⟨by rw [E.out]; rfl, HB.out.trans (HBT.out.mono HB.out.size)⟩
        · have e2 : decide (md = md2) = false := decide_eq_false m2
          simp only [e2] at q2
          have E : Hid (rr = false) := Lib.hid (HR.out.symm.trans (decide_eq_false (fun e => m2 (by injection e))))
          clear m1 m2 e1 e2 q3
          go_wp2_with (first
            | (go_at_call 27; (with_reducible refine (q1 _ HBQ.out).mono ?_); rintro e w21 ⟨rfl, hb1⟩; clear q1; have HBR := Lib.hid (bstep HBQ.out hb1); clear hb1; obtain ⟨_, _, _, _, _, _, _, _, s8, _, s10, _⟩ := (HVa.out.step HBR.out).cells; obtain ⟨_, _, _, _, _, _, _, _, r8, _, r10, _⟩ := (HVb.out.step HBR.out).cells)
            | (go_at_call 27; (with_reducible refine (q2 _ HBR.out).mono ?_); rintro e w22 ⟨rfl, hb2⟩; clear q2; have HBS := Lib.hid (bstep HBR.out hb2); clear hb2; obtain ⟨_, _, _, _, _, _, _, _, _, _, q10, _⟩ := (HVa.out.step HBS.out).cells; obtain ⟨_, _, _, _, _, _, _, _, _, _, p10, _⟩ := (HVb.out.step HBS.out).cells))
          go_ret
          exact ⟨by rw [E.out]; rfl, HB.out.trans (HBS.out.mono HB.out.size)⟩
      · have e1 : decide (mo = mo2) = false := decide_eq_false m1
        simp only [e1] at q1
        have E : Hid (rr = false) := Lib.hid (HR.out.symm.trans (decide_eq_false (fun e => m1 (by injection e))))
        clear m1 e1 q2 q3
        go_wp2_with (go_at_call 27; (with_reducible refine (q1 _ HBQ.out).mono ?_); rintro e w21 ⟨rfl, hb1⟩; clear q1; have HBR := Lib.hid (bstep HBQ.out hb1); clear hb1; obtain ⟨_, _, _, _, _, _, _, _, s8, _, s10, _⟩ := (HVa.out.step HBR.out).cells; obtain ⟨_, _, _, _, _, _, _, _, r8, _, r10, _⟩ := (HVb.out.step HBR.out).cells)
        go_ret
        exact ⟨by rw [E.out]; rfl, HB.out.trans (HBR.out.mono HB.out.size)⟩
end Go.Proofs.YtnidkcedomhofaaGreatDoor
