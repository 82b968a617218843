/-
  RuleReads: what a rule's text says, or why it is none, is the document's.
-/
import Derived.Test.YtnidkcedomhofaaGreatDoorG39
import Derived.Test.YtnidkcedomhofaaGreatDoorG50
namespace Go.Proofs.YtnidkcedomhofaaGreatDoor
open Go.RowKit

theorem run_rg : ∀ (ps : List (List UInt8)) (r : RuV) (sn : List (List UInt8)) (e : Int), runV r sn ps = .error e → 0 ≤ e ∧ e ≤ 100
  | [], r, seen, e, h => by cases h
  | p :: ps, r, seen, e, h => by
    rw [runV] at h
    cases hx : stepV r seen p with
    | error e2 =>
      rw [hx] at h
      injection h with h
      subst h
      unfold stepV at hx
      split at hx
      · injection hx with hx; omega
      · split at hx
        · injection hx with hx; omega
        · split at hx
          · injection hx with hx; omega
          · split at hx
            · injection hx with hx; omega
            · split at hx
              · injection hx with hx; omega
              · split at hx
                · injection hx with hx; omega
                · cases hx
    | ok q => rw [hx] at h; exact run_rg ps q.1 q.2 e h
theorem parV_rg (s : List UInt8) : 0 ≤ (parV s).2 ∧ (parV s).2 ≤ 100 := by
  unfold parV
  cases h : runV RuV.init [] (splitC 59 [] (upL s)) with
  | error e => exact run_rg _ _ _ _ h
  | ok x =>
    unfold endV
    simp only
    split
    · exact ⟨by simp only; omega, by simp only; omega⟩
    · split
      · exact ⟨by simp only; omega, by simp only; omega⟩
      · exact ⟨by simp only; omega, by simp only; omega⟩
set_option maxRecDepth 100000 in
set_option maxHeartbeats 8000000 in
theorem reads14_any (s : ByteArray) (hs : s.size ≤ 1048576) (w : World) (hv : VV w) : Calls Tryz.prog 3 #[.string s] w fun e w' => e = .returned (.bool true) ∧ Below w.heap.size w w' := by
  have c1 := pParse14_any s hs w hv
  have c2 := fun W => refParse14_any s hs W
  have hrg := parV_rg s.data.toList
  unfold RuAns at c1 c2
  obtain ⟨q, hq⟩ : ∃ q, (parV s.data.toList).1 = q := ⟨_, rfl⟩
  obtain ⟨k, hk⟩ : ∃ k, (parV s.data.toList).2 = k := ⟨_, rfl⟩
  simp only [hq, hk] at c1 c2 hrg
  clear hq hk
  have cs := fun W v1 v2 v3 v4 u1 u2 u3 u4 (h1 : RuS W q v1 v2 v3 v4) (h2 : RuS W q u1 u2 u3 u4) => refSame14_any q q v1 v2 v3 v4 u1 u2 u3 u4 W h1 h2
  simp only [decide_true] at cs
  unfold ruV at c1 c2 cs
  have H0 := Lib.hid (And.intro (Below.refl w.heap.size w) hv)
  clear hv
  go_enter Tryz.func3, Tryz.ntmps3
  go_wp2_with (first
    | (go_at_call 7; (with_reducible refine c1.mono ?_); rintro e w3 ⟨u1, u2, u3, u4, rfl, hs3, hb3⟩; clear c1
       obtain ⟨a11, e11, rfl⟩ := hs3.s1.lit
       obtain ⟨a12, e12, rfl⟩ := hs3.s2.lit
       obtain ⟨a13, e13, rfl⟩ := hs3.s3.lit
       obtain ⟨a14, e14, rfl⟩ := hs3.s4.lit
       have N3 := Lib.hid (KA.new (bstep H0.out.1 hb3) (H0.out.2.step hb3) hs3)
       clear hs3 hb3)
    | (go_at_call 8; (with_reducible refine (c2 _).mono ?_); rintro e w5 ⟨u1, u2, u3, u4, rfl, hs5, hb5⟩; clear c2
       obtain ⟨a21, e21, rfl⟩ := hs5.s1.lit
       obtain ⟨a22, e22, rfl⟩ := hs5.s2.lit
       obtain ⟨a23, e23, rfl⟩ := hs5.s3.lit
       obtain ⟨a24, e24, rfl⟩ := hs5.s4.lit
       have N5 := N3.out.step hb5
       have M5 := Lib.hid (KA.new N5.bel N5.vv hs5)
       have N6 := Lib.hid (N5.step ((Below.refl w5.heap.size w5).alloc (Nat.le_refl _) (.cells #[.int .i64 q.freq, .int .i64 q.intv, .int .i64 q.cnt, .bool q.has, .int .i64 q.unt.secs, .bool q.unt.utc, .bool q.unt.date, .slice a21 q.mon.length e21, .slice a22 q.md.length e22, .slice a23 q.dys.length e23, .slice a24 q.pos.length e24, .int .i64 q.wk] 27)))
       clear hs5 hb5 N5 N3
       obtain ⟨x0, x1, x2, x3, x4, x5, x6, x7, x8, x9, x10, x11⟩ := N6.out.var.cells
       obtain ⟨y0, y1, y2, y3, y4, y5, y6, y7, y8, y9, y10, y11⟩ := M5.out.var.cells)
    | (go_at_call 9; (with_reducible refine (cs _ _ _ _ _ _ _ _ _ N6.out.rs M5.out.rs).mono ?_); rintro e w8 ⟨rfl, hb8⟩; clear cs x0 x1 x2 x3 x4 x5 x6 x7 x8 x9 x10 x11 y0 y1 y2 y3 y4 y5 y6 y7 y8 y9 y10 y11
       have N8 := Lib.hid (N6.out.step hb8)
       clear hb8 N6 M5)
    | (go_at_call 10; refine (awake14_any _ N8.out.vv).mono ?_; rintro e w9 ⟨rfl, hb9⟩; have B9 := Lib.hid (bstep N8.out.bel hb9); clear hb9))
  go_ret
  exact ⟨rfl, B9.out⟩
end Go.Proofs.YtnidkcedomhofaaGreatDoor
