/-
  Same, of the program and of the document: whether two devices are one, field by field: for all devices.
-/
import Derived.Test.YtlpijikhbjkmfaaG02
import Derived.LoopTactic
namespace Go.Proofs.Ytlpijikhbjkmfaa
open Go.RowKit

theorem drawn_below {B : Nat} (w : World) (n : Nat) : Below B w (w.drewN n) := ⟨rfl, rfl, rfl, Nat.le_refl _, fun _ _ => rfl⟩
theorem sameD_no1 {d d2 : D} (h : d.bs ≠ d2.bs) : decide (d = d2) = false := decide_eq_false fun e => h (by rw [e])
theorem sameD_no2 {d d2 : D} (h : d.cs ≠ d2.cs) : decide (d = d2) = false := decide_eq_false fun e => h (by rw [e])
theorem sameD_no3 {d d2 : D} (h : d.left ≠ d2.left) : decide (d = d2) = false := decide_eq_false fun e => h (by rw [e])
theorem sameD_no4 {d d2 : D} (h : d.dead ≠ d2.dead) : decide (d = d2) = false := decide_eq_false fun e => h (by rw [e])
theorem sameD_yes {d d2 : D} (h1 : d.bs = d2.bs) (h2 : d.cs = d2.cs) (h3 : d.left = d2.left) (h4 : d.dead = d2.dead) : decide (d = d2) = true := by
  obtain ⟨a, b, c, e⟩ := d
  obtain ⟨a2, b2, c2, e2⟩ := d2
  exact decide_eq_true (by cases h1; cases h2; cases h3; cases h4; rfl)

set_option maxRecDepth 100000 in
set_option maxHeartbeats 2000000 in
theorem refSame_any (A A' : Option Addr) (n c m c' : Nat) (d : D) (E E' : Option Addr) (n2 f m2 f' : Nat) (d2 : D) (w : World) (h : Dv w w.heap.size A n A' m d) (h2 : Dv w w.heap.size E n2 E' m2 d2) :
    Calls Try.prog 9 #[.agg #[.slice A n c, .slice A' m c', .int .i64 d.left, .bool d.dead], .agg #[.slice E n2 f, .slice E' m2 f', .int .i64 d2.left, .bool d2.dead]] w fun e w' => e = .returned (.bool (decide (d = d2))) ∧ Below w.heap.size w w' := by
  have l1 : n ≤ 9223372036854775807 := by have := h.hn; omega
  have l3 : m ≤ 9223372036854775807 := by have := h.hm; omega
  have lb := h.bs.lenS
  have lc := h.cs.lenW
  have lb2 := h2.bs.lenS
  have lc2 := h2.cs.lenW
  have hB0 : ∀ o o' q, Below w.heap.size w (((w.alloc o).alloc o').drewN q) := fun o o' q => (((Below.refl _ w).alloc (Nat.le_refl _) _).alloc (by simp) _).trans (drawn_below _ q)
  have HB := Lib.hid hB0; clear hB0
  by_cases e1 : n = n2
  case neg =>
    have t1 : ((n : Int) != (n2 : Int)) = true := by simp; omega
    have R := Lib.hid (sameD_no1 (d := d) (d2 := d2) (fun e => e1 (by rw [← lb, ← lb2, e])))
    clear e1 lb lc lb2 lc2 h h2
    go_enter Try.func9, Try.ntmps9
    go_wp2
    go_ret
    exact ⟨by first | rfl | (rw [R.out]; rfl), HB.out _ _ 0⟩
  by_cases e2 : m = m2
  case neg =>
    have t1 : ((n : Int) != (n2 : Int)) = false := by simp; omega
    have t2 : ((m : Int) != (m2 : Int)) = true := by simp; omega
    have R := Lib.hid (sameD_no2 (d := d) (d2 := d2) (fun e => e2 (by rw [← lc, ← lc2, e])))
    clear e1 e2 lb lc lb2 lc2 h h2
    go_enter Try.func9, Try.ntmps9
    go_wp2
    go_ret
    exact ⟨by first | rfl | (rw [R.out]; rfl), HB.out _ _ 0⟩
  subst e1
  subst e2
  by_cases h3 : d.left = d2.left
  case neg =>
    have t3 : (d.left != d2.left) = true := by simpa using h3
    have R := Lib.hid (sameD_no3 h3)
    clear h3 lb lc lb2 lc2 h h2
    go_enter Try.func9, Try.ntmps9
    go_wp2
    go_ret
    exact ⟨by first | rfl | (rw [R.out]; rfl), HB.out _ _ 0⟩
  have t3 : (d.left != d2.left) = false := by simpa using h3
  have H3 := Lib.hid h3; clear h3
  by_cases h4 : d.dead = d2.dead
  case neg =>
    have t4 : (d.dead == d2.dead) = false := by rw [beq_eq_false_iff_ne]; exact h4
    have R := Lib.hid (sameD_no4 h4)
    clear h4 lb lc lb2 lc2 h h2
    go_enter Try.func9, Try.ntmps9
    go_wp2
    go_ret
    exact ⟨by first | rfl | (rw [R.out]; rfl), HB.out _ _ 0⟩
  have t4 : (d.dead == d2.dead) = true := by simpa using h4
  have H4 := Lib.hid h4; clear h4
  have HH := Lib.hid (And.intro ((h.alloc (.cells #[.slice A n c, .slice A' m c', .int .i64 d.left, .bool d.dead] 25)).alloc (.cells #[.slice E n f, .slice E' m f', .int .i64 d2.left, .bool d2.dead] 25)) ((h2.alloc (.cells #[.slice A n c, .slice A' m c', .int .i64 d.left, .bool d.dead] 25)).alloc (.cells #[.slice E n f, .slice E' m f', .int .i64 d2.left, .bool d2.dead] 25)))
  have LL := Lib.hid (And.intro lb (And.intro lb2 (And.intro lc lc2)))
  clear h h2 lb lb2 lc lc2
  go_enter Try.func9, Try.ntmps9
  go_wp2
  go_loopg [5] n (fun g s5 wr => ∃ k q : Nat, k ≤ n ∧ n - k ≤ g ∧ s5 = .int .i64 k ∧ wr = (((w.alloc (.cells #[.slice A n c, .slice A' m c', .int .i64 d.left, .bool d.dead] 25)).alloc (.cells #[.slice E n f, .slice E' m f', .int .i64 d2.left, .bool d2.dead] 25))).drewN q ∧ Hid (∀ j, j < k → blk d.bs j = blk d2.bs j))
  case atStart => exact ⟨0, 0, Nat.zero_le _, by omega, rfl, rfl, Lib.hid fun j hj => absurd hj (Nat.not_lt_zero _)⟩
  case round =>
    obtain ⟨k, q, hk, hg, rfl, rfl, H⟩ := hrel
    by_cases hlt : k < n
    · obtain ⟨b1, o1, rfl, _, g1⟩ := HH.out.1.bs.str hlt
      obtain ⟨b2, o2, rfl, _, g2⟩ := HH.out.2.bs.str hlt
      generalize hxk : blk d.bs k = x at g1
      generalize hyk : blk d2.bs k = y at g2
      have Bk : Hid (blk d.bs k = x ∧ blk d2.bs k = y) := Lib.hid ⟨hxk, hyk⟩
      clear hxk hyk
      have hk1 : (k : Int) < (n : Int) := by omega
      by_cases hxy : x = y
      · have ht := bytes_same hxy
        have HXY := Lib.hid hxy; clear hxy
        go_wp2_with fail
        go_quiet (fail)
        go_wp2
        go_roundg (n - (k + 1))
        case measure => omega
        case rel =>
          refine ⟨k + 1, q + nq, by omega, by omega, by go_num, rfl, Lib.hid fun j hj => ?_⟩
          by_cases e : j = k
          · subst e
            rw [Bk.out.1, Bk.out.2]; exact HXY.out
          · exact H.out j (by omega)
      · have ht := bytes_other hxy
        have R := Lib.hid (sameD_no1 (d := d) (d2 := d2) (ne_of_blk (k := k) (by rw [Bk.out.1, Bk.out.2]; exact hxy)))
        clear hxy
        go_wp2_with fail
        go_quiet (fail)
        go_wp2
        go_ret
        exact ⟨by first | rfl | (rw [R.out]; rfl), (HB.out _ _ q).trans (drawn_below _ nq)⟩
    · have : k = n := by omega
      subst this
      have H1 : Hid (d.bs = d2.bs) := Lib.hid (eq_of_blk (by rw [LL.out.1, LL.out.2.1]) fun j hj => H.out j (by rw [LL.out.1] at hj; exact hj))
      clear H hg hk
      go_wp2
      go_loopg [6] m (fun g s6 wr => ∃ i q2 : Nat, i ≤ m ∧ m - i ≤ g ∧ s6 = .int .i64 i ∧ wr = (((w.alloc (.cells #[.slice A k c, .slice A' m c', .int .i64 d.left, .bool d.dead] 25)).alloc (.cells #[.slice E k f, .slice E' m f', .int .i64 d2.left, .bool d2.dead] 25))).drewN q2 ∧ Hid (∀ j, j < i → wAt d.cs j = wAt d2.cs j ∧ wDat d.cs j = wDat d2.cs j))
      case atStart => exact ⟨0, q, Nat.zero_le _, by omega, rfl, rfl, Lib.hid fun j hj => absurd hj (Nat.not_lt_zero _)⟩
      case round =>
        obtain ⟨i, q2, hi, hg, rfl, rfl, H⟩ := hrel
        by_cases hlt : i < m
        · obtain ⟨b1, o1, rfl, _, g1, f1⟩ := HH.out.1.cs.wr hlt
          obtain ⟨b2, o2, rfl, _, g2, f2⟩ := HH.out.2.cs.wr hlt
          generalize hxk : wAt d.cs i = x at g1
          generalize hyk : wAt d2.cs i = y at g2
          generalize hsk : wDat d.cs i = s at f1
          generalize htk : wDat d2.cs i = t at f2
          have Bk : Hid (wAt d.cs i = x ∧ wAt d2.cs i = y ∧ wDat d.cs i = s ∧ wDat d2.cs i = t) := Lib.hid ⟨hxk, hyk, hsk, htk⟩
          clear hxk hyk hsk htk
          have hgd := fun op a b W => run_eqGuard_agg (P := Try.prog) W op 53 a b #[.int .i64 x, .string s] #[.int .i64 y, .string t] (by kernel_rfl)
          have hk1 : (i : Int) < (m : Int) := by omega
          by_cases hxy : x = y ∧ s = t
          · have ht := neqW_same hxy
            have HXY := Lib.hid hxy; clear hxy
            go_wp2_with fail
            go_quiet (fail)
            go_wp2
            go_roundg (m - (i + 1))
            case measure => omega
            case rel =>
              refine ⟨i + 1, q2 + nq, by omega, by omega, by go_num, rfl, Lib.hid fun j hj => ?_⟩
              by_cases e : j = i
              · subst e
                rw [Bk.out.1, Bk.out.2.1, Bk.out.2.2.1, Bk.out.2.2.2]; exact HXY.out
              · exact H.out j (by omega)
          · have ht := neqW_other hxy
            have R := Lib.hid (sameD_no2 (d := d) (d2 := d2) (ne_of_wr (k := i) (by rw [Bk.out.1, Bk.out.2.1, Bk.out.2.2.1, Bk.out.2.2.2]; exact hxy)))
            clear hxy
            go_wp2_with fail
            go_quiet (fail)
            go_wp2
            go_ret
            exact ⟨by first | rfl | (rw [R.out]; rfl), (HB.out _ _ q2).trans (drawn_below _ nq)⟩
        · have : i = m := by omega
          subst this
          have R := Lib.hid (sameD_yes H1.out (eq_of_wr (by rw [LL.out.2.2.1, LL.out.2.2.2]) fun j hj => H.out j (by rw [LL.out.2.2.1] at hj; exact hj)) H3.out H4.out)
          clear H hg hi
          go_wp2
          go_ret
          exact ⟨by first | rfl | (rw [R.out]; rfl), HB.out _ _ q2⟩

end Go.Proofs.Ytlpijikhbjkmfaa
