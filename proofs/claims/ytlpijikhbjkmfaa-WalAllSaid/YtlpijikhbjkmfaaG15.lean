/-
  Fit, of the program and of the document: which devices can be: for all devices.
-/
import Derived.Test.YtlpijikhbjkmfaaG08
import Derived.Test.YtlpijikhbjkmfaaG06
namespace Go.Proofs.Ytlpijikhbjkmfaa
open Go.RowKit

theorem fit_head {d : D} (h : ¬ HeadP d) : fitD d = false := fitD_false fun e => h e.1
theorem fit_bs {d : D} {k : Nat} (hk : k < d.bs.length) (h : (blk d.bs k).size ≠ 128) : fitD d = false := fitD_false fun e => h (e.2.1 _ (List.mem_of_getElem? (blk_get hk)))
theorem fit_cs {d : D} {k : Nat} (hk : k < d.cs.length) (h : ¬ ((0 ≤ wAt d.cs k ∧ wAt d.cs k < (d.bs.length : Int)) ∧ (wDat d.cs k).size = 128)) : fitD d = false := fitD_false fun e => h (by
  have := e.2.2 _ (List.mem_of_getElem? (wr_get hk))
  exact ⟨⟨this.1, this.2.1⟩, this.2.2⟩)
theorem fit_all {d : D} (h0 : HeadP d) (h1 : ∀ j, j < d.bs.length → (blk d.bs j).size = 128) (h2 : ∀ j, j < d.cs.length → (0 ≤ wAt d.cs j ∧ wAt d.cs j < (d.bs.length : Int)) ∧ (wDat d.cs j).size = 128) : fitD d = true := by
  refine fitD_true ⟨h0, fun b hb => ?_, fun p hp => ?_⟩
  · obtain ⟨i, hi, e⟩ := List.mem_iff_getElem.1 hb
    have := h1 i hi
    have e2 := blk_get hi
    rw [List.getElem?_eq_getElem hi, e] at e2
    injection e2 with e2
    rw [e2]; exact this
  · obtain ⟨i, hi, e⟩ := List.mem_iff_getElem.1 hp
    have := h2 i hi
    have e2 := wr_get hi
    rw [List.getElem?_eq_getElem hi, e] at e2
    injection e2 with e2
    rw [e2]
    exact ⟨this.1.1, this.1.2, this.2⟩
theorem alloc_below (w : World) (o : Obj) : Below w.heap.size w (w.alloc o) := (Below.refl _ _).alloc (Nat.le_refl _) _

end Go.Proofs.Ytlpijikhbjkmfaa

/-
  The document's own Fit: which devices can be: for all devices.
-/
namespace Go.Proofs.Ytlpijikhbjkmfaa
open Go.RowKit

set_option maxRecDepth 100000 in
set_option maxHeartbeats 2000000 in
theorem refFit_any (A A' : Option Addr) (n c m c' : Nat) (d : D) (w : World) (h : Dv w w.heap.size A n A' m d) :
    Calls Try.prog 5 #[.agg #[.slice A n c, .slice A' m c', .int .i64 d.left, .bool d.dead]] w fun e w' => e = .returned (.bool (fitD d)) ∧ Below w.heap.size w w' := by
  have hn : n ≤ 9223372036854775807 := by have := h.hn; omega
  have hm : m ≤ 9223372036854775807 := by have := h.hm; omega
  have lb := h.bs.lenS
  have lc := h.cs.lenW
  by_cases e1 : n < 1
  case pos =>
    have R := Lib.hid (fit_head (d := d) (by unfold HeadP; omega))
    have t1 : decide ((n : Int) < 1) = true := by simp; omega
    clear e1 lb lc h hm
    go_enter Try.func5, Try.ntmps5
    go_wp2
    go_ret
    exact ⟨by first | rfl | (rw [R.out]; rfl), alloc_below _ _⟩
  have t1 : decide ((n : Int) < 1) = false := by simp; omega
  by_cases e2 : 1024 < n
  case pos =>
    have R := Lib.hid (fit_head (d := d) (by unfold HeadP; omega))
    have t2 : decide ((1024 : Int) < (n : Int)) = true := by simp; omega
    clear e1 e2 lb lc h hm
    go_enter Try.func5, Try.ntmps5
    go_wp2
    go_ret
    exact ⟨by first | rfl | (rw [R.out]; rfl), alloc_below _ _⟩
  have t2 : decide ((1024 : Int) < (n : Int)) = false := by simp; omega
  by_cases e3 : 4096 < m
  case pos =>
    have R := Lib.hid (fit_head (d := d) (by unfold HeadP; omega))
    have t3 : decide ((4096 : Int) < (m : Int)) = true := by simp; omega
    clear e1 e2 e3 lb lc h hm
    go_enter Try.func5, Try.ntmps5
    go_wp2
    go_ret
    exact ⟨by first | rfl | (rw [R.out]; rfl), alloc_below _ _⟩
  have t3 : decide ((4096 : Int) < (m : Int)) = false := by simp; omega
  by_cases e4 : d.left < -1
  case pos =>
    have R := Lib.hid (fit_head (d := d) (by unfold HeadP; omega))
    clear e1 e2 e3 lb lc h hm
    go_enter Try.func5, Try.ntmps5
    go_wp2
    go_ret
    exact ⟨by first | rfl | (rw [R.out]; rfl), alloc_below _ _⟩
  have t4 : decide (d.left < -1) = false := by simp; omega
  by_cases e5 : d.dead = true ∧ d.left ≠ 0
  case pos =>
    have R := Lib.hid (fit_head (d := d) (fun hh => e5.2 (hh.2.2.2.2 e5.1)))
    have t5 : (d.left != 0) = true := by simpa using e5.2
    have e6 := e5.1
    clear e1 e2 e3 e4 e5 lb lc h hm
    go_enter Try.func5, Try.ntmps5
    go_wp2
    go_ret
    exact ⟨by first | rfl | (rw [R.out]; rfl), alloc_below _ _⟩
  have HP : Hid (HeadP d) := Lib.hid ⟨by omega, by omega, by omega, by omega, fun hd => Classical.byContradiction fun hl => e5 ⟨hd, hl⟩⟩
  have LL := Lib.hid (And.intro lb lc)
  have HH := Lib.hid (h.alloc (.cells #[.slice A n c, .slice A' m c', .int .i64 d.left, .bool d.dead] 25))
  have E5 := Lib.hid e5
  clear lb lc h e1 e2 e3 e4 e5
  have key : d.dead = false ∨ (d.dead = true ∧ (d.left != 0) = false) := by
    cases hd : d.dead
    · exact .inl rfl
    · exact .inr ⟨rfl, by have := E5.out; simp [hd] at this; simpa using this⟩
  clear E5
  generalize d.dead = bd at HH key ⊢
  rcases key with rfl | ⟨rfl, t5⟩
  · have hB0 := alloc_below w (.cells #[.slice A n c, .slice A' m c', .int .i64 d.left, .bool false] 25)
    have K0 := Lib.hid (B4.new w (.slice A n c) (.slice A' m c') (.int .i64 d.left) (.bool false))
    have HB0 := Lib.hid hB0; clear hB0
    go_enter Try.func5, Try.ntmps5
    go_wp2
    go_loopg [3] n (fun g s3 wr => ∃ k : Nat, k ≤ n ∧ n - k ≤ g ∧ s3 = .int .i64 k ∧ wr = (w.alloc (.cells #[.slice A n c, .slice A' m c', .int .i64 d.left, .bool false] 25)) ∧ Hid (∀ j, j < k → (blk d.bs j).size = 128))
    case atStart => exact ⟨0, Nat.zero_le _, by omega, rfl, rfl, Lib.hid fun j hj => absurd hj (Nat.not_lt_zero _)⟩
    case round =>
      obtain ⟨k, hk, hg, rfl, rfl, H⟩ := hrel
      by_cases hlt : k < n
      · obtain ⟨b1, o1, rfl, _, g1⟩ := HH.out.bs.str hlt
        generalize hxk : blk d.bs k = x at g1
        have Bk := Lib.hid hxk; clear hxk
        by_cases hx : x.size = 128
        · have ht : ((x.size : Int) != 128) = false := by simp; omega
          have HX := Lib.hid hx; clear hx
          go_wp2
          go_roundg (n - (k + 1))
          case measure => omega
          case rel =>
            refine ⟨k + 1, by omega, by omega, by go_num, rfl, Lib.hid fun j hj => ?_⟩
            by_cases e : j = k
            · subst e
              rw [Bk.out]; exact HX.out
            · exact H.out j (by omega)
        · have ht : ((x.size : Int) != 128) = true := by simp; omega
          have R := Lib.hid (fit_bs (d := d) (k := k) (by rw [LL.out.1]; exact hlt) (by rw [Bk.out]; exact hx))
          clear hx
          go_wp2
          go_ret
          exact ⟨by first | rfl | (rw [R.out]; rfl), HB0.out⟩
      · have : k = n := by omega
        subst this
        have H1 : Hid (∀ j, j < d.bs.length → (blk d.bs j).size = 128) := Lib.hid fun j hj => H.out j (by rw [LL.out.1] at hj; exact hj)
        clear H hg hk
        go_wp2
        go_loopg [4] m (fun g s4 wr => ∃ i : Nat, i ≤ m ∧ m - i ≤ g ∧ s4 = .int .i64 i ∧ Below (w.heap.size + 1) (w.alloc (.cells #[.slice A k c, .slice A' m c', .int .i64 d.left, .bool false] 25)) wr ∧ Hid (∀ j, j < i → (0 ≤ wAt d.cs j ∧ wAt d.cs j < (d.bs.length : Int)) ∧ (wDat d.cs j).size = 128))
        case atStart => exact ⟨0, Nat.zero_le _, by omega, rfl, Below.refl _ _, Lib.hid fun j hj => absurd hj (Nat.not_lt_zero _)⟩
        case round =>
          obtain ⟨i, hi, hg, rfl, hbw, H⟩ := hrel
          have k1 := K0.out.below hbw (Nat.lt_succ_self _)
          have HR := HH.out.cs.below (w' := wr) (by simpa using hbw)
          have hBw : Below w.heap.size w wr := HB0.out.trans (hbw.mono (by omega))
          have hsz := hBw.size
          have hz : w.heap.size < wr.heap.size := k1.lt
          have HW := Lib.hid hbw; clear hbw
          obtain ⟨x0, x1, x2, x3, xf⟩ := k1.cells
          clear k1
          by_cases hlt : i < m
          · obtain ⟨b1, o1, rfl, _, g1, f1⟩ := HR.wr hlt
            clear HR
            generalize hxk : wAt d.cs i = x at g1
            generalize hsk : wDat d.cs i = s at f1
            have Bk := Lib.hid (And.intro hxk hsk)
            clear hxk hsk
            have hBa : Below w.heap.size w (wr.alloc (.cells #[.int .i64 x, .string s] 53)) := hBw.trans ((Below.refl _ _).alloc (by omega) _)
            have HWa := Lib.hid (HW.out.trans ((Below.refl _ _).alloc (show w.heap.size + 1 ≤ wr.heap.size by omega) (.cells #[.int .i64 x, .string s] 53)))
            by_cases hx0 : x < 0
            · have R := Lib.hid (fit_cs (d := d) (k := i) (by rw [LL.out.2]; exact hlt) (by rw [Bk.out.1, Bk.out.2, LL.out.1]; omega))
              go_wp2
              go_ret
              exact ⟨by first | rfl | (rw [R.out]; rfl), hBa⟩
            have hx0' : decide (x < 0) = false := by simp; omega
            by_cases hx1 : (k : Int) ≤ x
            · have R := Lib.hid (fit_cs (d := d) (k := i) (by rw [LL.out.2]; exact hlt) (by rw [Bk.out.1, Bk.out.2, LL.out.1]; omega))
              go_wp2
              go_ret
              exact ⟨by first | rfl | (rw [R.out]; rfl), hBa⟩
            have hx1' : decide ((k : Int) ≤ x) = false := by simp; omega
            by_cases hx2 : s.size = 128
            · have ht : ((s.size : Int) != 128) = false := by simp; omega
              have HX : Hid ((0 ≤ x ∧ x < (k : Int)) ∧ s.size = 128) := Lib.hid ⟨by omega, hx2⟩
              clear hx0 hx1 hx2
              go_wp2
              go_roundg (m - (i + 1))
              case measure => omega
              case rel =>
                refine ⟨i + 1, by omega, by omega, by go_num, HWa.out, Lib.hid fun j hj => ?_⟩
                by_cases e : j = i
                · subst e
                  rw [Bk.out.1, Bk.out.2, LL.out.1]; exact HX.out
                · exact H.out j (by omega)
            · have ht : ((s.size : Int) != 128) = true := by simp; omega
              have R := Lib.hid (fit_cs (d := d) (k := i) (by rw [LL.out.2]; exact hlt) (by rw [Bk.out.1, Bk.out.2, LL.out.1]; exact fun h => hx2 h.2))
              clear hx0 hx1 hx2
              go_wp2
              go_ret
              exact ⟨by first | rfl | (rw [R.out]; rfl), hBa⟩
          · have : i = m := by omega
            subst this
            have R := Lib.hid (fit_all HP.out H1.out fun j hj => H.out j (by rw [LL.out.2] at hj; exact hj))
            clear H hg hi HR
            go_wp2
            go_ret
            exact ⟨by first | rfl | (rw [R.out]; rfl), hBw⟩
  · have hB0 := alloc_below w (.cells #[.slice A n c, .slice A' m c', .int .i64 d.left, .bool true] 25)
    have K0 := Lib.hid (B4.new w (.slice A n c) (.slice A' m c') (.int .i64 d.left) (.bool true))
    have HB0 := Lib.hid hB0; clear hB0
    go_enter Try.func5, Try.ntmps5
    go_wp2
    go_loopg [3] n (fun g s3 wr => ∃ k : Nat, k ≤ n ∧ n - k ≤ g ∧ s3 = .int .i64 k ∧ wr = (w.alloc (.cells #[.slice A n c, .slice A' m c', .int .i64 d.left, .bool true] 25)) ∧ Hid (∀ j, j < k → (blk d.bs j).size = 128))
    case atStart => exact ⟨0, Nat.zero_le _, by omega, rfl, rfl, Lib.hid fun j hj => absurd hj (Nat.not_lt_zero _)⟩
    case round =>
      obtain ⟨k, hk, hg, rfl, rfl, H⟩ := hrel
      by_cases hlt : k < n
      · obtain ⟨b1, o1, rfl, _, g1⟩ := HH.out.bs.str hlt
        generalize hxk : blk d.bs k = x at g1
        have Bk := Lib.hid hxk; clear hxk
        by_cases hx : x.size = 128
        · have ht : ((x.size : Int) != 128) = false := by simp; omega
          have HX := Lib.hid hx; clear hx
          go_wp2
          go_roundg (n - (k + 1))
          case measure => omega
          case rel =>
            refine ⟨k + 1, by omega, by omega, by go_num, rfl, Lib.hid fun j hj => ?_⟩
            by_cases e : j = k
            · subst e
              rw [Bk.out]; exact HX.out
            · exact H.out j (by omega)
        · have ht : ((x.size : Int) != 128) = true := by simp; omega
          have R := Lib.hid (fit_bs (d := d) (k := k) (by rw [LL.out.1]; exact hlt) (by rw [Bk.out]; exact hx))
          clear hx
          go_wp2
          go_ret
          exact ⟨by first | rfl | (rw [R.out]; rfl), HB0.out⟩
      · have : k = n := by omega
        subst this
        have H1 : Hid (∀ j, j < d.bs.length → (blk d.bs j).size = 128) := Lib.hid fun j hj => H.out j (by rw [LL.out.1] at hj; exact hj)
        clear H hg hk
        go_wp2
        go_loopg [4] m (fun g s4 wr => ∃ i : Nat, i ≤ m ∧ m - i ≤ g ∧ s4 = .int .i64 i ∧ Below (w.heap.size + 1) (w.alloc (.cells #[.slice A k c, .slice A' m c', .int .i64 d.left, .bool true] 25)) wr ∧ Hid (∀ j, j < i → (0 ≤ wAt d.cs j ∧ wAt d.cs j < (d.bs.length : Int)) ∧ (wDat d.cs j).size = 128))
        case atStart => exact ⟨0, Nat.zero_le _, by omega, rfl, Below.refl _ _, Lib.hid fun j hj => absurd hj (Nat.not_lt_zero _)⟩
        case round =>
          obtain ⟨i, hi, hg, rfl, hbw, H⟩ := hrel
          have k1 := K0.out.below hbw (Nat.lt_succ_self _)
          have HR := HH.out.cs.below (w' := wr) (by simpa using hbw)
          have hBw : Below w.heap.size w wr := HB0.out.trans (hbw.mono (by omega))
          have hsz := hBw.size
          have hz : w.heap.size < wr.heap.size := k1.lt
          have HW := Lib.hid hbw; clear hbw
          obtain ⟨x0, x1, x2, x3, xf⟩ := k1.cells
          clear k1
          by_cases hlt : i < m
          · obtain ⟨b1, o1, rfl, _, g1, f1⟩ := HR.wr hlt
            clear HR
            generalize hxk : wAt d.cs i = x at g1
            generalize hsk : wDat d.cs i = s at f1
            have Bk := Lib.hid (And.intro hxk hsk)
            clear hxk hsk
            have hBa : Below w.heap.size w (wr.alloc (.cells #[.int .i64 x, .string s] 53)) := hBw.trans ((Below.refl _ _).alloc (by omega) _)
            have HWa := Lib.hid (HW.out.trans ((Below.refl _ _).alloc (show w.heap.size + 1 ≤ wr.heap.size by omega) (.cells #[.int .i64 x, .string s] 53)))
            by_cases hx0 : x < 0
            · have R := Lib.hid (fit_cs (d := d) (k := i) (by rw [LL.out.2]; exact hlt) (by rw [Bk.out.1, Bk.out.2, LL.out.1]; omega))
              go_wp2
              go_ret
              exact ⟨by first | rfl | (rw [R.out]; rfl), hBa⟩
            have hx0' : decide (x < 0) = false := by simp; omega
            by_cases hx1 : (k : Int) ≤ x
            · have R := Lib.hid (fit_cs (d := d) (k := i) (by rw [LL.out.2]; exact hlt) (by rw [Bk.out.1, Bk.out.2, LL.out.1]; omega))
              go_wp2
              go_ret
              exact ⟨by first | rfl | (rw [R.out]; rfl), hBa⟩
            have hx1' : decide ((k : Int) ≤ x) = false := by simp; omega
            by_cases hx2 : s.size = 128
            · have ht : ((s.size : Int) != 128) = false := by simp; omega
              have HX : Hid ((0 ≤ x ∧ x < (k : Int)) ∧ s.size = 128) := Lib.hid ⟨by omega, hx2⟩
              clear hx0 hx1 hx2
              go_wp2
              go_roundg (m - (i + 1))
              case measure => omega
              case rel =>
                refine ⟨i + 1, by omega, by omega, by go_num, HWa.out, Lib.hid fun j hj => ?_⟩
                by_cases e : j = i
                · subst e
                  rw [Bk.out.1, Bk.out.2, LL.out.1]; exact HX.out
                · exact H.out j (by omega)
            · have ht : ((s.size : Int) != 128) = true := by simp; omega
              have R := Lib.hid (fit_cs (d := d) (k := i) (by rw [LL.out.2]; exact hlt) (by rw [Bk.out.1, Bk.out.2, LL.out.1]; exact fun h => hx2 h.2))
              clear hx0 hx1 hx2
              go_wp2
              go_ret
              exact ⟨by first | rfl | (rw [R.out]; rfl), hBa⟩
          · have : i = m := by omega
            subst this
            have R := Lib.hid (fit_all HP.out H1.out fun j hj => H.out j (by rw [LL.out.2] at hj; exact hj))
            clear H hg hi HR
            go_wp2
            go_ret
            exact ⟨by first | rfl | (rw [R.out]; rfl), hBw⟩

end Go.Proofs.Ytlpijikhbjkmfaa
