/-
  DevPlays returns true for every size and every row of calls.
-/
import Derived.Test.YtmkhffopmohdhaaDevActs
import Derived.Test.YtmkhffopmohdhaaDevOrder
import Derived.Deep.CutBlock
import Derived.Deep.DeepCutAuto
namespace Go.Proofs.Ytmkhffopmohdhaa
open Go.RowKit

set_option maxRecDepth 100000 in
set_option maxHeartbeats 4000000 in
theorem plays_any (x : Int) (L : Option Addr) (N cL : Nat) (l : List AR) (w : World) (hN : N ≤ maxLen) (hL : Reads w w.heap.size 4 L N (encA l)) (ha : ∀ r ∈ l, AOk w w.heap.size r) :
    Calls Try.prog 3 #[.int .i64 x, .slice L N cL] w fun e w' => e = .returned (.bool true) ∧ Below w.heap.size w w' := by
  have HL := Lib.hid (And.intro hL ha)
  have HN := Lib.hid (show l.length = N by have := hL.1; rw [encA_length] at this; omega)
  clear hL ha
  unfold maxLen at hN
  have cn := fun W => new_any x W
  have cr := fun W => refNew_any x W
  have h0 := left_new x
  generalize newD x = d at cn cr h0
  have H0 := Lib.hid h0
  clear h0
  go_enter Try.func3, Try.ntmps3
  go_wp2_with fail
  refine (cn _).mono ?_
  rintro e w1 ⟨A, n, c, A', m, c', rfl, hd1, hb1⟩
  go_wp2_with fail
  refine (cr _).mono ?_
  rintro e w2 ⟨B, n', b, B', m', b', rfl, hd2, hb2⟩
  have hn' : n' = n := by rw [← hd1.bs.lenS, ← hd2.bs.lenS]
  have hm' : m' = m := by rw [← hd1.cs.lenW, ← hd2.cs.lenW]
  subst hn'; subst hm'
  clear cn cr
  have P2 : Hid (Pv w ((w2.alloc (.cells #[.slice A n' c, .slice A' m' c', .int .i64 d.left, .bool d.dead] 26)).alloc (.cells #[.slice B n' b, .slice B' m' b', .int .i64 d.left, .bool d.dead] 26)) w2.heap.size A A' B B' n' c m' c' b b' d) :=
    Lib.hid ⟨((bstep hb1 hb2).alloc (bstep hb1 hb2).size _).alloc (by have := (bstep hb1 hb2).size; simp; omega) _, (B4.new w2 _ _ _ _).alloc _, by simpa using B4.new (w2.alloc (.cells #[.slice A n' c, .slice A' m' c', .int .i64 d.left, .bool d.dead] 26)) (.slice B n' b) (.slice B' m' b') (.int .i64 d.left) (.bool d.dead), ((hd1.step hb2).alloc _).alloc _, (hd2.alloc _).alloc _, (bstep hb1 hb2).size, H0.out⟩
  have csm : ∀ (A A' B B' : Option Addr) (n c m c' b b' : Nat) (d : D) W, Dv W W.heap.size A n A' m d → Dv W W.heap.size B n B' m d → Calls Try.prog 10 #[.agg #[.slice A n c, .slice A' m c', .int .i64 d.left, .bool d.dead], .agg #[.slice B n b, .slice B' m b', .int .i64 d.left, .bool d.dead]] W fun e w' => e = .returned (.bool true) ∧ Below W.heap.size W w' := fun A A' B B' n c m c' b b' d W h1 h2 =>
    (refSame_any A A' n c m c' d B B' n b m b' d W h1 h2).mono fun e w' h => by rw [decide_eq_true rfl] at h; exact h
  have csd : ∀ (A A' B B' : Option Addr) (n c m c' b b' : Nat) (d : D) W, Dv W W.heap.size A n A' m d → Dv W W.heap.size B n B' m d → Calls Try.prog 9 #[.agg #[.slice A n c, .slice A' m c', .int .i64 d.left, .bool d.dead], .agg #[.slice B n b, .slice B' m b', .int .i64 d.left, .bool d.dead]] W fun e w' => e = .returned (.bool true) ∧ Below W.heap.size W w' := fun A A' B B' n c m c' b b' d W h1 h2 =>
    (same_any A A' n c m c' d B B' n b m b' d W h1 h2).mono fun e w' h => by rw [decide_eq_true rfl] at h; exact h
  clear hd1 hd2 hb1 hb2 H0
  go_upto_region 2 with fail
  generalize (w2.alloc (.cells #[.slice A n' c, .slice A' m' c', .int .i64 d.left, .bool d.dead] 26)).alloc (.cells #[.slice B n' b, .slice B' m' b', .int .i64 d.left, .bool d.dead] 26) = W2 at P2 ⊢
  generalize w2.heap.size = G at P2 ⊢
  obtain ⟨x0, x1, x2, x3, xf⟩ := P2.out.b0.cells
  obtain ⟨y0, y1, y2, y3, yf⟩ := P2.out.b1.cells
  go_wp2_with fail
  refine (csd A A' B B' n' c m' c' b b' d _ P2.out.v0 P2.out.v1).mono ?_
  rintro e w3 ⟨rfl, hb3⟩
  have P3 := Lib.hid (P2.out.step hb3)
  clear x0 x1 x2 x3 xf y0 y1 y2 y3 yf P2 hb3
  obtain ⟨x0, x1, x2, x3, xf⟩ := P3.out.b0.cells
  obtain ⟨y0, y1, y2, y3, yf⟩ := P3.out.b1.cells
  go_wp2_with fail
  refine (csm A A' B B' n' c m' c' b b' d _ P3.out.v0 P3.out.v1).mono ?_
  rintro e w4 ⟨rfl, hb4⟩
  have P4 := Lib.hid (P3.out.step hb4)
  clear x0 x1 x2 x3 xf y0 y1 y2 y3 yf P3 hb4 csd
  go_wp2
  go_loopg [36] N (fun g s36 wr => ∃ (i : Nat) (A A' B B' : Option Addr) (n c m c' b b' : Nat) (d : D), i ≤ N ∧ N - i ≤ g ∧ s36 = .int .i64 i ∧ Hid (Pv w wr G A A' B B' n c m c' b b' d))
  case atStart => exact ⟨0, A, A', B, B', n', c, m', c', b, b', d, Nat.zero_le _, by omega, rfl, P4⟩
  case round =>
    clear P4
    obtain ⟨i, A, A', B, B', n, c, m, c', b, b', d, hi, hg, rfl, P5⟩ := hrel
    by_cases hlt : i < N
    case neg =>
      have : i = N := by omega
      subst this
      go_wp2_with (go_at_call 12; refine (awake_any _).mono ?_; rintro e w9 ⟨rfl, hb9⟩)
      go_ret
      exact ⟨rfl, bstep P5.out.below hb9⟩
    have hin : (i : Int) < (N : Int) := by omega
    obtain ⟨r, hr⟩ : ∃ r, l[i]? = some r := ⟨_, List.getElem?_eq_getElem (by rw [HN.out]; exact hlt)⟩
    obtain ⟨b1, o1, rfl, _, g0, g1, g2, g3⟩ := (HL.out.1.below P5.out.below).act hr
    have HA := Lib.hid (HL.out.2 r (List.mem_of_getElem? hr))
    clear hr
    have P6 := Lib.hid (And.intro (P5.out.alloc (.cells #[.int .i64 r.kind, .int .i64 r.place, .string r.data, .slice r.K r.k r.kc] 31)) (A4.new wr r))
    go_upto_region 7 with fail
    have hb5 : Below w.heap.size w (wr.alloc (.cells #[.int .i64 r.kind, .int .i64 r.place, .string r.data, .slice r.K r.k r.kc] 31)) := P6.out.1.below
    generalize wr.alloc (.cells #[.int .i64 r.kind, .int .i64 r.place, .string r.data, .slice r.K r.k r.kc] 31) = w5 at P6 hb5 ⊢
    generalize wr.heap.size = g8 at P6 ⊢
    clear g0 g1 g2 g3 P5
    obtain ⟨y0, y1, y2, y3, yf⟩ := P6.out.1.b1.cells
    by_cases hf : FitP d
    case neg =>
      have cf := fun W hW => refFit_any B B' n b m b' d W hW
      rw [fitD_false hf] at cf
      clear hf
      go_wp2_with fail
      refine (cf _ P6.out.1.v1).mono ?_
      rintro e w6 ⟨rfl, hb6⟩
      have P7 := Lib.hid (P6.out.1.step hb6)
      clear y0 y1 y2 y3 yf P6
      obtain ⟨y0, y1, y2, y3, yf⟩ := P7.out.b1.cells
      go_wp2_with fail
      refine (cf _ P7.out.v1).mono ?_
      rintro e w7 ⟨rfl, hb7⟩
      go_wp2_with (go_at_call 12; refine (awake_any _).mono ?_; rintro e w9 ⟨rfl, hb9⟩)
      go_ret
      exact ⟨rfl, bstep (bstep P7.out.below hb7) hb9⟩
    have cf := fun W hW => refFit_any B B' n b m b' d W hW
    rw [fitD_true hf] at cf
    have HI := Lib.hid (And.intro (in_of_fit hf) hf)
    clear hf
    go_wp2_with fail
    refine (cf _ P6.out.1.v1).mono ?_
    rintro e w6 ⟨rfl, hb6⟩
    have P7 := Lib.hid (And.intro (P6.out.1.step hb6) (P6.out.2.step hb6))
    clear y0 y1 y2 y3 yf P6 hb6 cf
    obtain ⟨x0, x1, x2, x3, xf⟩ := P7.out.1.b0.cells
    obtain ⟨y0, y1, y2, y3, yf⟩ := P7.out.1.b1.cells
    go_wp2_with fail
    refine (csm A A' B B' n c m c' b b' d _ P7.out.1.v0 P7.out.1.v1).mono ?_
    rintro e w7 ⟨rfl, hb7⟩
    have P8 := Lib.hid (And.intro (P7.out.1.step hb7) (P7.out.2.step hb7))
    clear x0 x1 x2 x3 xf y0 y1 y2 y3 yf P7 hb7
    obtain ⟨a0, a1, a2, a3⟩ := P8.out.2.cells
    go_upto_if 59 with fail
    go_cut [11] (fun s11 wx => ∃ s, s11 = .string s ∧ Hid (Pv w wx G A A' B B' n c m c' b b' d ∧ A4 wx g8 r))
    case first =>
      by_cases hs : r.data.size = 127
      · have f1 : ((r.data.size : Int) != 127) = false := by simp; omega
        go_wp2_with fail
        go_meet
        exact ⟨_, rfl, P8⟩
      · have f1 : ((r.data.size : Int) != 127) = true := by simp; omega
        go_wp2_with fail
        refine (filled_any r.data _).mono ?_
        rintro e w9 ⟨rfl, hb9⟩
        go_wp2_with fail
        go_meet
        exact ⟨_, rfl, Lib.hid ⟨P8.out.1.step hb9, P8.out.2.step hb9⟩⟩
    case rest =>
      obtain ⟨s, rfl, P9⟩ := hcut
      clear a0 a1 a2 a3 P8
      obtain ⟨a0, a1, a2, a3⟩ := P9.out.2.cells
      have HG := Lib.hid (And.intro (a4_ne_b4 P9.out.2 P9.out.1.b0) (a4_ne_b4 P9.out.2 P9.out.1.b1))
      go_upto_block 2 with fail
      go_cut [9, 10] (fun s9 s10 wx => ∃ (q : Int) (A A' B B' : Option Addr) (n c m c' b b' : Nat) (d : D), s9 = .int .i64 q ∧ s10 = .int .i64 q ∧ Hid (Pv w wx G A A' B B' n c m c' b b' d))
      case rest =>
        clear P9 a0 a1 a2 a3 HG HI HA hb5
        obtain ⟨q, A, A', B, B', n, c, m, c', b, b', d, rfl, rfl, PX⟩ := hcut
        obtain ⟨x0, x1, x2, x3, xf⟩ := PX.out.b0.cells
        obtain ⟨y0, y1, y2, y3, yf⟩ := PX.out.b1.cells
        go_wp2_with fail
        refine (csm A A' B B' n c m c' b b' d _ PX.out.v0 PX.out.v1).mono ?_
        rintro e w9 ⟨rfl, hb9⟩
        have PY := Lib.hid (PX.out.step hb9)
        clear x0 x1 x2 x3 xf y0 y1 y2 y3 yf PX hb9
        go_wp2_with fail
        go_roundg (N - (i + 1))
        case measure => omega
        case rel => exact ⟨i + 1, A, A', B, B', n, c, m, c', b, b', d, by omega, by omega, by go_num, PY⟩
      case first =>
      obtain ⟨x0, x1, x2, x3, xf⟩ := P9.out.1.b0.cells
      by_cases k0 : r.kind = 0
      · have f0 : (r.kind == 0) = true := by simpa using k0
        clear k0
        have cw := fun W hW => write_any A A' n c m c' d r.place s W hW P9.out.1.lft
        have cv := fun W hW => refWrite_any B B' n b m b' d r.place s W hW P9.out.1.lft
        have hl2 := left_write P9.out.1.lft r.place s
        generalize (writeD d r.place s).1 = d2 at cw cv hl2
        generalize (writeD d r.place s).2 = q at cw cv
        have HL2 := Lib.hid hl2
        clear hl2 HI
        go_wp2_with fail
        refine (cw _ P9.out.1.v0).mono ?_
        rintro e w8 ⟨A2, n2, c2, A2', m2, c2', rfl, hd8, hb8⟩
        have P10 := Lib.hid (And.intro ((P9.out.1.two.step hb8).alloc (.cells #[.slice A2 n2 c2, .slice A2' m2 c2', .int .i64 d2.left, .bool d2.dead] 26)) (And.intro (hd8.alloc (.cells #[.slice A2 n2 c2, .slice A2' m2 c2', .int .i64 d2.left, .bool d2.dead] 26)) ((P9.out.2.step hb8).step ((Below.refl _ _).alloc (Nat.le_refl _) (.cells #[.slice A2 n2 c2, .slice A2' m2 c2', .int .i64 d2.left, .bool d2.dead] 26)))))
        clear x0 x1 x2 x3 xf P9 hd8 hb8 a0 a1 a2 a3
        obtain ⟨x0, x1, x2, x3, xf⟩ := P10.out.1.b0.cells
        go_upto_region 21 with fail
        change Code.wp _ _ _ _ (putD (w8.alloc (.cells #[.slice A2 n2 c2, .slice A2' m2 c2', .int .i64 d2.left, .bool d2.dead] 26)) G (.slice A2 n2 c2) (.slice A2' m2 c2') (.int .i64 d2.left) (.bool d2.dead))
        have P11 := Lib.hid (And.intro (P10.out.1.put0 (c2 := c2) (c2' := c2') P10.out.2.1) (putD_a4 (g := G) (a2 := .slice A2 n2 c2) (b2 := .slice A2' m2 c2') (c2 := .int .i64 d2.left) (d2 := .bool d2.dead) P10.out.2.2 HG.out.1))
        generalize putD (w8.alloc (.cells #[.slice A2 n2 c2, .slice A2' m2 c2', .int .i64 d2.left, .bool d2.dead] 26)) G (.slice A2 n2 c2) (.slice A2' m2 c2') (.int .i64 d2.left) (.bool d2.dead) = w9 at P11 ⊢
        clear x0 x1 x2 x3 xf P10
        obtain ⟨a0, a1, a2, a3⟩ := P11.out.2.cells
        obtain ⟨y0, y1, y2, y3, yf⟩ := P11.out.1.b1.cells
        go_wp2_with fail
        refine (cv _ P11.out.1.v1).mono ?_
        rintro e w10 ⟨E, n3, e2, E', m3, e2', rfl, hd10, hb10⟩
        have P12 := Lib.hid (P11.out.1.step hb10)
        have hn3 : n3 = n2 := by rw [← hd10.bs.lenS, ← P12.out.v0.bs.lenS]
        have hm3 : m3 = m2 := by rw [← hd10.cs.lenW, ← P12.out.v0.cs.lenW]
        subst hn3; subst hm3
        have V12 := Lib.hid hd10
        clear y0 y1 y2 y3 yf a0 a1 a2 a3 P11 hd10 hb10
        obtain ⟨y0, y1, y2, y3, yf⟩ := P12.out.b1.cells
        go_wp2_with fail
        go_meet
        exact ⟨q, A2, A2', E, E', n3, c2, m3, c2', e2, e2', d2, rfl, rfl, Lib.hid ((P12.out.put1 (c2 := e2) (c2' := e2') V12.out).one HL2.out)⟩
      have f0 : (r.kind == 0) = false := by simpa using k0
      clear k0
      by_cases k1 : r.kind = 1
      · have f1 : (r.kind == 1) = true := by simpa using k1
        clear k1
        have cw := fun W hW => flush_any A A' n c m c' d W hW P9.out.1.lft (by have := HI.out.2.1.2.2.1; rw [P9.out.1.v0.cs.lenW] at this; exact this)
        have cv := fun W hW => refFlush_any B B' n b m b' d W hW P9.out.1.lft HI.out.1
        have hl2 := left_flush P9.out.1.lft
        generalize (flushD d).1 = d2 at cw cv hl2
        generalize (flushD d).2 = q at cw cv
        have HL2 := Lib.hid hl2
        clear hl2 HI
        go_wp2_with fail
        refine (cw _ P9.out.1.v0).mono ?_
        rintro e w8 ⟨A2, n2, c2, A2', m2, c2', rfl, hd8, hb8⟩
        have P10 := Lib.hid (And.intro ((P9.out.1.two.step hb8).alloc (.cells #[.slice A2 n2 c2, .slice A2' m2 c2', .int .i64 d2.left, .bool d2.dead] 26)) (And.intro (hd8.alloc (.cells #[.slice A2 n2 c2, .slice A2' m2 c2', .int .i64 d2.left, .bool d2.dead] 26)) ((P9.out.2.step hb8).step ((Below.refl _ _).alloc (Nat.le_refl _) (.cells #[.slice A2 n2 c2, .slice A2' m2 c2', .int .i64 d2.left, .bool d2.dead] 26)))))
        clear x0 x1 x2 x3 xf P9 hd8 hb8 a0 a1 a2 a3
        obtain ⟨x0, x1, x2, x3, xf⟩ := P10.out.1.b0.cells
        go_upto_region 25 with fail
        change Code.wp _ _ _ _ (putD (w8.alloc (.cells #[.slice A2 n2 c2, .slice A2' m2 c2', .int .i64 d2.left, .bool d2.dead] 26)) G (.slice A2 n2 c2) (.slice A2' m2 c2') (.int .i64 d2.left) (.bool d2.dead))
        have P11 := Lib.hid (And.intro (P10.out.1.put0 (c2 := c2) (c2' := c2') P10.out.2.1) (putD_a4 (g := G) (a2 := .slice A2 n2 c2) (b2 := .slice A2' m2 c2') (c2 := .int .i64 d2.left) (d2 := .bool d2.dead) P10.out.2.2 HG.out.1))
        generalize putD (w8.alloc (.cells #[.slice A2 n2 c2, .slice A2' m2 c2', .int .i64 d2.left, .bool d2.dead] 26)) G (.slice A2 n2 c2) (.slice A2' m2 c2') (.int .i64 d2.left) (.bool d2.dead) = w9 at P11 ⊢
        clear x0 x1 x2 x3 xf P10
        obtain ⟨a0, a1, a2, a3⟩ := P11.out.2.cells
        obtain ⟨y0, y1, y2, y3, yf⟩ := P11.out.1.b1.cells
        go_wp2_with fail
        refine (cv _ P11.out.1.v1).mono ?_
        rintro e w10 ⟨E, n3, e2, E', m3, e2', rfl, hd10, hb10⟩
        have P12 := Lib.hid (P11.out.1.step hb10)
        have hn3 : n3 = n2 := by rw [← hd10.bs.lenS, ← P12.out.v0.bs.lenS]
        have hm3 : m3 = m2 := by rw [← hd10.cs.lenW, ← P12.out.v0.cs.lenW]
        subst hn3; subst hm3
        have V12 := Lib.hid hd10
        clear y0 y1 y2 y3 yf a0 a1 a2 a3 P11 hd10 hb10
        obtain ⟨y0, y1, y2, y3, yf⟩ := P12.out.b1.cells
        go_wp2_with fail
        go_meet
        exact ⟨q, A2, A2', E, E', n3, c2, m3, c2', e2, e2', d2, rfl, rfl, Lib.hid ((P12.out.put1 (c2 := e2) (c2' := e2') V12.out).one HL2.out)⟩
      have f1 : (r.kind == 1) = false := by simpa using k1
      clear k1
      by_cases k2 : r.kind = 2
      · have f2 : (r.kind == 2) = true := by simpa using k2
        clear k2
        have cw := fun W hW hK => crash_any A A' r.K n c m c' r.k r.kc d r.ks W hW hK HA.out.le HA.out.cap
        have cv := fun W hW hK => refCrash_any B B' r.K n b m b' r.k r.kc d r.ks W hW HI.out.1 hK (Nat.le_trans HA.out.le HA.out.cap)
        have hl2 := show (crashD d r.ks).left ≤ 9223372036854775807 by simp [crashD]
        generalize crashD d r.ks = d2 at cw cv hl2
        have HL2 := Lib.hid hl2
        have PD := Lib.hid (And.intro P9.out.1.drew (P9.out.2.step (Below.refl _ _).drew))
        clear hl2 HI P9 HG a0 a1 a2 a3 x0 x1 x2 x3 xf
        go_upto_region 27 with fail
        refine wp_region_till (fun w' => B4 w' G (.slice A n c) (.slice A' m c') (.int .i64 d.left) (.bool d.dead) ∧ B4 w' (G + 1) (.slice B n b) (.slice B' m b') (.int .i64 d.left) (.bool d.dead) ∧ A4 w' g8 r) 7 10 (by kernel_rfl) (by kernel_rfl) ?_
        have HS := And.intro PD.out.1.b0 (And.intro PD.out.1.b1 PD.out.2)
        refine till_take (i := 0) _ (.agg #[.slice A n c, .slice A' m c', .int .i64 d.left, .bool d.dead]) [3, 0] rfl (by kernel_rfl) (by kernel_rfl) (by kernel_rfl) (by kernel_rfl) (fun _ _ _ h => h) (.inl ⟨by rfl, fun w' hS => ?_⟩) HS ?_
        · obtain ⟨x0, x1, x2, x3, xf⟩ := hS.1.cells; go_simp
        try simp only [Act.put, List.setIfInBounds_toArray, List.set_cons_zero, List.set_cons_succ]
        refine till_take (i := 1) _ (.pointer (some ⟨g8, 3, none⟩)) [3, 2, 1] rfl (by kernel_rfl) (by kernel_rfl) (by kernel_rfl) (by kernel_rfl) (fun _ _ _ h => h) (.inl ⟨by rfl, fun w' hS => ?_⟩) HS ?_
        · go_simp
        try simp only [Act.put, List.setIfInBounds_toArray, List.set_cons_zero, List.set_cons_succ]
        refine till_take (i := 2) _ (.slice r.K r.k r.kc) [3, 2] rfl (by kernel_rfl) (by kernel_rfl) (by kernel_rfl) (by kernel_rfl) (fun _ _ _ h => h) (.inl ⟨by rfl, fun w' hS => ?_⟩) HS ?_
        · obtain ⟨x0, x1, x2, x3⟩ := hS.2.2.cells; go_simp
        try simp only [Act.put, List.setIfInBounds_toArray, List.set_cons_zero, List.set_cons_succ]
        refine till_take (i := 4) _ (.agg #[.slice B n b, .slice B' m b', .int .i64 d.left, .bool d.dead]) [4] rfl (by kernel_rfl) (by kernel_rfl) (by kernel_rfl) (by kernel_rfl) (fun _ _ _ h => h) (.inl ⟨by rfl, fun w' hS => ?_⟩) HS ?_
        · obtain ⟨x0, x1, x2, x3, xf⟩ := hS.2.1.cells; go_simp
        try simp only [Act.put, List.setIfInBounds_toArray, List.set_cons_zero, List.set_cons_succ]
        refine till_take (i := 5) _ (.pointer (some ⟨g8, 3, none⟩)) [6, 5] rfl (by kernel_rfl) (by kernel_rfl) (by kernel_rfl) (by kernel_rfl) (fun _ _ _ h => h) (.inl ⟨by rfl, fun w' hS => ?_⟩) HS ?_
        · go_simp
        try simp only [Act.put, List.setIfInBounds_toArray, List.set_cons_zero, List.set_cons_succ]
        refine till_take (i := 6) _ (.slice r.K r.k r.kc) [6] rfl (by kernel_rfl) (by kernel_rfl) (by kernel_rfl) (by kernel_rfl) (fun _ _ _ h => h) (.inl ⟨by rfl, fun w' hS => ?_⟩) HS ?_
        · obtain ⟨x0, x1, x2, x3⟩ := hS.2.2.cells; go_simp
        try simp only [Act.put, List.setIfInBounds_toArray, List.set_cons_zero, List.set_cons_succ]
        refine till_one (i := 3) _ (by kernel_rfl) rfl rfl (fun K hK => ?_)
        go_simp
        go_at_call 18
        refine (cw _ PD.out.1.v0 (HA.out.rd.step PD.out.1.below)).mono ?_
        rintro e w8 ⟨A2, n2, c2, A2', m2, c2', rfl, hd8, hb8⟩
        have P10 := Lib.hid (And.intro (PD.out.1.step hb8) (And.intro hd8 (PD.out.2.step hb8)))
        clear hd8 hb8 HS
        refine hK.out _ _ (fun _ _ => ⟨P10.out.1.b0, P10.out.1.b1, P10.out.2.2⟩) ?_
        try simp only [Act.put, List.setIfInBounds_toArray, List.set_cons_zero, List.set_cons_succ]
        clear hK K
        refine till_one (i := 7) _ (by kernel_rfl) rfl rfl (fun K hK => ?_)
        go_simp
        go_at_call 19
        refine (cv _ P10.out.1.v1 (HA.out.rd.step P10.out.1.below)).mono ?_
        rintro e w9 ⟨E, n3, e2, E', m3, e2', rfl, hd9, hb9⟩
        have P12 := Lib.hid (And.intro (P10.out.1.step hb9) (And.intro (P10.out.2.1.step hb9) hd9))
        clear hd9 hb9 P10
        have hn3 : n3 = n2 := by rw [← P12.out.2.2.bs.lenS, ← P12.out.2.1.bs.lenS]
        have hm3 : m3 = m2 := by rw [← P12.out.2.2.cs.lenW, ← P12.out.2.1.cs.lenW]
        subst hn3; subst hm3
        refine hK.out _ _ (fun h => absurd rfl h) ?_
        try simp only [Act.put, List.setIfInBounds_toArray, List.set_cons_zero, List.set_cons_succ]
        clear hK K
        obtain ⟨x0, x1, x2, x3, xf⟩ := P12.out.1.b0.cells
        obtain ⟨y0, y1, y2, y3, yf⟩ := P12.out.1.b1.cells
        refine till_one (i := 8) _ (by kernel_rfl) rfl rfl (fun K hK => ?_)
        go_simp
        refine hK.out _ _ (fun _ h => by cases h) ?_
        try simp only [Act.put, List.setIfInBounds_toArray, List.set_cons_zero, List.set_cons_succ]
        clear hK K
        refine till_one (i := 9) _ (by kernel_rfl) rfl rfl (fun K hK => ?_)
        go_simp
        refine hK.out _ _ (fun _ h => by cases h) ?_
        try simp only [Act.put, List.setIfInBounds_toArray, List.set_cons_zero, List.set_cons_succ]
        clear hK K
        refine till_done (by kernel_rfl) ?_
        go_wp2_with fail
        go_meet
        exact ⟨0, A2, A2', E, E', n3, c2, m3, c2', e2, e2', d2, rfl, rfl, Lib.hid (P12.out.1.put (c2 := c2) (c2' := c2') (e2 := e2) (e2' := e2') P12.out.2.1 P12.out.2.2 HL2.out)⟩
      have f2 : (r.kind == 2) = false := by simpa using k2
      clear k2
      by_cases k3 : r.kind = 3
      · have f3 : (r.kind == 3) = true := by simpa using k3
        clear k3
        have cw := fun W hW => armT_any A A' n c m c' d r.place W hW
        have cv := fun W hW => refArmT_any B B' n b m b' d r.place W hW
        have hl2 := left_arm P9.out.1.lft HA.out.lft
        generalize armD d r.place = d2 at cw cv hl2
        have HL2 := Lib.hid hl2
        have PD := Lib.hid (And.intro P9.out.1.drew (P9.out.2.step (Below.refl _ _).drew))
        clear hl2 HI P9 HG a0 a1 a2 a3 x0 x1 x2 x3 xf
        go_upto_region 29 with fail
        refine wp_region_till (fun w' => B4 w' G (.slice A n c) (.slice A' m c') (.int .i64 d.left) (.bool d.dead) ∧ B4 w' (G + 1) (.slice B n b) (.slice B' m b') (.int .i64 d.left) (.bool d.dead) ∧ A4 w' g8 r) 7 10 (by kernel_rfl) (by kernel_rfl) ?_
        have HS := And.intro PD.out.1.b0 (And.intro PD.out.1.b1 PD.out.2)
        refine till_take (i := 0) _ (.agg #[.slice A n c, .slice A' m c', .int .i64 d.left, .bool d.dead]) [3, 0] rfl (by kernel_rfl) (by kernel_rfl) (by kernel_rfl) (by kernel_rfl) (fun _ _ _ h => h) (.inl ⟨by rfl, fun w' hS => ?_⟩) HS ?_
        · obtain ⟨x0, x1, x2, x3, xf⟩ := hS.1.cells; go_simp
        try simp only [Act.put, List.setIfInBounds_toArray, List.set_cons_zero, List.set_cons_succ]
        refine till_take (i := 1) _ (.pointer (some ⟨g8, 1, none⟩)) [3, 2, 1] rfl (by kernel_rfl) (by kernel_rfl) (by kernel_rfl) (by kernel_rfl) (fun _ _ _ h => h) (.inl ⟨by rfl, fun w' hS => ?_⟩) HS ?_
        · go_simp
        try simp only [Act.put, List.setIfInBounds_toArray, List.set_cons_zero, List.set_cons_succ]
        refine till_take (i := 2) _ (.int .i64 r.place) [3, 2] rfl (by kernel_rfl) (by kernel_rfl) (by kernel_rfl) (by kernel_rfl) (fun _ _ _ h => h) (.inl ⟨by rfl, fun w' hS => ?_⟩) HS ?_
        · obtain ⟨x0, x1, x2, x3⟩ := hS.2.2.cells; go_simp
        try simp only [Act.put, List.setIfInBounds_toArray, List.set_cons_zero, List.set_cons_succ]
        refine till_take (i := 4) _ (.agg #[.slice B n b, .slice B' m b', .int .i64 d.left, .bool d.dead]) [4] rfl (by kernel_rfl) (by kernel_rfl) (by kernel_rfl) (by kernel_rfl) (fun _ _ _ h => h) (.inl ⟨by rfl, fun w' hS => ?_⟩) HS ?_
        · obtain ⟨x0, x1, x2, x3, xf⟩ := hS.2.1.cells; go_simp
        try simp only [Act.put, List.setIfInBounds_toArray, List.set_cons_zero, List.set_cons_succ]
        refine till_take (i := 5) _ (.pointer (some ⟨g8, 1, none⟩)) [6, 5] rfl (by kernel_rfl) (by kernel_rfl) (by kernel_rfl) (by kernel_rfl) (fun _ _ _ h => h) (.inl ⟨by rfl, fun w' hS => ?_⟩) HS ?_
        · go_simp
        try simp only [Act.put, List.setIfInBounds_toArray, List.set_cons_zero, List.set_cons_succ]
        refine till_take (i := 6) _ (.int .i64 r.place) [6] rfl (by kernel_rfl) (by kernel_rfl) (by kernel_rfl) (by kernel_rfl) (fun _ _ _ h => h) (.inl ⟨by rfl, fun w' hS => ?_⟩) HS ?_
        · obtain ⟨x0, x1, x2, x3⟩ := hS.2.2.cells; go_simp
        try simp only [Act.put, List.setIfInBounds_toArray, List.set_cons_zero, List.set_cons_succ]
        refine till_one (i := 3) _ (by kernel_rfl) rfl rfl (fun K hK => ?_)
        go_simp
        go_at_call 20
        refine (cw _ PD.out.1.v0).mono ?_
        rintro e w8 ⟨A2, n2, c2, A2', m2, c2', rfl, hd8, hb8⟩
        have P10 := Lib.hid (And.intro (PD.out.1.step hb8) (And.intro hd8 (PD.out.2.step hb8)))
        clear hd8 hb8 HS
        refine hK.out _ _ (fun _ _ => ⟨P10.out.1.b0, P10.out.1.b1, P10.out.2.2⟩) ?_
        try simp only [Act.put, List.setIfInBounds_toArray, List.set_cons_zero, List.set_cons_succ]
        clear hK K
        refine till_one (i := 7) _ (by kernel_rfl) rfl rfl (fun K hK => ?_)
        go_simp
        go_at_call 21
        refine (cv _ P10.out.1.v1).mono ?_
        rintro e w9 ⟨E, n3, e2, E', m3, e2', rfl, hd9, hb9⟩
        have P12 := Lib.hid (And.intro (P10.out.1.step hb9) (And.intro (P10.out.2.1.step hb9) hd9))
        clear hd9 hb9 P10
        have hn3 : n3 = n2 := by rw [← P12.out.2.2.bs.lenS, ← P12.out.2.1.bs.lenS]
        have hm3 : m3 = m2 := by rw [← P12.out.2.2.cs.lenW, ← P12.out.2.1.cs.lenW]
        subst hn3; subst hm3
        refine hK.out _ _ (fun h => absurd rfl h) ?_
        try simp only [Act.put, List.setIfInBounds_toArray, List.set_cons_zero, List.set_cons_succ]
        clear hK K
        obtain ⟨x0, x1, x2, x3, xf⟩ := P12.out.1.b0.cells
        obtain ⟨y0, y1, y2, y3, yf⟩ := P12.out.1.b1.cells
        refine till_one (i := 8) _ (by kernel_rfl) rfl rfl (fun K hK => ?_)
        go_simp
        refine hK.out _ _ (fun _ h => by cases h) ?_
        try simp only [Act.put, List.setIfInBounds_toArray, List.set_cons_zero, List.set_cons_succ]
        clear hK K
        refine till_one (i := 9) _ (by kernel_rfl) rfl rfl (fun K hK => ?_)
        go_simp
        refine hK.out _ _ (fun _ h => by cases h) ?_
        try simp only [Act.put, List.setIfInBounds_toArray, List.set_cons_zero, List.set_cons_succ]
        clear hK K
        refine till_done (by kernel_rfl) ?_
        go_wp2_with fail
        go_meet
        exact ⟨0, A2, A2', E, E', n3, c2, m3, c2', e2, e2', d2, rfl, rfl, Lib.hid (P12.out.1.put (c2 := c2) (c2' := c2') (e2 := e2) (e2' := e2') P12.out.2.1 P12.out.2.2 HL2.out)⟩
      have f3 : (r.kind == 3) = false := by simpa using k3
      clear k3 HI
      have cw := fun W hW => read_any A A' n c m c' d r.place W hW
      have cv := fun W hW => refRead_any B B' n b m b' d r.place W hW
      generalize (readD d r.place).1 = o at cw cv
      generalize (readD d r.place).2 = q at cw cv
      go_wp2_with fail
      refine (cw _ P9.out.1.v0).mono ?_
      rintro e w8 ⟨rfl, hb8⟩
      have P10 := Lib.hid (And.intro (P9.out.1.step hb8) (P9.out.2.step hb8))
      clear x0 x1 x2 x3 xf P9 hb8 a0 a1 a2 a3
      obtain ⟨a0, a1, a2, a3⟩ := P10.out.2.cells
      obtain ⟨y0, y1, y2, y3, yf⟩ := P10.out.1.b1.cells
      go_wp2_with fail
      refine (cv _ P10.out.1.v1).mono ?_
      rintro e w9 ⟨rfl, hb9⟩
      have P11 := Lib.hid (P10.out.1.step hb9)
      clear y0 y1 y2 y3 yf P10 hb9 a0 a1 a2 a3
      go_wp2_with fail
      go_meet
      exact ⟨0, A, A', B, B', n, c, m, c', b, b', d, rfl, rfl, P11⟩

end Go.Proofs.Ytmkhffopmohdhaa
