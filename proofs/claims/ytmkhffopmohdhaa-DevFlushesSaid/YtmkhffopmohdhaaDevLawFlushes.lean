/-
  DevFlushes returns true for every device.
-/
import Derived.Test.YtmkhffopmohdhaaDevAwake
namespace Go.Proofs.Ytmkhffopmohdhaa
open Go.RowKit

/-- The first i of m true, the others false. -/
def tf (m i : Nat) : List Bool := List.replicate i true ++ List.replicate (m - i) false
theorem tf_zero (m : Nat) : encB (tf m 0) = List.replicate m (Value.bool false) := by simp [tf, encB]
theorem tf_set {m i : Nat} (h : i < m) : (encB (tf m i)).set i (.bool true) = encB (tf m (i + 1)) := by
  have e : m - i = (m - (i + 1)) + 1 := by omega
  have h1 : tf m i = List.replicate i true ++ (false :: List.replicate (m - (i + 1)) false) := by unfold tf; rw [e, List.replicate_succ]
  have h2 : tf m (i + 1) = List.replicate i true ++ (true :: List.replicate (m - (i + 1)) false) := by unfold tf; rw [List.replicate_succ', List.append_assoc]; rfl
  rw [h1, h2]
  simp [encB, List.set_append]
theorem tf_length {m i : Nat} (h : i ≤ m) : (tf m i).length = m := by simp [tf]; omega
theorem tf_all (m : Nat) : tf m m = List.replicate m true := by simp [tf]
theorem flush_says (d : D) : ((flushD d).2 = 0 → d.dead = false ∧ (flushD d).1.bs = allL d.bs d.cs ∧ (flushD d).1.cs = []) ∧ ((flushD d).2 ≠ 0 → d.dead = true ∨ d.left = 0) := by
  unfold flushD
  by_cases h : d.dead = true
  · rw [if_pos h]
    exact ⟨fun e => absurd (show (17 : Int) = 0 from e) (by decide), fun _ => .inl h⟩
  · rw [if_neg h]
    by_cases h0 : d.left = 0
    · rw [if_pos h0]
      exact ⟨fun e => absurd (show (16 : Int) = 0 from e) (by decide), fun _ => .inr h0⟩
    · rw [if_neg h0]
      exact ⟨fun _ => ⟨by simpa using h, rfl, rfl⟩, fun e => absurd rfl e⟩
theorem read_all {d : D} (hd : d.dead = false) {i : Nat} (hi : i < d.bs.length) : readD d (i : Int) = (blk (allL d.bs d.cs) i, 0) := by
  unfold readD
  rw [if_neg (by rw [hd]; exact Bool.false_ne_true), if_pos ⟨by omega, by omega⟩]
  rw [show blk (allL d.bs d.cs) i = lastTo d.cs (i : Int) (d.bs.getD i ⟨#[]⟩) from all_last d.cs d.bs i hi]
  rfl

/-- What the walk keeps: the device's variable and lists, the copy's, those of what the flush gave. -/
structure Kp (w wr : World) (g2 g3 : Nat) (A A' A2 A2' A3 A3' : Option Addr) (n c m c' c2 c2' n3 c3 m3 c3' : Nat) (d F : D) : Prop where
  below : Below w.heap.size w wr
  b0 : B4 wr w.heap.size (.slice A n c) (.slice A' m c') (.int .i64 d.left) (.bool d.dead)
  b2 : B4 wr g2 (.slice A2 n c2) (.slice A2' m c2') (.int .i64 d.left) (.bool d.dead)
  b3 : B4 wr g3 (.slice A3 n3 c3) (.slice A3' m3 c3') (.int .i64 F.left) (.bool F.dead)
  v0 : Dv wr wr.heap.size A n A' m d
  v2 : Dv wr wr.heap.size A2 n A2' m d
  v3 : Dv wr wr.heap.size A3 n3 A3' m3 F
section
variable {w wr w' : World} {g2 g3 : Nat} {A A' A2 A2' A3 A3' : Option Addr} {n c m c' c2 c2' n3 c3 m3 c3' : Nat} {d F : D}
theorem Kp.step (h : Kp w wr g2 g3 A A' A2 A2' A3 A3' n c m c' c2 c2' n3 c3 m3 c3' d F) (hb : Below wr.heap.size wr w') : Kp w w' g2 g3 A A' A2 A2' A3 A3' n c m c' c2 c2' n3 c3 m3 c3' d F :=
  ⟨bstep h.below hb, h.b0.step hb, h.b2.step hb, h.b3.step hb, h.v0.step hb, h.v2.step hb, h.v3.step hb⟩
theorem Kp.alloc (h : Kp w wr g2 g3 A A' A2 A2' A3 A3' n c m c' c2 c2' n3 c3 m3 c3' d F) (o : Obj) : Kp w (wr.alloc o) g2 g3 A A' A2 A2' A3 A3' n c m c' c2 c2' n3 c3 m3 c3' d F :=
  h.step ((Below.refl _ _).alloc (Nat.le_refl _) o)
end
theorem Dv.drew {w : World} {B : Nat} {A A' : Option Addr} {n m : Nat} {d : D} (h : Dv w B A n A' m d) : Dv w.drew B A n A' m d := ⟨h.bs, h.cs, h.hn, h.hm⟩

set_option maxRecDepth 100000 in
set_option maxHeartbeats 4000000 in
theorem flushes_any (A A' : Option Addr) (n c m c' : Nat) (d : D) (w : World) (h : Dv w w.heap.size A n A' m d) (hl1 : d.left ≤ 9223372036854775807) :
    Calls Try.prog 6 #[.agg #[.slice A n c, .slice A' m c', .int .i64 d.left, .bool d.dead]] w fun e w' => e = .returned (.bool true) ∧ Below w.heap.size w w' := by
  have H := Lib.hid h
  have HL := Lib.hid hl1
  clear h hl1
  by_cases hf : FitP d
  case neg =>
    have c1 := fun W hW => refFit_any A A' n c m c' d W hW
    rw [fitD_false hf] at c1
    clear hf
    go_enter Try.func6, Try.ntmps6
    go_wp2_with (first
      | (go_at_call 11; refine (c1 _ (H.out.alloc _)).mono ?_; rintro e w1 ⟨rfl, hb1⟩)
      | (go_at_call 12; refine (awake_any _).mono ?_; rintro e w2 ⟨rfl, hb2⟩))
    go_ret
    exact ⟨rfl, (alloc_below0 _ _).trans ((bstep hb1 hb2).mono (by simp))⟩
  have hm63 : m ≤ 4096 := by have := hf.1.2.2.1; rw [H.out.cs.lenW] at this; exact this
  have hn63 : n ≤ 1024 := by have := hf.1.2.1; rw [H.out.bs.lenS] at this; exact this
  have hn1 : 0 < n := by have := hf.1.1; rw [H.out.bs.lenS] at this; exact this
  have c1 := fun W hW => refFit_any A A' n c m c' d W hW
  rw [fitD_true hf] at c1
  clear hf
  obtain ⟨i0, hi0, hz0, hz1, hz2⟩ := info_parts infoB
  go_enter Try.func6, Try.ntmps6
  go_wp2_with fail
  refine (c1 _ (H.out.alloc _)).mono ?_
  rintro e w1 ⟨rfl, hb1⟩
  have k1 := (B4.new w (.slice A n c) (.slice A' m c') (.int .i64 d.left) (.bool d.dead)).step hb1
  have B1 : Hid (Below w.heap.size w w1) := Lib.hid ((alloc_below0 _ _).trans (hb1.mono (by simp)))
  have H1 := Lib.hid (H.out.step B1.out)
  have K1 := Lib.hid k1
  obtain ⟨x0, x1, x2, x3, xf⟩ := k1.cells
  clear k1 hb1 c1
  go_wp2_with fail
  refine (refCopy_any A A' n c m c' d d.left d.dead _ H1.out).mono ?_
  rintro e w2 ⟨A2, c2, A2', c2', rfl, ho2, hb2⟩
  have B2 := Lib.hid (bstep B1.out hb2)
  have H2 := Lib.hid (And.intro (H1.out.step hb2) (Own.dv ho2 H.out.hn H.out.hm))
  have K2 := Lib.hid (K1.out.step hb2)
  clear x0 x1 x2 x3 xf ho2 hb2 H1 K1 B1
  have FS := Lib.hid (flush_says d)
  have cfl := fun W hW => flush_any A2 A2' n c2 m c2' d W hW HL.out hm63
  generalize (flushD d).1 = F at cfl FS
  generalize (flushD d).2 = fe at cfl FS
  go_wp2_with fail
  refine (cfl _ (H2.out.2.alloc _)).mono ?_
  rintro e w3 ⟨A3, n3, c3, A3', m3, c3', rfl, hd3, hb3⟩
  have B3 := Lib.hid (bstep (B2.out.alloc B2.out.size _) hb3)
  have K3 := Lib.hid (And.intro ((K2.out.alloc (.cells #[.slice A2 n c2, .slice A2' m c2', .int .i64 d.left, .bool d.dead] 26)).step hb3) ((B4.new w2 (.slice A2 n c2) (.slice A2' m c2') (.int .i64 d.left) (.bool d.dead)).step hb3))
  have H3 := Lib.hid (And.intro ((H2.out.1.alloc _).step hb3) (And.intro ((H2.out.2.alloc _).step hb3) hd3))
  clear hd3 hb3 cfl B2 K2 H2
  obtain ⟨x0, x1, x2, x3, xf⟩ := K3.out.1.cells
  have hz3 : w.heap.size < w3.heap.size := K3.out.1.lt
  have Q3 := Lib.hid (Kp.mk (B3.out.alloc B3.out.size (.cells #[.slice A3 n3 c3, .slice A3' m3 c3', .int .i64 F.left, .bool F.dead] 26)) (K3.out.1.alloc _) (K3.out.2.alloc _) (B4.new w3 (.slice A3 n3 c3) (.slice A3' m3 c3') (.int .i64 F.left) (.bool F.dead)) (H3.out.1.alloc _) (H3.out.2.1.alloc _) (H3.out.2.2.alloc _))
  go_wp2_with (at_make; refine wpList_make_full _ rfl _ _ 29 rfl (w3.heap.size + 1) 4 i0 _ 1 Try.underlying29 hi0 hz0 hz1 .i64 .i64 _ _ m rfl rfl rfl rfl ?_ ?_ ?_ ?_)
  · rw [hz2]; omega
  · simp only [maxLen]; omega
  · simp
  intro w4 ho4 hg4
  have J4 : Hid (w4.ownsRow (w3.heap.size + 1) 4 1 (.slice (some ⟨w3.heap.size + 1, 0, none⟩) m m) m (encB (tf m 0)) ∧ Below (w3.heap.size + 1) (w3.alloc (.cells #[.slice A3 n3 c3, .slice A3' m3 c3', .int .i64 F.left, .bool F.dead] 26)) w4) :=
    Lib.hid ⟨own_eq_vals (by simpa using ho4) (by rw [tf_zero]; exact toList_madeCells_one _ _), (Below.refl _ _).grown hg4 (by simp) (fun k hk => by cases hk)⟩
  have HS : Hid ((w3.alloc (.cells #[.slice A3 n3 c3, .slice A3' m3 c3', .int .i64 F.left, .bool F.dead] 26)).heap.size = w3.heap.size + 1) := Lib.hid (by simp)
  generalize w3.alloc (.cells #[.slice A3 n3 c3, .slice A3' m3 c3', .int .i64 F.left, .bool F.dead] 26) = W3 at Q3 J4 HS
  clear ho4 hg4 x0 x1 x2 x3 xf K3 H3 B3 hz3
  go_wp2
  go_loopg [29] m (fun g s29 wr => ∃ i : Nat, i ≤ m ∧ m - i ≤ g ∧ s29 = .int .i64 i ∧ Hid (wr.ownsRow (w3.heap.size + 1) 4 1 (.slice (some ⟨w3.heap.size + 1, 0, none⟩) m m) m (encB (tf m i)) ∧ Below (w3.heap.size + 1) W3 wr))
  case atStart => exact ⟨0, Nat.zero_le _, by omega, rfl, J4⟩
  case round =>
    obtain ⟨i, hi, hg, rfl, J⟩ := hrel
    by_cases hlt : i < m
    · have him : (i : Int) < (m : Int) := by omega
      have hci := J.out.1.cellAt i (by omega)
      rw [encB_get (by rw [tf_length hi]; exact hlt)] at hci
      have hfi := J.out.1.frozenAt i
      have JN : Hid ((wr.setCell ⟨w3.heap.size + 1, i, none⟩ (.bool true)).ownsRow (w3.heap.size + 1) 4 1 (.slice (some ⟨w3.heap.size + 1, 0, none⟩) m m) m (encB (tf m (i + 1))) ∧ Below (w3.heap.size + 1) W3 (wr.setCell ⟨w3.heap.size + 1, i, none⟩ (.bool true))) :=
        Lib.hid ⟨by rw [← tf_set hlt]; exact (J.out.1.stored i (.bool true)).1, J.out.2.setCell (by simp) _⟩
      go_wp2
      go_roundg (m - (i + 1))
      case measure => omega
      case rel => exact ⟨i + 1, by omega, by omega, by go_num, JN⟩
    · have : i = m := by omega
      subst this
      have hb4 : Below W3.heap.size W3 wr := by rw [HS.out]; exact J.out.2
      have P4 := Lib.hid (Q3.out.step hb4)
      have HK : Hid (Reads wr wr.heap.size 1 (some ⟨w3.heap.size + 1, 0, none⟩) i (encB (List.replicate i true))) := Lib.hid (by have := Reads.of_own J.out.1; rw [tf_all] at this; exact this)
      have X5 : Hid (crashD d (List.replicate i true) = ⟨allL d.bs d.cs, [], -1, false⟩) := Lib.hid (by unfold crashD allL; rw [P4.out.v0.cs.lenW])
      obtain ⟨x0, x1, x2, x3, xf⟩ := P4.out.b2.cells
      clear hb4 J hg hi hlt Q3 J4 HS
      go_wp2_with fail
      refine (crash_any A2 A2' (some ⟨w3.heap.size + 1, 0, none⟩) n c2 i c2' i i d (List.replicate i true) _ P4.out.v2 HK.out (Nat.le_refl _) (by simp only [maxLen]; omega)).mono ?_
      rintro e w5 ⟨A5, n5, c5, A5', m5, c5', rfl, hd5, hb5⟩
      rw [X5.out] at hd5 ⊢
      have hn5 : n5 = n := by rw [← hd5.bs.lenS, ← P4.out.v0.bs.lenS]; exact allL_length _ _
      subst hn5
      have P5 := Lib.hid (P4.out.step hb5)
      have V5 := Lib.hid hd5
      have hz5 : w.heap.size < w5.heap.size := P5.out.b0.lt
      clear x0 x1 x2 x3 xf hd5 hb5 X5 HK P4
      have P6 := Lib.hid (P5.out.alloc (.cells #[.slice A5 n5 c5, .slice A5' m5 c5', .int .i64 (-1), .bool false] 26))
      have V6 := Lib.hid (And.intro (B4.new w5 (.slice A5 n5 c5) (.slice A5' m5 c5') (.int .i64 (-1)) (.bool false)) (V5.out.alloc (.cells #[.slice A5 n5 c5, .slice A5' m5 c5', .int .i64 (-1), .bool false] 26)))
      obtain ⟨x0, x1, x2, x3, xf⟩ := P6.out.b2.cells
      go_wp2_with fail
      refine (arm_any A2 A2' n5 c2 i c2' d 0 _ P6.out.v2).mono ?_
      rintro e w6 ⟨A6, c6, A6', c6', rfl, ho6, hb6⟩
      have P7 := Lib.hid (P6.out.step hb6)
      have V7 := Lib.hid (And.intro (V6.out.1.step hb6) (V6.out.2.step hb6))
      clear x0 x1 x2 x3 xf P5 V5 P6 V6 ho6 hb6
      obtain ⟨x0, x1, x2, x3, xf⟩ := P7.out.b2.cells
      obtain ⟨z0, z1, z2, z3, zf⟩ := P7.out.b0.cells
      obtain ⟨b1, o1, rfl, _, g1⟩ := P7.out.v0.bs.str hn1
      rw [Nat.add_zero] at g1
      go_wp2_with fail
      go_still_tail 5, (by kernel_rfl)
      change wpList _ _ _ _ _ w6.drew
      go_wp2_with fail
      refine (write_any A2 A2' n5 c2 i c2' d 0 (blk d.bs 0) _ P7.out.v2.drew HL.out).mono ?_
      rintro e w7 ⟨A7, n7, c7, A7', m7, c7', rfl, hd7, hb7⟩
      have hb67 : Below w6.heap.size w6 w7 := ((Below.refl _ _).drew).trans hb7
      have P8 := Lib.hid (P7.out.step hb67)
      have V8 := Lib.hid (And.intro (V7.out.1.step hb67) (V7.out.2.step hb67))
      have csm : ∀ W, Dv W W.heap.size A2 n5 A2' i d → Dv W W.heap.size (some ⟨b1, o1, none⟩) n5 A' i d → Calls Try.prog 10 #[.agg #[.slice A2 n5 c2, .slice A2' i c2', .int .i64 d.left, .bool d.dead], .agg #[.slice (some ⟨b1, o1, none⟩) n5 c, .slice A' i c', .int .i64 d.left, .bool d.dead]] W fun e w' => e = .returned (.bool true) ∧ Below W.heap.size W w' := fun W h1 h2 =>
        (refSame_any A2 A2' n5 c2 i c2' d (some ⟨b1, o1, none⟩) A' n5 c i c' d W h1 h2).mono fun e w' h => by rw [decide_eq_true rfl] at h; exact h
      clear x0 x1 x2 x3 xf z0 z1 z2 z3 zf g1 P7 V7 hd7 hb7 hb67
      obtain ⟨x0, x1, x2, x3, xf⟩ := P8.out.b2.cells
      obtain ⟨z0, z1, z2, z3, zf⟩ := P8.out.b0.cells
      go_wp2_with fail
      refine (csm _ P8.out.v2 P8.out.v0).mono ?_
      rintro e w8 ⟨rfl, hb8⟩
      have P9 := Lib.hid (P8.out.step hb8)
      have V9 := Lib.hid (And.intro (V8.out.1.step hb8) (V8.out.2.step hb8))
      clear x0 x1 x2 x3 xf z0 z1 z2 z3 zf P8 V8 hb8 csm
      obtain ⟨z0, z1, z2, z3, zf⟩ := P9.out.b0.cells
      by_cases h0 : fe = 0
      · obtain ⟨hdd, hF1, hF2⟩ := FS.out.1 h0
        subst h0
        have hn3 : n3 = n5 := by rw [← P9.out.v3.bs.lenS, ← P9.out.v0.bs.lenS, hF1]; exact allL_length _ _
        have hm3 : m3 = 0 := by rw [← P9.out.v3.cs.lenW, hF2]; rfl
        subst hn3; subst hm3
        have cr : ∀ (q : Nat) W, q < n3 → Dv W W.heap.size (some ⟨b1, o1, none⟩) n3 A' i d → Calls Try.prog 22 #[.agg #[.slice (some ⟨b1, o1, none⟩) n3 c, .slice A' i c', .int .i64 d.left, .bool d.dead], .int .i64 q] W fun e w' => e = .returned (.tuple #[.string (blk (allL d.bs d.cs) q), .int .i64 0]) ∧ Below W.heap.size W w' := fun q W hq h1 =>
          (read_any (some ⟨b1, o1, none⟩) A' n3 c i c' d q W h1).mono fun e w' h => by rw [read_all hdd (by rw [h1.bs.lenS]; exact hq)] at h; exact h
        have HF := Lib.hid hF1
        clear hF1 hF2 FS hdd
        go_wp2_with fail
        go_loopg [66] n3 (fun g s66 wr => ∃ q : Nat, q ≤ n3 ∧ n3 - q ≤ g ∧ s66 = .int .i64 q ∧ Hid (Below w8.heap.size w8 wr))
        case atStart => exact ⟨0, Nat.zero_le _, by omega, rfl, Lib.hid (Below.refl _ _)⟩
        case round =>
          obtain ⟨q, hq, hg, rfl, J⟩ := hrel
          have PQ := Lib.hid (P9.out.step J.out)
          have VQ := Lib.hid (And.intro (V9.out.1.step J.out) (V9.out.2.step J.out))
          clear z0 z1 z2 z3 zf
          obtain ⟨z0, z1, z2, z3, zf⟩ := PQ.out.b0.cells
          by_cases hlt : q < n3
          · have hqn : (q : Int) < (n3 : Int) := by omega
            go_wp2_with fail
            refine (cr q _ hlt PQ.out.v0).mono ?_
            rintro e w9 ⟨rfl, hb9⟩
            have PR := Lib.hid (PQ.out.step hb9)
            have VR := Lib.hid (And.intro (VQ.out.1.step hb9) (VQ.out.2.step hb9))
            have JR : Hid (Below w8.heap.size w8 w9) := Lib.hid (bstep J.out hb9)
            clear z0 z1 z2 z3 zf PQ VQ hb9
            obtain ⟨z0, z1, z2, z3, zf⟩ := PR.out.b0.cells
            obtain ⟨y0, y1, y2, y3, yf⟩ := PR.out.b3.cells
            obtain ⟨v0, v1, v2, v3, vf⟩ := VR.out.1.cells
            obtain ⟨b3, o3, rfl, _, g3⟩ := PR.out.v3.bs.str hlt
            obtain ⟨b5, o5, rfl, _, g5⟩ := VR.out.2.bs.str hlt
            rw [HF.out] at g3
            go_wp2_with fail
            go_roundg (n3 - (q + 1))
            case measure => omega
            case rel => exact ⟨q + 1, by omega, by omega, by go_num, JR⟩
          · have : q = n3 := by omega
            subst this
            obtain ⟨y0, y1, y2, y3, yf⟩ := PQ.out.b3.cells
            go_wp2_with (go_at_call 12; refine (awake_any _).mono ?_; rintro e w9 ⟨rfl, hb9⟩)
            go_ret
            exact ⟨rfl, bstep PQ.out.below hb9⟩
      · have hfn : (fe != 0) = true := by simpa using h0
        have hfe : (fe == 0) = false := by simpa using h0
        have hdl := FS.out.2 h0
        clear FS
        cases hdd : d.dead
        · have hl0 : d.left = 0 := hdl.resolve_left (by rw [hdd]; exact Bool.false_ne_true)
          rw [hl0] at z2
          rw [hdd] at z3
          clear hl0 hdd hdl
          go_wp2_with (go_at_call 12; refine (awake_any _).mono ?_; rintro e w9 ⟨rfl, hb9⟩)
          go_ret
          exact ⟨rfl, bstep P9.out.below hb9⟩
        · rw [hdd] at z3
          clear hdd hdl
          go_wp2_with (go_at_call 12; refine (awake_any _).mono ?_; rintro e w9 ⟨rfl, hb9⟩)
          go_ret
          exact ⟨rfl, bstep P9.out.below hb9⟩

end Go.Proofs.Ytmkhffopmohdhaa
