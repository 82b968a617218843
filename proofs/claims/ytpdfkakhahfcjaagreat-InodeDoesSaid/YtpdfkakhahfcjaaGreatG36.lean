/-
  The document's own answer: bytes written.
-/
import Derived.Test.YtpdfkakhahfcjaaGreatG35
namespace Go.Proofs.YtpdfkakhahfcjaaGreat
open Go.RowKit

def wrtV (g n cg L c6 q b6 o6 v o j u : Nat) (A6 : Option Addr) (s data : ByteArray) : Nat → Value → World → Prop
 | 0 => eqV (.slice (some ⟨g, 0, none⟩) n cg)
 | 1 => eqV (.slice A6 L c6)
 | 2 => eqV (.int .i64 (q : Int))
 | 3 => eqV (.pointer (some ⟨b6, o6 + q, none⟩))
 | 4 => eqV (.int .i64 (v : Int))
 | 5 => eqV (.slice (some ⟨g, 0, none⟩) n cg)
 | 6 => eqV (.slice A6 L c6)
 | 7 => eqV (.int .i64 (q : Int))
 | 8 => eqV (.pointer (some ⟨b6, o6 + q, none⟩))
 | 9 => eqV (.int .i64 (v : Int))
 | 10 => eqV (.pointer (some ⟨g, v, none⟩))
 | 11 => eqV (.string s)
 | 12 => eqV (.int .i64 (o : Int))
 | 13 => eqV (.string (s.extract 0 o))
 | 14 => eqV (.string data)
 | 15 => eqV (.int .i64 (j : Int))
 | 16 => eqV (.int .i64 (j : Int))
 | 17 => eqV (.int .i64 (u : Int))
 | 18 => eqV (.int .i64 ((j : Int) + (u : Int)))
 | 19 => eqV (.string (data.extract j (j + u)))
 | 20 => eqV (.string (s.extract 0 o ++ data.extract j (j + u)))
 | 21 => eqV (.slice (some ⟨g, 0, none⟩) n cg)
 | 22 => eqV (.slice A6 L c6)
 | 23 => eqV (.int .i64 (q : Int))
 | 24 => eqV (.pointer (some ⟨b6, o6 + q, none⟩))
 | 25 => eqV (.int .i64 (v : Int))
 | 26 => eqV (.pointer (some ⟨g, v, none⟩))
 | 27 => eqV (.string s)
 | 28 => eqV (.int .i64 (o : Int))
 | 29 => eqV (.int .i64 (u : Int))
 | 30 => eqV (.int .i64 ((o : Int) + (u : Int)))
 | 31 => eqV (.string (s.extract (o + u) 128))
 | 32 => eqV (.string (s.extract 0 o ++ data.extract j (j + u) ++ s.extract (o + u) 128))
 | 33 => eqV (.pointer (some ⟨g, v, none⟩))
 | _ => fun _ _ => True
theorem wrtV_stable (g n cg L c6 q b6 o6 v o j u : Nat) (A6 : Option Addr) (s data : ByteArray) (i : Nat) (x : Value) (w w' : World) (h : wrtV g n cg L c6 q b6 o6 v o j u A6 s data i x w) : wrtV g n cg L c6 q b6 o6 v o j u A6 s data i x w' := by
 match i, h with
 | 0, h => exact h
 | 1, h => exact h
 | 2, h => exact h
 | 3, h => exact h
 | 4, h => exact h
 | 5, h => exact h
 | 6, h => exact h
 | 7, h => exact h
 | 8, h => exact h
 | 9, h => exact h
 | 10, h => exact h
 | 11, h => exact h
 | 12, h => exact h
 | 13, h => exact h
 | 14, h => exact h
 | 15, h => exact h
 | 16, h => exact h
 | 17, h => exact h
 | 18, h => exact h
 | 19, h => exact h
 | 20, h => exact h
 | 21, h => exact h
 | 22, h => exact h
 | 23, h => exact h
 | 24, h => exact h
 | 25, h => exact h
 | 26, h => exact h
 | 27, h => exact h
 | 28, h => exact h
 | 29, h => exact h
 | 30, h => exact h
 | 31, h => exact h
 | 32, h => exact h
 | 33, h => exact h
 | _ + 34, _ => trivial

set_option maxRecDepth 100000 in
set_option maxHeartbeats 30000000 in
theorem refWriteOk_any (A : Option Addr) (n c : Nat) (img : List ByteArray) (k at_ : Nat) (data : ByteArray) (w : World) (h : Reads w w.heap.size 1 A n (encS img)) (hs : SoundP img) (hk : k < cntA img.length) (hkd : (recI img k).kind ≠ 0) (hen : at_ + data.size ≤ 8704) (C : List ByteArray)
  (hC : ((recI img k).size < at_ + data.size ∧ truncI img (k : Int) ((at_ + data.size : Nat) : Int) = (C, 0)) ∨ (¬ (recI img k).size < at_ + data.size ∧ C = img)) :
  Calls Tryz.prog 13 #[.slice A n c, .int .i64 (k : Int), .int .i64 (at_ : Int), .string data] w fun e w' => ImgsO w w' (laidW at_ data C (recI C k)) 0 e := by
 have hmx : Tryz.prog.follows .mixedOrders = true := by kernel_rfl
 have hz7 := (zero_of_info info7).1
 have hl := h.lenS
 have h8 : 8 ≤ n := by have := hs.fit.1; omega
 have h5 : n ≤ 512 := by have := hs.fit.1; omega
 obtain ⟨p, hCl⟩ := wrP_of hs hk hkd hen hC
 have hg : getI img (k : Int) = (recI img k, 0) := by unfold getI; rw [if_neg (by omega), Int.toNat_natCast]
 have hgC : getI C (k : Int) = (recI C k, 0) := by unfold getI; rw [if_neg (by have := p.hk; omega), Int.toNat_natCast]
 have cH := refHeld_any A n c img (k : Int) w h hs.fit
 rw [show heldS img (k : Int) = (recI img k, 0) by unfold heldS; rw [hg]; simp [hkd]] at cH
 unfold GetP valI at cH
 have hok := recI_ok img k (by have := (first_le hs.fit.1.1 hs.fit.1.2).2.2.2.1; omega)
 have cO := fun W hW => refOwn_any A n c img W hW (by omega)
 have cT := fun W hW => refTrunc_any A n c img (k : Int) ((at_ : Int) + (data.size : Int)) W hW hs
 have cB := fun g cg W hW => refBlocks_any (some ⟨g, 0, none⟩) n cg C (k : Int) W hW p.sound
 rw [blksN_at p.sound p.hk hgC] at cB
 unfold RowP at cB
 have HWP := Lib.hid p
 have hnl := p.nd
 have hCn : C.length = n := by omega
 have hNL : (dataR (recI C k)).length ≤ (namedR (recI C k)).length := by unfold namedR; simp
 have HDN : Hid (∀ q, q < (dataR (recI C k)).length → (namedR (recI C k)).getD q 0 = (dataR (recI C k)).getD q 0) := Lib.hid (fun q hq => by
  unfold namedR
  rw [List.getD_eq_getElem?_getD, List.getD_eq_getElem?_getD, List.getElem?_append_left hq])
 have HL69 : Hid ((dataR (recI C k)).length ≤ 68) := Lib.hid (by rw [p.nd]; exact p.n68)
 have HST := Lib.hid p.start
 have HSP := Lib.hid (fun (j : Nat) (m : List ByteArray) (h : WJ C (recI C k) at_ data j m) (hj : j < data.size) (o u v : Nat) (ho : o = (at_ + j) % 128) (hu : u = min (128 - o) (data.size - j)) (hv : v = (dataR (recI C k)).getD ((at_ + j) / 128) 0) => p.step h hj ho hu hv)
 have HLS := Lib.hid (fun (m : List ByteArray) (h : WJ C (recI C k) at_ data data.size m) => p.last h)
 clear p hnl hg hgC hkd HWP
 obtain ⟨L, hL⟩ : ∃ L, L = (namedR (recI C k)).length := ⟨_, rfl⟩
 rw [← hL] at cB hNL
 clear hL
 have HCC := Lib.hid hC
 have hCC : (recI img k).size < at_ + data.size ∧ truncI img (k : Int) ((at_ + data.size : Nat) : Int) = (C, 0) ∨ ¬ (recI img k).size < at_ + data.size ∧ C = img := hC
 clear hC hs
 generalize recI img k = r at *
 generalize recI C k = rc at *
 have H := Lib.hid h
 have HR := Lib.hid hok
 clear h hok
 have hx0 : decide ((at_ : Int) < 0) = false := decide_eq_false (by omega)
 have hx1 : decide ((8704 : Int) < (at_ : Int)) = false := decide_eq_false (by omega)
 have hx1n : decide (8704 < at_) = false := decide_eq_false (by omega)
 have hx2 : decide ((8704 : Int) - (at_ : Int) < (data.size : Int)) = false := decide_eq_false (by omega)
 have hx3 : ¬ (8704 : Int) - (at_ : Int) < (data.size : Int) := by omega
 have hw1 : IntKind.i64.wrap ((8704 : Int) - (at_ : Int)) = (8704 : Int) - (at_ : Int) := by rw [IntKind.wrap_i64]; omega
 have hw2 : IntKind.i64.wrap ((at_ : Int) + (data.size : Int)) = (at_ : Int) + (data.size : Int) := by rw [IntKind.wrap_i64]; omega
 go_enter Tryz.func13, Tryz.ntmps13
 go_wp2_with fail
 refine cH.mono ?_
 rintro e w1 ⟨rfl, hb1⟩
 have hh1 := heap_alloc_new w1 (.cells (cellsI (zeroR 0)).toArray 47)
 obtain ⟨gx, hgx⟩ : ∃ gx, gx = w1.heap.size := ⟨_, rfl⟩
 have K2 := bstep hb1 (((Below.refl w1.heap.size w1).alloc (Nat.le_refl _) (.cells (cellsI (zeroR 0)).toArray 47)).trans (below_setRow _ (Nat.le_refl _) (cellsI r).toArray))
 have B2 := (BI.new w1 (zeroR 0)).setRow r
 have K2 := Lib.hid (And.intro K2 B2)
 clear hb1 cH B2
 go_upto_region 8 with (refine wpList_store_row rfl _ _ _ rfl w1.heap.size (cellsI r).toArray rfl rfl _ (cellsI (zeroR 0)).toArray hh1 (sizeI HR.out) (holdI okz HR.out) (all_oneCell_toArray (cellsI_one _)) ?_)
 clear hh1
 rw [← hgx] at K2 ⊢
 generalize (w1.alloc (.cells (cellsI (zeroR 0)).toArray 47)).setRow gx (cellsI r).toArray = w2 at K2 ⊢
 clear hgx
 go_wp2_with fail
 refine (cO w2 (H.out.step K2.out.1)).mono ?_
 rintro e w3 ⟨A3, c3, rfl, ho3, hb3⟩
 obtain ⟨g3, rfl, hO3⟩ := OwI.of ho3 (by omega)
 have K3 := Lib.hid (And.intro (bstep K2.out.1 hb3) (hO3.low K2.out.1.size))
 have hc1 := (K2.out.2.step hb3).size
 clear ho3 hb3 hO3 K2 cO
 rcases hCC with ⟨hT, hTe⟩ | ⟨hT, rfl⟩
 ·have ht1 : decide ((r.size : Int) < (at_ : Int) + (data.size : Int)) = true := decide_eq_true (by omega)
  have ht2 : decide (r.size < at_ + data.size) = true := decide_eq_true hT
  have ht3 : (r.size : Int) < (at_ : Int) + (data.size : Int) := by omega
  rw [show ((at_ : Int) + (data.size : Int)) = ((at_ + data.size : Nat) : Int) by omega, hTe] at cT
  rw [show ((at_ + data.size : Nat) : Int) = ((at_ : Int) + (data.size : Int)) by omega] at cT
  have HTE := Lib.hid hTe
  clear hTe
  go_wp2_with fail
  refine (cT w3 (H.out.step K3.out.1)).mono ?_
  rintro e w5 ⟨g5, n5, c5, rfl, hO5, hn5, hb5⟩
  have en : n = n5 := by have := hO5.len; omega
  subst en
  have K5 := Lib.hid (And.intro (bstep K3.out.1 hb5) (hO5.low K3.out.1.size))
  clear hO5 hb5 K3 hn5
  go_wp2_with fail
  have hgw := K5.out.2.lt
  have hgg := K5.out.2.ge
  refine (cB g5 c5 w5 K5.out.2.reads).mono ?_
  rintro e w6 ⟨A6, c6, rfl, ho6, hb6⟩
  have hw36 := hb6.size
  have K6 := Lib.hid (And.intro (K5.out.2.step hb6) (And.intro (bstep K5.out.1 hb6) ho6))
  clear ho6 hb6 cB hc1 ht1 ht2 ht3 cT
  go_wp2
  go_loopg [14] data.size (fun gk s14 wr => ∃ (j : Nat) (m : List ByteArray), j ≤ data.size ∧ data.size - j ≤ gk ∧ s14 = .int .i64 j ∧ Hid (WJ C rc at_ data j m ∧ OwI wr w.heap.size g5 n c5 m ∧ But g5 w6 wr))
  case atStart => exact ⟨0, C, Nat.zero_le _, by omega, rfl, Lib.hid ⟨HST.out, K6.out.1, But.refl _ _⟩⟩
  case round =>
   obtain ⟨j, m, hj, hgk, rfl, J⟩ := hrel
   by_cases hlt : j < data.size
   ·obtain ⟨q, hq⟩ : ∃ q, q = (at_ + j) / 128 := ⟨_, rfl⟩
    obtain ⟨o, ho⟩ : ∃ o, o = (at_ + j) % 128 := ⟨_, rfl⟩
    obtain ⟨u, hu⟩ : ∃ u, u = min (128 - o) (data.size - j) := ⟨_, rfl⟩
    obtain ⟨v, hv⟩ : ∃ v, v = (dataR rc).getD ((at_ + j) / 128) 0 := ⟨_, rfl⟩
    obtain ⟨x1, x2, x3, x4, x5, x6⟩ := HSP.out j m J.out.1 hlt o u v ho hu hv
    rw [← hq] at x1 hv
    have hqL : q < L := by omega
    have hvn : v < n := by omega
    have hgv : (namedR rc).getD q 0 = v := by rw [HDN.out q x1, ← hv]
    obtain ⟨s, hs⟩ : ∃ s, s = blk m v := ⟨_, rfl⟩
    rw [← hs] at x5 x6
    have HX6 := Lib.hid x6
    have HS := Lib.hid hs
    have HGV := Lib.hid hgv
    have hlI : (j : Int) < (data.size : Int) := by omega
    have hd1 : ((at_ : Int) + (j : Int)).tdiv 128 = (q : Int) := by rw [Int.tdiv_eq_ediv_of_nonneg (by omega)]; omega
    have hd2 : ((at_ : Int) + (j : Int)) / 128 = (q : Int) := by omega
    have hm1 : ((at_ : Int) + (j : Int)).tmod 128 = (o : Int) := by rw [Int.tmod_eq_emod_of_nonneg (by omega)]; omega
    have hm2 : ((at_ : Int) + (j : Int)) % 128 = (o : Int) := by omega
    have hw3 : IntKind.i64.wrap ((at_ : Int) + (j : Int)) = (at_ : Int) + (j : Int) := by rw [IntKind.wrap_i64]; omega
    have ho128 : o < 128 := by omega
    have hu1 : u ≤ 128 - o ∧ u ≤ data.size - j ∧ 0 < u := by omega
    have hmin : min ((128 : Int) - (o : Int)) ((data.size : Int) - (j : Int)) = (u : Int) := by omega
    have hw4 : IntKind.i64.wrap ((128 : Int) - (o : Int)) = (128 : Int) - (o : Int) := by rw [IntKind.wrap_i64]; omega
    have hw5 : IntKind.i64.wrap ((data.size : Int) - (j : Int)) = (data.size : Int) - (j : Int) := by rw [IntKind.wrap_i64]; omega
    have HUU := Lib.hid hu1
    clear hq ho hu hv hs x6 hgv hu1
    obtain ⟨b6, o6, rfl, hb6l, hl6⟩ := (Reads.of_own K6.out.2.2).nat hqL
    rw [HGV.out] at hl6
    have HL6 := Lib.hid hl6
    have hb6g : b6 ≠ g5 := by
     have h9 := own_row_ge K6.out.2.2 b6 rfl
     omega
    clear hl6
    go_upto_region 20 with fail
    try rw [hmin]
    have hq3 : (q : Int) < (L : Int) := by omega
    have hvnI : (v : Int) < (n : Int) := by omega
    have ho0 : (0 : Int) ≤ (o : Int) := by omega
    have ho1 : (o : Int) ≤ 128 := by omega
    have hju1 : (j : Int) + (u : Int) ≤ (data.size : Int) := by have := HUU.out; omega
    have hju0 : (j : Int) ≤ (j : Int) + (u : Int) := by omega
    have hou1 : (o : Int) + (u : Int) ≤ 128 := by have := HUU.out; omega
    have hou0 : (0 : Int) ≤ (o : Int) + (u : Int) := by omega
    have hw6 : IntKind.i64.wrap ((j : Int) + (u : Int)) = (j : Int) + (u : Int) := by rw [IntKind.wrap_i64]; omega
    have hw7 : IntKind.i64.wrap ((o : Int) + (u : Int)) = (o : Int) + (u : Int) := by rw [IntKind.wrap_i64]; omega
    have hn1 : ((j : Int) + (u : Int)).toNat = j + u := by omega
    have hn2 : ((o : Int) + (u : Int)).toNat = o + u := by omega
    clear hmin hd1 hd2 hm1 hm2 hw3 hw4 hw5
    refine wp_region_last [[], [], [], [1, 2], [3], [], [], [], [6, 7], [8], [5, 9], [10], [], [11, 12], [], [], [], [], [16, 17], [14, 15, 18], [13, 19], [], [], [], [22, 23], [24], [21, 25], [26], [], [], [28, 29], [27, 30], [20, 31], [0, 4, 0, 1, 2, 3, 4, 5, 6, 7, 8, 9, 10, 11, 12, 13, 14, 15, 16, 17, 18, 19, 20, 21, 22, 23, 24, 25, 26, 27, 28, 29, 30, 31, 32], [33, 32, 0, 1, 2, 3, 4, 5, 6, 7, 8, 9, 10, 11, 12, 13, 14, 15, 16, 17, 18, 19, 20, 21, 22, 23, 24, 25, 26, 27, 28, 29, 30, 31, 32]] 34 (fun W => OwI W w.heap.size g5 n c5 m ∧ But g5 w6 W) (fun W => OwI W w.heap.size g5 n c5 (m.set v (s.extract 0 o ++ data.extract j (j + u) ++ s.extract (o + u) 128)) ∧ But g5 w6 W) (wrtV g5 n c5 L c6 q b6 o6 v o j u (some ⟨b6, o6, none⟩) s data) hmx (by kernel_rfl) (by kernel_rfl) rfl (by decide) (by decide) ⟨J.out.2.1.step (Below.refl _ _).drew, J.out.2.2.drewN 1⟩ (fun W W' hb hD => ⟨hD.1.step hb, hD.2.trans_below hb hD.2.size⟩) (fun i x W W' _ h => wrtV_stable g5 n c5 L c6 q b6 o6 v o j u (some ⟨b6, o6, none⟩) s data i x W W' h) ?_ ?_
    ·refine ⟨?_, ?_, ?_, ?_, ?_, ?_, ?_, ?_, ?_, ?_, ?_, ?_, ?_, ?_, ?_, ?_, ?_, ?_, ?_, ?_, ?_, ?_, ?_, ?_, ?_, ?_, ?_, ?_, ?_, ?_, ?_, ?_, ?_, ?_, ?_, trivial⟩
     ·intro V W hC hd K hK
      clear hd
      simp only [laidL, Act.put, List.setIfInBounds_toArray, List.set_cons_zero, List.set_cons_succ] at hK ⊢
      go_simp
      exact hK _ _ ⟨fun _ => ⟨Below.refl _ _, rfl⟩, fun h => absurd h (by decide)⟩
     ·intro V W hC hd K hK
      clear hd
      simp only [laidL, Act.put, List.setIfInBounds_toArray, List.set_cons_zero, List.set_cons_succ] at hK ⊢
      go_simp
      exact hK _ _ ⟨fun _ => ⟨Below.refl _ _, rfl⟩, fun h => absurd h (by decide)⟩
     ·intro V W hC hd K hK
      clear hd
      simp only [laidL, Act.put, List.setIfInBounds_toArray, List.set_cons_zero, List.set_cons_succ] at hK ⊢
      go_simp
      exact hK _ _ ⟨fun _ => ⟨Below.refl _ _, rfl⟩, fun h => absurd h (by decide)⟩
     ·intro V W hC hd K hK
      have q1 : wrtV g5 n c5 L c6 q b6 o6 v o j u (some ⟨b6, o6, none⟩) s data 1 (V 1) W := hd.1
      have e1 : V 1 = .slice (some ⟨b6, o6, none⟩) L c6 := q1
      clear q1
      have q2 : wrtV g5 n c5 L c6 q b6 o6 v o j u (some ⟨b6, o6, none⟩) s data 2 (V 2) W := hd.2.1
      have e2 : V 2 = .int .i64 (q : Int) := q2
      clear q2
      clear hd
      simp only [laidL, Act.put, List.setIfInBounds_toArray, List.set_cons_zero, List.set_cons_succ] at hK ⊢
      generalize V 1 = v1 at e1 hK ⊢
      subst e1
      generalize V 2 = v2 at e2 hK ⊢
      subst e2
      go_simp
      refine hK _ _ ⟨fun _ => ⟨Below.refl _ _, ?_⟩, fun h => absurd h (by decide)⟩
      first | rfl | exact congrArg (fun x => Value.pointer (some ⟨b6, x, none⟩)) (by omega)
     ·intro V W hC hd K hK
      have q3 : wrtV g5 n c5 L c6 q b6 o6 v o j u (some ⟨b6, o6, none⟩) s data 3 (V 3) W := hd.1
      have e3 : V 3 = .pointer (some ⟨b6, o6 + q, none⟩) := q3
      clear q3
      clear hd
      simp only [laidL, Act.put, List.setIfInBounds_toArray, List.set_cons_zero, List.set_cons_succ] at hK ⊢
      generalize V 3 = v3 at e3 hK ⊢
      subst e3
      have hcell : W.cell? ⟨b6, o6 + q, none⟩ = some (.int .i64 (v : Int)) := by
       have h9 := hC.2.cell (o := o6 + q) hb6l hb6g
       rw [h9, HL6.out]
      go_simp
      exact hK _ _ ⟨fun _ => ⟨Below.refl _ _, rfl⟩, fun h => absurd h (by decide)⟩
     ·intro V W hC hd K hK
      clear hd
      simp only [laidL, Act.put, List.setIfInBounds_toArray, List.set_cons_zero, List.set_cons_succ] at hK ⊢
      go_simp
      exact hK _ _ ⟨fun _ => ⟨Below.refl _ _, rfl⟩, fun h => absurd h (by decide)⟩
     ·intro V W hC hd K hK
      clear hd
      simp only [laidL, Act.put, List.setIfInBounds_toArray, List.set_cons_zero, List.set_cons_succ] at hK ⊢
      go_simp
      exact hK _ _ ⟨fun _ => ⟨Below.refl _ _, rfl⟩, fun h => absurd h (by decide)⟩
     ·intro V W hC hd K hK
      clear hd
      simp only [laidL, Act.put, List.setIfInBounds_toArray, List.set_cons_zero, List.set_cons_succ] at hK ⊢
      go_simp
      exact hK _ _ ⟨fun _ => ⟨Below.refl _ _, rfl⟩, fun h => absurd h (by decide)⟩
     ·intro V W hC hd K hK
      have q6 : wrtV g5 n c5 L c6 q b6 o6 v o j u (some ⟨b6, o6, none⟩) s data 6 (V 6) W := hd.1
      have e6 : V 6 = .slice (some ⟨b6, o6, none⟩) L c6 := q6
      clear q6
      have q7 : wrtV g5 n c5 L c6 q b6 o6 v o j u (some ⟨b6, o6, none⟩) s data 7 (V 7) W := hd.2.1
      have e7 : V 7 = .int .i64 (q : Int) := q7
      clear q7
      clear hd
      simp only [laidL, Act.put, List.setIfInBounds_toArray, List.set_cons_zero, List.set_cons_succ] at hK ⊢
      generalize V 6 = v6 at e6 hK ⊢
      subst e6
      generalize V 7 = v7 at e7 hK ⊢
      subst e7
      go_simp
      refine hK _ _ ⟨fun _ => ⟨Below.refl _ _, ?_⟩, fun h => absurd h (by decide)⟩
      first | rfl | exact congrArg (fun x => Value.pointer (some ⟨b6, x, none⟩)) (by omega)
     ·intro V W hC hd K hK
      have q8 : wrtV g5 n c5 L c6 q b6 o6 v o j u (some ⟨b6, o6, none⟩) s data 8 (V 8) W := hd.1
      have e8 : V 8 = .pointer (some ⟨b6, o6 + q, none⟩) := q8
      clear q8
      clear hd
      simp only [laidL, Act.put, List.setIfInBounds_toArray, List.set_cons_zero, List.set_cons_succ] at hK ⊢
      generalize V 8 = v8 at e8 hK ⊢
      subst e8
      have hcell : W.cell? ⟨b6, o6 + q, none⟩ = some (.int .i64 (v : Int)) := by
       have h9 := hC.2.cell (o := o6 + q) hb6l hb6g
       rw [h9, HL6.out]
      go_simp
      exact hK _ _ ⟨fun _ => ⟨Below.refl _ _, rfl⟩, fun h => absurd h (by decide)⟩
     ·intro V W hC hd K hK
      have q5 : wrtV g5 n c5 L c6 q b6 o6 v o j u (some ⟨b6, o6, none⟩) s data 5 (V 5) W := hd.1
      have e5 : V 5 = .slice (some ⟨g5, 0, none⟩) n c5 := q5
      clear q5
      have q9 : wrtV g5 n c5 L c6 q b6 o6 v o j u (some ⟨b6, o6, none⟩) s data 9 (V 9) W := hd.2.1
      have e9 : V 9 = .int .i64 (v : Int) := q9
      clear q9
      clear hd
      simp only [laidL, Act.put, List.setIfInBounds_toArray, List.set_cons_zero, List.set_cons_succ] at hK ⊢
      generalize V 5 = v5 at e5 hK ⊢
      subst e5
      generalize V 9 = v9 at e9 hK ⊢
      subst e9
      go_simp
      exact hK _ _ ⟨fun _ => ⟨Below.refl _ _, rfl⟩, fun h => absurd h (by decide)⟩
     ·intro V W hC hd K hK
      have q10 : wrtV g5 n c5 L c6 q b6 o6 v o j u (some ⟨b6, o6, none⟩) s data 10 (V 10) W := hd.1
      have e10 : V 10 = .pointer (some ⟨g5, v, none⟩) := q10
      clear q10
      clear hd
      simp only [laidL, Act.put, List.setIfInBounds_toArray, List.set_cons_zero, List.set_cons_succ] at hK ⊢
      generalize V 10 = v10 at e10 hK ⊢
      subst e10
      have hcell : W.cell? ⟨g5, v, none⟩ = some (.string s) := by
       have h9 := hC.1.cell v hvn
       rw [HS.out]; exact h9
      go_simp
      exact hK _ _ ⟨fun _ => ⟨Below.refl _ _, rfl⟩, fun h => absurd h (by decide)⟩
     ·intro V W hC hd K hK
      clear hd
      simp only [laidL, Act.put, List.setIfInBounds_toArray, List.set_cons_zero, List.set_cons_succ] at hK ⊢
      go_simp
      exact hK _ _ ⟨fun _ => ⟨Below.refl _ _, rfl⟩, fun h => absurd h (by decide)⟩
     ·intro V W hC hd K hK
      have q11 : wrtV g5 n c5 L c6 q b6 o6 v o j u (some ⟨b6, o6, none⟩) s data 11 (V 11) W := hd.1
      have e11 : V 11 = .string s := q11
      clear q11
      have q12 : wrtV g5 n c5 L c6 q b6 o6 v o j u (some ⟨b6, o6, none⟩) s data 12 (V 12) W := hd.2.1
      have e12 : V 12 = .int .i64 (o : Int) := q12
      clear q12
      clear hd
      simp only [laidL, Act.put, List.setIfInBounds_toArray, List.set_cons_zero, List.set_cons_succ] at hK ⊢
      generalize V 11 = v11 at e11 hK ⊢
      subst e11
      generalize V 12 = v12 at e12 hK ⊢
      subst e12
      go_simp
      exact hK _ _ ⟨fun _ => ⟨Below.refl _ _, rfl⟩, fun h => absurd h (by decide)⟩
     ·intro V W hC hd K hK
      clear hd
      simp only [laidL, Act.put, List.setIfInBounds_toArray, List.set_cons_zero, List.set_cons_succ] at hK ⊢
      go_simp
      exact hK _ _ ⟨fun _ => ⟨Below.refl _ _, rfl⟩, fun h => absurd h (by decide)⟩
     ·intro V W hC hd K hK
      clear hd
      simp only [laidL, Act.put, List.setIfInBounds_toArray, List.set_cons_zero, List.set_cons_succ] at hK ⊢
      go_simp
      exact hK _ _ ⟨fun _ => ⟨Below.refl _ _, rfl⟩, fun h => absurd h (by decide)⟩
     ·intro V W hC hd K hK
      clear hd
      simp only [laidL, Act.put, List.setIfInBounds_toArray, List.set_cons_zero, List.set_cons_succ] at hK ⊢
      go_simp
      exact hK _ _ ⟨fun _ => ⟨Below.refl _ _, rfl⟩, fun h => absurd h (by decide)⟩
     ·intro V W hC hd K hK
      clear hd
      simp only [laidL, Act.put, List.setIfInBounds_toArray, List.set_cons_zero, List.set_cons_succ] at hK ⊢
      go_simp
      exact hK _ _ ⟨fun _ => ⟨Below.refl _ _, rfl⟩, fun h => absurd h (by decide)⟩
     ·intro V W hC hd K hK
      have q16 : wrtV g5 n c5 L c6 q b6 o6 v o j u (some ⟨b6, o6, none⟩) s data 16 (V 16) W := hd.1
      have e16 : V 16 = .int .i64 (j : Int) := q16
      clear q16
      have q17 : wrtV g5 n c5 L c6 q b6 o6 v o j u (some ⟨b6, o6, none⟩) s data 17 (V 17) W := hd.2.1
      have e17 : V 17 = .int .i64 (u : Int) := q17
      clear q17
      clear hd
      simp only [laidL, Act.put, List.setIfInBounds_toArray, List.set_cons_zero, List.set_cons_succ] at hK ⊢
      generalize V 16 = v16 at e16 hK ⊢
      subst e16
      generalize V 17 = v17 at e17 hK ⊢
      subst e17
      go_simp
      exact hK _ _ ⟨fun _ => ⟨Below.refl _ _, rfl⟩, fun h => absurd h (by decide)⟩
     ·intro V W hC hd K hK
      have q14 : wrtV g5 n c5 L c6 q b6 o6 v o j u (some ⟨b6, o6, none⟩) s data 14 (V 14) W := hd.1
      have e14 : V 14 = .string data := q14
      clear q14
      have q15 : wrtV g5 n c5 L c6 q b6 o6 v o j u (some ⟨b6, o6, none⟩) s data 15 (V 15) W := hd.2.1
      have e15 : V 15 = .int .i64 (j : Int) := q15
      clear q15
      have q18 : wrtV g5 n c5 L c6 q b6 o6 v o j u (some ⟨b6, o6, none⟩) s data 18 (V 18) W := hd.2.2.1
      have e18 : V 18 = .int .i64 ((j : Int) + (u : Int)) := q18
      clear q18
      clear hd
      simp only [laidL, Act.put, List.setIfInBounds_toArray, List.set_cons_zero, List.set_cons_succ] at hK ⊢
      generalize V 14 = v14 at e14 hK ⊢
      subst e14
      generalize V 15 = v15 at e15 hK ⊢
      subst e15
      generalize V 18 = v18 at e18 hK ⊢
      subst e18
      go_simp
      exact hK _ _ ⟨fun _ => ⟨Below.refl _ _, rfl⟩, fun h => absurd h (by decide)⟩
     ·intro V W hC hd K hK
      have q13 : wrtV g5 n c5 L c6 q b6 o6 v o j u (some ⟨b6, o6, none⟩) s data 13 (V 13) W := hd.1
      have e13 : V 13 = .string (s.extract 0 o) := q13
      clear q13
      have q19 : wrtV g5 n c5 L c6 q b6 o6 v o j u (some ⟨b6, o6, none⟩) s data 19 (V 19) W := hd.2.1
      have e19 : V 19 = .string (data.extract j (j + u)) := q19
      clear q19
      clear hd
      simp only [laidL, Act.put, List.setIfInBounds_toArray, List.set_cons_zero, List.set_cons_succ] at hK ⊢
      generalize V 13 = v13 at e13 hK ⊢
      subst e13
      generalize V 19 = v19 at e19 hK ⊢
      subst e19
      have hno : ¬ 9223372036854775807 < min o 128 + (min (j + u) data.size - j) := by omega
      go_simp
      exact hK _ _ ⟨fun _ => ⟨Below.refl _ _, rfl⟩, fun h => absurd h (by decide)⟩
     ·intro V W hC hd K hK
      clear hd
      simp only [laidL, Act.put, List.setIfInBounds_toArray, List.set_cons_zero, List.set_cons_succ] at hK ⊢
      go_simp
      exact hK _ _ ⟨fun _ => ⟨Below.refl _ _, rfl⟩, fun h => absurd h (by decide)⟩
     ·intro V W hC hd K hK
      clear hd
      simp only [laidL, Act.put, List.setIfInBounds_toArray, List.set_cons_zero, List.set_cons_succ] at hK ⊢
      go_simp
      exact hK _ _ ⟨fun _ => ⟨Below.refl _ _, rfl⟩, fun h => absurd h (by decide)⟩
     ·intro V W hC hd K hK
      clear hd
      simp only [laidL, Act.put, List.setIfInBounds_toArray, List.set_cons_zero, List.set_cons_succ] at hK ⊢
      go_simp
      exact hK _ _ ⟨fun _ => ⟨Below.refl _ _, rfl⟩, fun h => absurd h (by decide)⟩
     ·intro V W hC hd K hK
      have q22 : wrtV g5 n c5 L c6 q b6 o6 v o j u (some ⟨b6, o6, none⟩) s data 22 (V 22) W := hd.1
      have e22 : V 22 = .slice (some ⟨b6, o6, none⟩) L c6 := q22
      clear q22
      have q23 : wrtV g5 n c5 L c6 q b6 o6 v o j u (some ⟨b6, o6, none⟩) s data 23 (V 23) W := hd.2.1
      have e23 : V 23 = .int .i64 (q : Int) := q23
      clear q23
      clear hd
      simp only [laidL, Act.put, List.setIfInBounds_toArray, List.set_cons_zero, List.set_cons_succ] at hK ⊢
      generalize V 22 = v22 at e22 hK ⊢
      subst e22
      generalize V 23 = v23 at e23 hK ⊢
      subst e23
      go_simp
      refine hK _ _ ⟨fun _ => ⟨Below.refl _ _, ?_⟩, fun h => absurd h (by decide)⟩
      first | rfl | exact congrArg (fun x => Value.pointer (some ⟨b6, x, none⟩)) (by omega)
     ·intro V W hC hd K hK
      have q24 : wrtV g5 n c5 L c6 q b6 o6 v o j u (some ⟨b6, o6, none⟩) s data 24 (V 24) W := hd.1
      have e24 : V 24 = .pointer (some ⟨b6, o6 + q, none⟩) := q24
      clear q24
      clear hd
      simp only [laidL, Act.put, List.setIfInBounds_toArray, List.set_cons_zero, List.set_cons_succ] at hK ⊢
      generalize V 24 = v24 at e24 hK ⊢
      subst e24
      have hcell : W.cell? ⟨b6, o6 + q, none⟩ = some (.int .i64 (v : Int)) := by
       have h9 := hC.2.cell (o := o6 + q) hb6l hb6g
       rw [h9, HL6.out]
      go_simp
      exact hK _ _ ⟨fun _ => ⟨Below.refl _ _, rfl⟩, fun h => absurd h (by decide)⟩
     ·intro V W hC hd K hK
      have q21 : wrtV g5 n c5 L c6 q b6 o6 v o j u (some ⟨b6, o6, none⟩) s data 21 (V 21) W := hd.1
      have e21 : V 21 = .slice (some ⟨g5, 0, none⟩) n c5 := q21
      clear q21
      have q25 : wrtV g5 n c5 L c6 q b6 o6 v o j u (some ⟨b6, o6, none⟩) s data 25 (V 25) W := hd.2.1
      have e25 : V 25 = .int .i64 (v : Int) := q25
      clear q25
      clear hd
      simp only [laidL, Act.put, List.setIfInBounds_toArray, List.set_cons_zero, List.set_cons_succ] at hK ⊢
      generalize V 21 = v21 at e21 hK ⊢
      subst e21
      generalize V 25 = v25 at e25 hK ⊢
      subst e25
      go_simp
      exact hK _ _ ⟨fun _ => ⟨Below.refl _ _, rfl⟩, fun h => absurd h (by decide)⟩
     ·intro V W hC hd K hK
      have q26 : wrtV g5 n c5 L c6 q b6 o6 v o j u (some ⟨b6, o6, none⟩) s data 26 (V 26) W := hd.1
      have e26 : V 26 = .pointer (some ⟨g5, v, none⟩) := q26
      clear q26
      clear hd
      simp only [laidL, Act.put, List.setIfInBounds_toArray, List.set_cons_zero, List.set_cons_succ] at hK ⊢
      generalize V 26 = v26 at e26 hK ⊢
      subst e26
      have hcell : W.cell? ⟨g5, v, none⟩ = some (.string s) := by
       have h9 := hC.1.cell v hvn
       rw [HS.out]; exact h9
      go_simp
      exact hK _ _ ⟨fun _ => ⟨Below.refl _ _, rfl⟩, fun h => absurd h (by decide)⟩
     ·intro V W hC hd K hK
      clear hd
      simp only [laidL, Act.put, List.setIfInBounds_toArray, List.set_cons_zero, List.set_cons_succ] at hK ⊢
      go_simp
      exact hK _ _ ⟨fun _ => ⟨Below.refl _ _, rfl⟩, fun h => absurd h (by decide)⟩
     ·intro V W hC hd K hK
      clear hd
      simp only [laidL, Act.put, List.setIfInBounds_toArray, List.set_cons_zero, List.set_cons_succ] at hK ⊢
      go_simp
      exact hK _ _ ⟨fun _ => ⟨Below.refl _ _, rfl⟩, fun h => absurd h (by decide)⟩
     ·intro V W hC hd K hK
      have q28 : wrtV g5 n c5 L c6 q b6 o6 v o j u (some ⟨b6, o6, none⟩) s data 28 (V 28) W := hd.1
      have e28 : V 28 = .int .i64 (o : Int) := q28
      clear q28
      have q29 : wrtV g5 n c5 L c6 q b6 o6 v o j u (some ⟨b6, o6, none⟩) s data 29 (V 29) W := hd.2.1
      have e29 : V 29 = .int .i64 (u : Int) := q29
      clear q29
      clear hd
      simp only [laidL, Act.put, List.setIfInBounds_toArray, List.set_cons_zero, List.set_cons_succ] at hK ⊢
      generalize V 28 = v28 at e28 hK ⊢
      subst e28
      generalize V 29 = v29 at e29 hK ⊢
      subst e29
      go_simp
      exact hK _ _ ⟨fun _ => ⟨Below.refl _ _, rfl⟩, fun h => absurd h (by decide)⟩
     ·intro V W hC hd K hK
      have q27 : wrtV g5 n c5 L c6 q b6 o6 v o j u (some ⟨b6, o6, none⟩) s data 27 (V 27) W := hd.1
      have e27 : V 27 = .string s := q27
      clear q27
      have q30 : wrtV g5 n c5 L c6 q b6 o6 v o j u (some ⟨b6, o6, none⟩) s data 30 (V 30) W := hd.2.1
      have e30 : V 30 = .int .i64 ((o : Int) + (u : Int)) := q30
      clear q30
      clear hd
      simp only [laidL, Act.put, List.setIfInBounds_toArray, List.set_cons_zero, List.set_cons_succ] at hK ⊢
      generalize V 27 = v27 at e27 hK ⊢
      subst e27
      generalize V 30 = v30 at e30 hK ⊢
      subst e30
      go_simp
      exact hK _ _ ⟨fun _ => ⟨Below.refl _ _, rfl⟩, fun h => absurd h (by decide)⟩
     ·intro V W hC hd K hK
      have q20 : wrtV g5 n c5 L c6 q b6 o6 v o j u (some ⟨b6, o6, none⟩) s data 20 (V 20) W := hd.1
      have e20 : V 20 = .string (s.extract 0 o ++ data.extract j (j + u)) := q20
      clear q20
      have q31 : wrtV g5 n c5 L c6 q b6 o6 v o j u (some ⟨b6, o6, none⟩) s data 31 (V 31) W := hd.2.1
      have e31 : V 31 = .string (s.extract (o + u) 128) := q31
      clear q31
      clear hd
      simp only [laidL, Act.put, List.setIfInBounds_toArray, List.set_cons_zero, List.set_cons_succ] at hK ⊢
      generalize V 20 = v20 at e20 hK ⊢
      subst e20
      generalize V 31 = v31 at e31 hK ⊢
      subst e31
      have hno : ¬ 9223372036854775807 < min o 128 + (min (j + u) data.size - j) + (128 - (o + u)) := by omega
      go_simp
      exact hK _ _ ⟨fun _ => ⟨Below.refl _ _, rfl⟩, fun h => absurd h (by decide)⟩
     ·intro V W hC hd K hK
      have q0 : wrtV g5 n c5 L c6 q b6 o6 v o j u (some ⟨b6, o6, none⟩) s data 0 (V 0) W := hd.1
      have e0 : V 0 = .slice (some ⟨g5, 0, none⟩) n c5 := q0
      clear q0
      have q4 : wrtV g5 n c5 L c6 q b6 o6 v o j u (some ⟨b6, o6, none⟩) s data 4 (V 4) W := hd.2.1
      have e4 : V 4 = .int .i64 (v : Int) := q4
      clear q4
      clear hd
      simp only [laidL, Act.put, List.setIfInBounds_toArray, List.set_cons_zero, List.set_cons_succ] at hK ⊢
      generalize V 0 = v0 at e0 hK ⊢
      subst e0
      generalize V 4 = v4 at e4 hK ⊢
      subst e4
      go_simp
      exact hK _ _ ⟨fun _ => ⟨Below.refl _ _, rfl⟩, fun h => absurd h (by decide)⟩
     ·intro V W hC hd K hK
      have q33 : wrtV g5 n c5 L c6 q b6 o6 v o j u (some ⟨b6, o6, none⟩) s data 33 (V 33) W := hd.1
      have e33 : V 33 = .pointer (some ⟨g5, v, none⟩) := q33
      clear q33
      have q32 : wrtV g5 n c5 L c6 q b6 o6 v o j u (some ⟨b6, o6, none⟩) s data 32 (V 32) W := hd.2.1
      have e32 : V 32 = .string (s.extract 0 o ++ data.extract j (j + u) ++ s.extract (o + u) 128) := q32
      clear q32
      clear hd
      simp only [laidL, Act.put, List.setIfInBounds_toArray, List.set_cons_zero, List.set_cons_succ] at hK ⊢
      generalize V 33 = v33 at e33 hK ⊢
      subst e33
      generalize V 32 = v32 at e32 hK ⊢
      subst e32
      have hO := hC.1
      have hB6 := hC.2
      have hc1 := hO.cell v hvn
      have hc2 := hO.free v
      generalize s.extract 0 o ++ data.extract j (j + u) ++ s.extract (o + u) 128 = x at hK ⊢
      go_simp
      exact hK undef _ ⟨fun h => absurd rfl h, fun _ => ⟨hO.set v x, hB6.trans (But.set W g5 v _)⟩⟩
    ·intro V w8 hE
     have JN := Lib.hid (show WJ C rc at_ data (j + u) (m.set v (s.extract 0 o ++ data.extract j (j + u) ++ s.extract (o + u) 128)) ∧ OwI w8 w.heap.size g5 n c5 (m.set v (s.extract 0 o ++ data.extract j (j + u) ++ s.extract (o + u) 128)) ∧ But g5 w6 w8 from ⟨HX6.out, hE.1, hE.2⟩)
     clear hE J
     simp only [laidL, Act.put, List.setIfInBounds_toArray, List.set_cons_zero, List.set_cons_succ]
     generalize m.set v (s.extract 0 o ++ data.extract j (j + u) ++ s.extract (o + u) 128) = mm at JN
     have hw8 : IntKind.i64.wrap ((j : Int) + (u : Int)) = (j : Int) + (u : Int) := by rw [IntKind.wrap_i64]; have := HUU.out; omega
     have hw9 : IntKind.i64.wrap ((j : Int) + (u : Int) - 1) = (j : Int) + (u : Int) - 1 := by rw [IntKind.wrap_i64]; have := HUU.out; omega
     have hju : j + u ≤ data.size := by have := HUU.out; omega
     have hju2 : 0 < u := HUU.out.2.2
     go_wp2
     go_roundg (data.size - (j + u))
     case measure => omega
     case rel => exact ⟨j + u, mm, hju, by omega, by go_num, JN⟩
   ·have hje : j = data.size := by omega
    subst hje
    have HLA := Lib.hid (HLS.out m J.out.1)
    have hng : ¬ (data.size : Int) < (data.size : Int) := by omega
    go_wp2
    go_ret2
    rw [← HLA.out]
    exact ⟨g5, n, c5, rfl, J.out.2.1, h5, K6.out.2.1.trans (J.out.2.2.to_below hgg (by have := K6.out.2.1.size; omega))⟩
 ·have ht1 : decide ((r.size : Int) < (at_ : Int) + (data.size : Int)) = false := decide_eq_false (by omega)
  have ht2 : decide (r.size < at_ + data.size) = false := decide_eq_false hT
  have ht3 : ¬ (r.size : Int) < (at_ : Int) + (data.size : Int) := by omega
  go_wp2_with fail
  have hgw := K3.out.2.lt
  have hgg := K3.out.2.ge
  refine (cB g3 c3 w3 K3.out.2.reads).mono ?_
  rintro e w6 ⟨A6, c6, rfl, ho6, hb6⟩
  have hw36 := hb6.size
  have K6 := Lib.hid (And.intro (K3.out.2.step hb6) (And.intro (bstep K3.out.1 hb6) ho6))
  clear ho6 hb6 cB hc1 ht1 ht2 ht3 cT
  go_wp2
  go_loopg [14] data.size (fun gk s14 wr => ∃ (j : Nat) (m : List ByteArray), j ≤ data.size ∧ data.size - j ≤ gk ∧ s14 = .int .i64 j ∧ Hid (WJ C rc at_ data j m ∧ OwI wr w.heap.size g3 n c3 m ∧ But g3 w6 wr))
  case atStart => exact ⟨0, C, Nat.zero_le _, by omega, rfl, Lib.hid ⟨HST.out, K6.out.1, But.refl _ _⟩⟩
  case round =>
   obtain ⟨j, m, hj, hgk, rfl, J⟩ := hrel
   by_cases hlt : j < data.size
   ·obtain ⟨q, hq⟩ : ∃ q, q = (at_ + j) / 128 := ⟨_, rfl⟩
    obtain ⟨o, ho⟩ : ∃ o, o = (at_ + j) % 128 := ⟨_, rfl⟩
    obtain ⟨u, hu⟩ : ∃ u, u = min (128 - o) (data.size - j) := ⟨_, rfl⟩
    obtain ⟨v, hv⟩ : ∃ v, v = (dataR rc).getD ((at_ + j) / 128) 0 := ⟨_, rfl⟩
    obtain ⟨x1, x2, x3, x4, x5, x6⟩ := HSP.out j m J.out.1 hlt o u v ho hu hv
    rw [← hq] at x1 hv
    have hqL : q < L := by omega
    have hvn : v < n := by omega
    have hgv : (namedR rc).getD q 0 = v := by rw [HDN.out q x1, ← hv]
    obtain ⟨s, hs⟩ : ∃ s, s = blk m v := ⟨_, rfl⟩
    rw [← hs] at x5 x6
    have HX6 := Lib.hid x6
    have HS := Lib.hid hs
    have HGV := Lib.hid hgv
    have hlI : (j : Int) < (data.size : Int) := by omega
    have hd1 : ((at_ : Int) + (j : Int)).tdiv 128 = (q : Int) := by rw [Int.tdiv_eq_ediv_of_nonneg (by omega)]; omega
    have hd2 : ((at_ : Int) + (j : Int)) / 128 = (q : Int) := by omega
    have hm1 : ((at_ : Int) + (j : Int)).tmod 128 = (o : Int) := by rw [Int.tmod_eq_emod_of_nonneg (by omega)]; omega
    have hm2 : ((at_ : Int) + (j : Int)) % 128 = (o : Int) := by omega
    have hw3 : IntKind.i64.wrap ((at_ : Int) + (j : Int)) = (at_ : Int) + (j : Int) := by rw [IntKind.wrap_i64]; omega
    have ho128 : o < 128 := by omega
    have hu1 : u ≤ 128 - o ∧ u ≤ data.size - j ∧ 0 < u := by omega
    have hmin : min ((128 : Int) - (o : Int)) ((data.size : Int) - (j : Int)) = (u : Int) := by omega
    have hw4 : IntKind.i64.wrap ((128 : Int) - (o : Int)) = (128 : Int) - (o : Int) := by rw [IntKind.wrap_i64]; omega
    have hw5 : IntKind.i64.wrap ((data.size : Int) - (j : Int)) = (data.size : Int) - (j : Int) := by rw [IntKind.wrap_i64]; omega
    have HUU := Lib.hid hu1
    clear hq ho hu hv hs x6 hgv hu1
    obtain ⟨b6, o6, rfl, hb6l, hl6⟩ := (Reads.of_own K6.out.2.2).nat hqL
    rw [HGV.out] at hl6
    have HL6 := Lib.hid hl6
    have hb6g : b6 ≠ g3 := by
     have h9 := own_row_ge K6.out.2.2 b6 rfl
     omega
    clear hl6
    go_upto_region 20 with fail
    try rw [hmin]
    have hq3 : (q : Int) < (L : Int) := by omega
    have hvnI : (v : Int) < (n : Int) := by omega
    have ho0 : (0 : Int) ≤ (o : Int) := by omega
    have ho1 : (o : Int) ≤ 128 := by omega
    have hju1 : (j : Int) + (u : Int) ≤ (data.size : Int) := by have := HUU.out; omega
    have hju0 : (j : Int) ≤ (j : Int) + (u : Int) := by omega
    have hou1 : (o : Int) + (u : Int) ≤ 128 := by have := HUU.out; omega
    have hou0 : (0 : Int) ≤ (o : Int) + (u : Int) := by omega
    have hw6 : IntKind.i64.wrap ((j : Int) + (u : Int)) = (j : Int) + (u : Int) := by rw [IntKind.wrap_i64]; omega
    have hw7 : IntKind.i64.wrap ((o : Int) + (u : Int)) = (o : Int) + (u : Int) := by rw [IntKind.wrap_i64]; omega
    have hn1 : ((j : Int) + (u : Int)).toNat = j + u := by omega
    have hn2 : ((o : Int) + (u : Int)).toNat = o + u := by omega
    clear hmin hd1 hd2 hm1 hm2 hw3 hw4 hw5
    refine wp_region_last [[], [], [], [1, 2], [3], [], [], [], [6, 7], [8], [5, 9], [10], [], [11, 12], [], [], [], [], [16, 17], [14, 15, 18], [13, 19], [], [], [], [22, 23], [24], [21, 25], [26], [], [], [28, 29], [27, 30], [20, 31], [0, 4, 0, 1, 2, 3, 4, 5, 6, 7, 8, 9, 10, 11, 12, 13, 14, 15, 16, 17, 18, 19, 20, 21, 22, 23, 24, 25, 26, 27, 28, 29, 30, 31, 32], [33, 32, 0, 1, 2, 3, 4, 5, 6, 7, 8, 9, 10, 11, 12, 13, 14, 15, 16, 17, 18, 19, 20, 21, 22, 23, 24, 25, 26, 27, 28, 29, 30, 31, 32]] 34 (fun W => OwI W w.heap.size g3 n c3 m ∧ But g3 w6 W) (fun W => OwI W w.heap.size g3 n c3 (m.set v (s.extract 0 o ++ data.extract j (j + u) ++ s.extract (o + u) 128)) ∧ But g3 w6 W) (wrtV g3 n c3 L c6 q b6 o6 v o j u (some ⟨b6, o6, none⟩) s data) hmx (by kernel_rfl) (by kernel_rfl) rfl (by decide) (by decide) ⟨J.out.2.1.step (Below.refl _ _).drew, J.out.2.2.drewN 1⟩ (fun W W' hb hD => ⟨hD.1.step hb, hD.2.trans_below hb hD.2.size⟩) (fun i x W W' _ h => wrtV_stable g3 n c3 L c6 q b6 o6 v o j u (some ⟨b6, o6, none⟩) s data i x W W' h) ?_ ?_
    ·refine ⟨?_, ?_, ?_, ?_, ?_, ?_, ?_, ?_, ?_, ?_, ?_, ?_, ?_, ?_, ?_, ?_, ?_, ?_, ?_, ?_, ?_, ?_, ?_, ?_, ?_, ?_, ?_, ?_, ?_, ?_, ?_, ?_, ?_, ?_, ?_, trivial⟩
     ·intro V W hC hd K hK
      clear hd
      simp only [laidL, Act.put, List.setIfInBounds_toArray, List.set_cons_zero, List.set_cons_succ] at hK ⊢
      go_simp
      exact hK _ _ ⟨fun _ => ⟨Below.refl _ _, rfl⟩, fun h => absurd h (by decide)⟩
     ·intro V W hC hd K hK
      clear hd
      simp only [laidL, Act.put, List.setIfInBounds_toArray, List.set_cons_zero, List.set_cons_succ] at hK ⊢
      go_simp
      exact hK _ _ ⟨fun _ => ⟨Below.refl _ _, rfl⟩, fun h => absurd h (by decide)⟩
     ·intro V W hC hd K hK
      clear hd
      simp only [laidL, Act.put, List.setIfInBounds_toArray, List.set_cons_zero, List.set_cons_succ] at hK ⊢
      go_simp
      exact hK _ _ ⟨fun _ => ⟨Below.refl _ _, rfl⟩, fun h => absurd h (by decide)⟩
     ·intro V W hC hd K hK
      have q1 : wrtV g3 n c3 L c6 q b6 o6 v o j u (some ⟨b6, o6, none⟩) s data 1 (V 1) W := hd.1
      have e1 : V 1 = .slice (some ⟨b6, o6, none⟩) L c6 := q1
      clear q1
      have q2 : wrtV g3 n c3 L c6 q b6 o6 v o j u (some ⟨b6, o6, none⟩) s data 2 (V 2) W := hd.2.1
      have e2 : V 2 = .int .i64 (q : Int) := q2
      clear q2
      clear hd
      simp only [laidL, Act.put, List.setIfInBounds_toArray, List.set_cons_zero, List.set_cons_succ] at hK ⊢
      generalize V 1 = v1 at e1 hK ⊢
      subst e1
      generalize V 2 = v2 at e2 hK ⊢
      subst e2
      go_simp
      refine hK _ _ ⟨fun _ => ⟨Below.refl _ _, ?_⟩, fun h => absurd h (by decide)⟩
      first | rfl | exact congrArg (fun x => Value.pointer (some ⟨b6, x, none⟩)) (by omega)
     ·intro V W hC hd K hK
      have q3 : wrtV g3 n c3 L c6 q b6 o6 v o j u (some ⟨b6, o6, none⟩) s data 3 (V 3) W := hd.1
      have e3 : V 3 = .pointer (some ⟨b6, o6 + q, none⟩) := q3
      clear q3
      clear hd
      simp only [laidL, Act.put, List.setIfInBounds_toArray, List.set_cons_zero, List.set_cons_succ] at hK ⊢
      generalize V 3 = v3 at e3 hK ⊢
      subst e3
      have hcell : W.cell? ⟨b6, o6 + q, none⟩ = some (.int .i64 (v : Int)) := by
       have h9 := hC.2.cell (o := o6 + q) hb6l hb6g
       rw [h9, HL6.out]
      go_simp
      exact hK _ _ ⟨fun _ => ⟨Below.refl _ _, rfl⟩, fun h => absurd h (by decide)⟩
     ·intro V W hC hd K hK
      clear hd
      simp only [laidL, Act.put, List.setIfInBounds_toArray, List.set_cons_zero, List.set_cons_succ] at hK ⊢
      go_simp
      exact hK _ _ ⟨fun _ => ⟨Below.refl _ _, rfl⟩, fun h => absurd h (by decide)⟩
     ·intro V W hC hd K hK
      clear hd
      simp only [laidL, Act.put, List.setIfInBounds_toArray, List.set_cons_zero, List.set_cons_succ] at hK ⊢
      go_simp
      exact hK _ _ ⟨fun _ => ⟨Below.refl _ _, rfl⟩, fun h => absurd h (by decide)⟩
     ·intro V W hC hd K hK
      clear hd
      simp only [laidL, Act.put, List.setIfInBounds_toArray, List.set_cons_zero, List.set_cons_succ] at hK ⊢
      go_simp
      exact hK _ _ ⟨fun _ => ⟨Below.refl _ _, rfl⟩, fun h => absurd h (by decide)⟩
     ·intro V W hC hd K hK
      have q6 : wrtV g3 n c3 L c6 q b6 o6 v o j u (some ⟨b6, o6, none⟩) s data 6 (V 6) W := hd.1
      have e6 : V 6 = .slice (some ⟨b6, o6, none⟩) L c6 := q6
      clear q6
      have q7 : wrtV g3 n c3 L c6 q b6 o6 v o j u (some ⟨b6, o6, none⟩) s data 7 (V 7) W := hd.2.1
      have e7 : V 7 = .int .i64 (q : Int) := q7
      clear q7
      clear hd
      simp only [laidL, Act.put, List.setIfInBounds_toArray, List.set_cons_zero, List.set_cons_succ] at hK ⊢
      generalize V 6 = v6 at e6 hK ⊢
      subst e6
      generalize V 7 = v7 at e7 hK ⊢
      subst e7
      go_simp
      refine hK _ _ ⟨fun _ => ⟨Below.refl _ _, ?_⟩, fun h => absurd h (by decide)⟩
      first | rfl | exact congrArg (fun x => Value.pointer (some ⟨b6, x, none⟩)) (by omega)
     ·intro V W hC hd K hK
      have q8 : wrtV g3 n c3 L c6 q b6 o6 v o j u (some ⟨b6, o6, none⟩) s data 8 (V 8) W := hd.1
      have e8 : V 8 = .pointer (some ⟨b6, o6 + q, none⟩) := q8
      clear q8
      clear hd
      simp only [laidL, Act.put, List.setIfInBounds_toArray, List.set_cons_zero, List.set_cons_succ] at hK ⊢
      generalize V 8 = v8 at e8 hK ⊢
      subst e8
      have hcell : W.cell? ⟨b6, o6 + q, none⟩ = some (.int .i64 (v : Int)) := by
       have h9 := hC.2.cell (o := o6 + q) hb6l hb6g
       rw [h9, HL6.out]
      go_simp
      exact hK _ _ ⟨fun _ => ⟨Below.refl _ _, rfl⟩, fun h => absurd h (by decide)⟩
     ·intro V W hC hd K hK
      have q5 : wrtV g3 n c3 L c6 q b6 o6 v o j u (some ⟨b6, o6, none⟩) s data 5 (V 5) W := hd.1
      have e5 : V 5 = .slice (some ⟨g3, 0, none⟩) n c3 := q5
      clear q5
      have q9 : wrtV g3 n c3 L c6 q b6 o6 v o j u (some ⟨b6, o6, none⟩) s data 9 (V 9) W := hd.2.1
      have e9 : V 9 = .int .i64 (v : Int) := q9
      clear q9
      clear hd
      simp only [laidL, Act.put, List.setIfInBounds_toArray, List.set_cons_zero, List.set_cons_succ] at hK ⊢
      generalize V 5 = v5 at e5 hK ⊢
      subst e5
      generalize V 9 = v9 at e9 hK ⊢
      subst e9
      go_simp
      exact hK _ _ ⟨fun _ => ⟨Below.refl _ _, rfl⟩, fun h => absurd h (by decide)⟩
     ·intro V W hC hd K hK
      have q10 : wrtV g3 n c3 L c6 q b6 o6 v o j u (some ⟨b6, o6, none⟩) s data 10 (V 10) W := hd.1
      have e10 : V 10 = .pointer (some ⟨g3, v, none⟩) := q10
      clear q10
      clear hd
      simp only [laidL, Act.put, List.setIfInBounds_toArray, List.set_cons_zero, List.set_cons_succ] at hK ⊢
      generalize V 10 = v10 at e10 hK ⊢
      subst e10
      have hcell : W.cell? ⟨g3, v, none⟩ = some (.string s) := by
       have h9 := hC.1.cell v hvn
       rw [HS.out]; exact h9
      go_simp
      exact hK _ _ ⟨fun _ => ⟨Below.refl _ _, rfl⟩, fun h => absurd h (by decide)⟩
     ·intro V W hC hd K hK
      clear hd
      simp only [laidL, Act.put, List.setIfInBounds_toArray, List.set_cons_zero, List.set_cons_succ] at hK ⊢
      go_simp
      exact hK _ _ ⟨fun _ => ⟨Below.refl _ _, rfl⟩, fun h => absurd h (by decide)⟩
     ·intro V W hC hd K hK
      have q11 : wrtV g3 n c3 L c6 q b6 o6 v o j u (some ⟨b6, o6, none⟩) s data 11 (V 11) W := hd.1
      have e11 : V 11 = .string s := q11
      clear q11
      have q12 : wrtV g3 n c3 L c6 q b6 o6 v o j u (some ⟨b6, o6, none⟩) s data 12 (V 12) W := hd.2.1
      have e12 : V 12 = .int .i64 (o : Int) := q12
      clear q12
      clear hd
      simp only [laidL, Act.put, List.setIfInBounds_toArray, List.set_cons_zero, List.set_cons_succ] at hK ⊢
      generalize V 11 = v11 at e11 hK ⊢
      subst e11
      generalize V 12 = v12 at e12 hK ⊢
      subst e12
      go_simp
      exact hK _ _ ⟨fun _ => ⟨Below.refl _ _, rfl⟩, fun h => absurd h (by decide)⟩
     ·intro V W hC hd K hK
      clear hd
      simp only [laidL, Act.put, List.setIfInBounds_toArray, List.set_cons_zero, List.set_cons_succ] at hK ⊢
      go_simp
      exact hK _ _ ⟨fun _ => ⟨Below.refl _ _, rfl⟩, fun h => absurd h (by decide)⟩
     ·intro V W hC hd K hK
      clear hd
      simp only [laidL, Act.put, List.setIfInBounds_toArray, List.set_cons_zero, List.set_cons_succ] at hK ⊢
      go_simp
      exact hK _ _ ⟨fun _ => ⟨Below.refl _ _, rfl⟩, fun h => absurd h (by decide)⟩
     ·intro V W hC hd K hK
      clear hd
      simp only [laidL, Act.put, List.setIfInBounds_toArray, List.set_cons_zero, List.set_cons_succ] at hK ⊢
      go_simp
      exact hK _ _ ⟨fun _ => ⟨Below.refl _ _, rfl⟩, fun h => absurd h (by decide)⟩
     ·intro V W hC hd K hK
      clear hd
      simp only [laidL, Act.put, List.setIfInBounds_toArray, List.set_cons_zero, List.set_cons_succ] at hK ⊢
      go_simp
      exact hK _ _ ⟨fun _ => ⟨Below.refl _ _, rfl⟩, fun h => absurd h (by decide)⟩
     ·intro V W hC hd K hK
      have q16 : wrtV g3 n c3 L c6 q b6 o6 v o j u (some ⟨b6, o6, none⟩) s data 16 (V 16) W := hd.1
      have e16 : V 16 = .int .i64 (j : Int) := q16
      clear q16
      have q17 : wrtV g3 n c3 L c6 q b6 o6 v o j u (some ⟨b6, o6, none⟩) s data 17 (V 17) W := hd.2.1
      have e17 : V 17 = .int .i64 (u : Int) := q17
      clear q17
      clear hd
      simp only [laidL, Act.put, List.setIfInBounds_toArray, List.set_cons_zero, List.set_cons_succ] at hK ⊢
      generalize V 16 = v16 at e16 hK ⊢
      subst e16
      generalize V 17 = v17 at e17 hK ⊢
      subst e17
      go_simp
      exact hK _ _ ⟨fun _ => ⟨Below.refl _ _, rfl⟩, fun h => absurd h (by decide)⟩
     ·intro V W hC hd K hK
      have q14 : wrtV g3 n c3 L c6 q b6 o6 v o j u (some ⟨b6, o6, none⟩) s data 14 (V 14) W := hd.1
      have e14 : V 14 = .string data := q14
      clear q14
      have q15 : wrtV g3 n c3 L c6 q b6 o6 v o j u (some ⟨b6, o6, none⟩) s data 15 (V 15) W := hd.2.1
      have e15 : V 15 = .int .i64 (j : Int) := q15
      clear q15
      have q18 : wrtV g3 n c3 L c6 q b6 o6 v o j u (some ⟨b6, o6, none⟩) s data 18 (V 18) W := hd.2.2.1
      have e18 : V 18 = .int .i64 ((j : Int) + (u : Int)) := q18
      clear q18
      clear hd
      simp only [laidL, Act.put, List.setIfInBounds_toArray, List.set_cons_zero, List.set_cons_succ] at hK ⊢
      generalize V 14 = v14 at e14 hK ⊢
      subst e14
      generalize V 15 = v15 at e15 hK ⊢
      subst e15
      generalize V 18 = v18 at e18 hK ⊢
      subst e18
      go_simp
      exact hK _ _ ⟨fun _ => ⟨Below.refl _ _, rfl⟩, fun h => absurd h (by decide)⟩
     ·intro V W hC hd K hK
      have q13 : wrtV g3 n c3 L c6 q b6 o6 v o j u (some ⟨b6, o6, none⟩) s data 13 (V 13) W := hd.1
      have e13 : V 13 = .string (s.extract 0 o) := q13
      clear q13
      have q19 : wrtV g3 n c3 L c6 q b6 o6 v o j u (some ⟨b6, o6, none⟩) s data 19 (V 19) W := hd.2.1
      have e19 : V 19 = .string (data.extract j (j + u)) := q19
      clear q19
      clear hd
      simp only [laidL, Act.put, List.setIfInBounds_toArray, List.set_cons_zero, List.set_cons_succ] at hK ⊢
      generalize V 13 = v13 at e13 hK ⊢
      subst e13
      generalize V 19 = v19 at e19 hK ⊢
      subst e19
      have hno : ¬ 9223372036854775807 < min o 128 + (min (j + u) data.size - j) := by omega
      go_simp
      exact hK _ _ ⟨fun _ => ⟨Below.refl _ _, rfl⟩, fun h => absurd h (by decide)⟩
     ·intro V W hC hd K hK
      clear hd
      simp only [laidL, Act.put, List.setIfInBounds_toArray, List.set_cons_zero, List.set_cons_succ] at hK ⊢
      go_simp
      exact hK _ _ ⟨fun _ => ⟨Below.refl _ _, rfl⟩, fun h => absurd h (by decide)⟩
     ·intro V W hC hd K hK
      clear hd
      simp only [laidL, Act.put, List.setIfInBounds_toArray, List.set_cons_zero, List.set_cons_succ] at hK ⊢
      go_simp
      exact hK _ _ ⟨fun _ => ⟨Below.refl _ _, rfl⟩, fun h => absurd h (by decide)⟩
     ·intro V W hC hd K hK
      clear hd
      simp only [laidL, Act.put, List.setIfInBounds_toArray, List.set_cons_zero, List.set_cons_succ] at hK ⊢
      go_simp
      exact hK _ _ ⟨fun _ => ⟨Below.refl _ _, rfl⟩, fun h => absurd h (by decide)⟩
     ·intro V W hC hd K hK
      have q22 : wrtV g3 n c3 L c6 q b6 o6 v o j u (some ⟨b6, o6, none⟩) s data 22 (V 22) W := hd.1
      have e22 : V 22 = .slice (some ⟨b6, o6, none⟩) L c6 := q22
      clear q22
      have q23 : wrtV g3 n c3 L c6 q b6 o6 v o j u (some ⟨b6, o6, none⟩) s data 23 (V 23) W := hd.2.1
      have e23 : V 23 = .int .i64 (q : Int) := q23
      clear q23
      clear hd
      simp only [laidL, Act.put, List.setIfInBounds_toArray, List.set_cons_zero, List.set_cons_succ] at hK ⊢
      generalize V 22 = v22 at e22 hK ⊢
      subst e22
      generalize V 23 = v23 at e23 hK ⊢
      subst e23
      go_simp
      refine hK _ _ ⟨fun _ => ⟨Below.refl _ _, ?_⟩, fun h => absurd h (by decide)⟩
      first | rfl | exact congrArg (fun x => Value.pointer (some ⟨b6, x, none⟩)) (by omega)
     ·intro V W hC hd K hK
      have q24 : wrtV g3 n c3 L c6 q b6 o6 v o j u (some ⟨b6, o6, none⟩) s data 24 (V 24) W := hd.1
      have e24 : V 24 = .pointer (some ⟨b6, o6 + q, none⟩) := q24
      clear q24
      clear hd
      simp only [laidL, Act.put, List.setIfInBounds_toArray, List.set_cons_zero, List.set_cons_succ] at hK ⊢
      generalize V 24 = v24 at e24 hK ⊢
      subst e24
      have hcell : W.cell? ⟨b6, o6 + q, none⟩ = some (.int .i64 (v : Int)) := by
       have h9 := hC.2.cell (o := o6 + q) hb6l hb6g
       rw [h9, HL6.out]
      go_simp
      exact hK _ _ ⟨fun _ => ⟨Below.refl _ _, rfl⟩, fun h => absurd h (by decide)⟩
     ·intro V W hC hd K hK
      have q21 : wrtV g3 n c3 L c6 q b6 o6 v o j u (some ⟨b6, o6, none⟩) s data 21 (V 21) W := hd.1
      have e21 : V 21 = .slice (some ⟨g3, 0, none⟩) n c3 := q21
      clear q21
      have q25 : wrtV g3 n c3 L c6 q b6 o6 v o j u (some ⟨b6, o6, none⟩) s data 25 (V 25) W := hd.2.1
      have e25 : V 25 = .int .i64 (v : Int) := q25
      clear q25
      clear hd
      simp only [laidL, Act.put, List.setIfInBounds_toArray, List.set_cons_zero, List.set_cons_succ] at hK ⊢
      generalize V 21 = v21 at e21 hK ⊢
      subst e21
      generalize V 25 = v25 at e25 hK ⊢
      subst e25
      go_simp
      exact hK _ _ ⟨fun _ => ⟨Below.refl _ _, rfl⟩, fun h => absurd h (by decide)⟩
     ·intro V W hC hd K hK
      have q26 : wrtV g3 n c3 L c6 q b6 o6 v o j u (some ⟨b6, o6, none⟩) s data 26 (V 26) W := hd.1
      have e26 : V 26 = .pointer (some ⟨g3, v, none⟩) := q26
      clear q26
      clear hd
      simp only [laidL, Act.put, List.setIfInBounds_toArray, List.set_cons_zero, List.set_cons_succ] at hK ⊢
      generalize V 26 = v26 at e26 hK ⊢
      subst e26
      have hcell : W.cell? ⟨g3, v, none⟩ = some (.string s) := by
       have h9 := hC.1.cell v hvn
       rw [HS.out]; exact h9
      go_simp
      exact hK _ _ ⟨fun _ => ⟨Below.refl _ _, rfl⟩, fun h => absurd h (by decide)⟩
     ·intro V W hC hd K hK
      clear hd
      simp only [laidL, Act.put, List.setIfInBounds_toArray, List.set_cons_zero, List.set_cons_succ] at hK ⊢
      go_simp
      exact hK _ _ ⟨fun _ => ⟨Below.refl _ _, rfl⟩, fun h => absurd h (by decide)⟩
     ·intro V W hC hd K hK
      clear hd
      simp only [laidL, Act.put, List.setIfInBounds_toArray, List.set_cons_zero, List.set_cons_succ] at hK ⊢
      go_simp
      exact hK _ _ ⟨fun _ => ⟨Below.refl _ _, rfl⟩, fun h => absurd h (by decide)⟩
     ·intro V W hC hd K hK
      have q28 : wrtV g3 n c3 L c6 q b6 o6 v o j u (some ⟨b6, o6, none⟩) s data 28 (V 28) W := hd.1
      have e28 : V 28 = .int .i64 (o : Int) := q28
      clear q28
      have q29 : wrtV g3 n c3 L c6 q b6 o6 v o j u (some ⟨b6, o6, none⟩) s data 29 (V 29) W := hd.2.1
      have e29 : V 29 = .int .i64 (u : Int) := q29
      clear q29
      clear hd
      simp only [laidL, Act.put, List.setIfInBounds_toArray, List.set_cons_zero, List.set_cons_succ] at hK ⊢
      generalize V 28 = v28 at e28 hK ⊢
      subst e28
      generalize V 29 = v29 at e29 hK ⊢
      subst e29
      go_simp
      exact hK _ _ ⟨fun _ => ⟨Below.refl _ _, rfl⟩, fun h => absurd h (by decide)⟩
     ·intro V W hC hd K hK
      have q27 : wrtV g3 n c3 L c6 q b6 o6 v o j u (some ⟨b6, o6, none⟩) s data 27 (V 27) W := hd.1
      have e27 : V 27 = .string s := q27
      clear q27
      have q30 : wrtV g3 n c3 L c6 q b6 o6 v o j u (some ⟨b6, o6, none⟩) s data 30 (V 30) W := hd.2.1
      have e30 : V 30 = .int .i64 ((o : Int) + (u : Int)) := q30
      clear q30
      clear hd
      simp only [laidL, Act.put, List.setIfInBounds_toArray, List.set_cons_zero, List.set_cons_succ] at hK ⊢
      generalize V 27 = v27 at e27 hK ⊢
      subst e27
      generalize V 30 = v30 at e30 hK ⊢
      subst e30
      go_simp
      exact hK _ _ ⟨fun _ => ⟨Below.refl _ _, rfl⟩, fun h => absurd h (by decide)⟩
     ·intro V W hC hd K hK
      have q20 : wrtV g3 n c3 L c6 q b6 o6 v o j u (some ⟨b6, o6, none⟩) s data 20 (V 20) W := hd.1
      have e20 : V 20 = .string (s.extract 0 o ++ data.extract j (j + u)) := q20
      clear q20
      have q31 : wrtV g3 n c3 L c6 q b6 o6 v o j u (some ⟨b6, o6, none⟩) s data 31 (V 31) W := hd.2.1
      have e31 : V 31 = .string (s.extract (o + u) 128) := q31
      clear q31
      clear hd
      simp only [laidL, Act.put, List.setIfInBounds_toArray, List.set_cons_zero, List.set_cons_succ] at hK ⊢
      generalize V 20 = v20 at e20 hK ⊢
      subst e20
      generalize V 31 = v31 at e31 hK ⊢
      subst e31
      have hno : ¬ 9223372036854775807 < min o 128 + (min (j + u) data.size - j) + (128 - (o + u)) := by omega
      go_simp
      exact hK _ _ ⟨fun _ => ⟨Below.refl _ _, rfl⟩, fun h => absurd h (by decide)⟩
     ·intro V W hC hd K hK
      have q0 : wrtV g3 n c3 L c6 q b6 o6 v o j u (some ⟨b6, o6, none⟩) s data 0 (V 0) W := hd.1
      have e0 : V 0 = .slice (some ⟨g3, 0, none⟩) n c3 := q0
      clear q0
      have q4 : wrtV g3 n c3 L c6 q b6 o6 v o j u (some ⟨b6, o6, none⟩) s data 4 (V 4) W := hd.2.1
      have e4 : V 4 = .int .i64 (v : Int) := q4
      clear q4
      clear hd
      simp only [laidL, Act.put, List.setIfInBounds_toArray, List.set_cons_zero, List.set_cons_succ] at hK ⊢
      generalize V 0 = v0 at e0 hK ⊢
      subst e0
      generalize V 4 = v4 at e4 hK ⊢
      subst e4
      go_simp
      exact hK _ _ ⟨fun _ => ⟨Below.refl _ _, rfl⟩, fun h => absurd h (by decide)⟩
     ·intro V W hC hd K hK
      have q33 : wrtV g3 n c3 L c6 q b6 o6 v o j u (some ⟨b6, o6, none⟩) s data 33 (V 33) W := hd.1
      have e33 : V 33 = .pointer (some ⟨g3, v, none⟩) := q33
      clear q33
      have q32 : wrtV g3 n c3 L c6 q b6 o6 v o j u (some ⟨b6, o6, none⟩) s data 32 (V 32) W := hd.2.1
      have e32 : V 32 = .string (s.extract 0 o ++ data.extract j (j + u) ++ s.extract (o + u) 128) := q32
      clear q32
      clear hd
      simp only [laidL, Act.put, List.setIfInBounds_toArray, List.set_cons_zero, List.set_cons_succ] at hK ⊢
      generalize V 33 = v33 at e33 hK ⊢
      subst e33
      generalize V 32 = v32 at e32 hK ⊢
      subst e32
      have hO := hC.1
      have hB6 := hC.2
      have hc1 := hO.cell v hvn
      have hc2 := hO.free v
      generalize s.extract 0 o ++ data.extract j (j + u) ++ s.extract (o + u) 128 = x at hK ⊢
      go_simp
      exact hK undef _ ⟨fun h => absurd rfl h, fun _ => ⟨hO.set v x, hB6.trans (But.set W g3 v _)⟩⟩
    ·intro V w8 hE
     have JN := Lib.hid (show WJ C rc at_ data (j + u) (m.set v (s.extract 0 o ++ data.extract j (j + u) ++ s.extract (o + u) 128)) ∧ OwI w8 w.heap.size g3 n c3 (m.set v (s.extract 0 o ++ data.extract j (j + u) ++ s.extract (o + u) 128)) ∧ But g3 w6 w8 from ⟨HX6.out, hE.1, hE.2⟩)
     clear hE J
     simp only [laidL, Act.put, List.setIfInBounds_toArray, List.set_cons_zero, List.set_cons_succ]
     generalize m.set v (s.extract 0 o ++ data.extract j (j + u) ++ s.extract (o + u) 128) = mm at JN
     have hw8 : IntKind.i64.wrap ((j : Int) + (u : Int)) = (j : Int) + (u : Int) := by rw [IntKind.wrap_i64]; have := HUU.out; omega
     have hw9 : IntKind.i64.wrap ((j : Int) + (u : Int) - 1) = (j : Int) + (u : Int) - 1 := by rw [IntKind.wrap_i64]; have := HUU.out; omega
     have hju : j + u ≤ data.size := by have := HUU.out; omega
     have hju2 : 0 < u := HUU.out.2.2
     go_wp2
     go_roundg (data.size - (j + u))
     case measure => omega
     case rel => exact ⟨j + u, mm, hju, by omega, by go_num, JN⟩
   ·have hje : j = data.size := by omega
    subst hje
    have HLA := Lib.hid (HLS.out m J.out.1)
    have hng : ¬ (data.size : Int) < (data.size : Int) := by omega
    go_wp2
    go_ret2
    rw [← HLA.out]
    exact ⟨g3, n, c3, rfl, J.out.2.1, h5, K6.out.2.1.trans (J.out.2.2.to_below hgg (by have := K6.out.2.1.size; omega))⟩

end Go.Proofs.YtpdfkakhahfcjaaGreat
