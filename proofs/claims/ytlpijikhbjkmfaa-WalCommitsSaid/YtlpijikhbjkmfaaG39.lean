/-
  The reference's Commit, where it writes.
-/
import Derived.Test.YtlpijikhbjkmfaaG38
import Derived.Test.YtlpijikhbjkmfaaG36
import Derived.Test.YtlpijikhbjkmfaaG29
import Derived.StillTailTactics
namespace Go.Proofs.Ytlpijikhbjkmfaa
open Go.RowKit

theorem places_drop : ∀ (l : List Nat) (k : Nat), (placesL l).drop (2 * k) = placesL (l.drop k)
  | [], k => by cases k <;> rfl
  | x :: l, 0 => by simp
  | x :: l, k + 1 => by
    rw [List.drop_succ_cons, ← places_drop l k, show 2 * (k + 1) = 2 * k + 1 + 1 by omega]
    rfl
theorem places_take : ∀ (l : List Nat) (k : Nat), (placesL l).take (2 * k) = placesL (l.take k)
  | [], k => by cases k <;> rfl
  | x :: l, 0 => by simp [placesL]
  | x :: l, k + 1 => by
    rw [List.take_succ_cons, show placesL (x :: l.take k) = UInt8.ofNat (x / 256 ^ (2 - 1 - 0)) :: UInt8.ofNat (x / 256 ^ (2 - 1 - 1)) :: placesL (l.take k) from rfl, ← places_take l k, show 2 * (k + 1) = 2 * k + 1 + 1 by omega]
    rfl
theorem piece_ext (pl : List Nat) (k : Nat) (s : ByteArray) (hs : s = (mkB (placesL pl)).extract (128 * k) (min (2 * pl.length) (128 * (k + 1)))) : padL s.data.toList = pieceB pl k ∧ s.size ≤ 128 := by
  have h1 : s.data.toList = placesL ((pl.drop (64 * k)).take 64) := by
    rw [hs, ByteArray.data_extract, Array.toList_extract, mkB_list, List.extract_eq_take_drop, show 128 * k = 2 * (64 * k) by omega, places_drop]
    rcases Nat.lt_or_ge (2 * pl.length) (128 * (k + 1)) with h | h
    · rw [Nat.min_eq_left (by omega), List.take_of_length_le (by rw [placesL_length, List.length_drop]; omega), List.take_of_length_le (by rw [List.length_drop]; omega)]
    · rw [Nat.min_eq_right (by omega), show 128 * (k + 1) - 2 * (64 * k) = 2 * 64 by omega, places_take]
  refine ⟨by rw [h1]; rfl, ?_⟩
  have h2 : s.size = s.data.toList.length := by simp
  rw [h2, h1, placesL_length, List.length_take]
  omega

/-- While the reference's commit writes: the list of places, the work, the result's box, what lay before. -/
structure Cp (w wr : World) (B gw ga N c2 : Nat) (pl : List Nat) (x : D × Int) (vv : RV) : Prop where
  own1 : wr.ownsRow B 3 1 (.slice (some ⟨ga, 0, none⟩) N c2) N (encN pl)
  rw : Rw wr gw vv x
  b1 : B4 wr (w.heap.size + 1) (.slice none 0 0) (.slice none 0 0) (.int .i64 0) (.bool false)
  below : Below w.heap.size w wr
section
variable {w wr w' : World} {B gw ga N c2 : Nat} {pl : List Nat} {x x2 : D × Int} {vv v2 : RV}
theorem Cp.grown (h : Cp w wr B gw ga N c2 pl x vv) (hr : Rw w' gw v2 x2) (hg : wr.grownBy w' (some gw)) (h1 : ga ≠ gw) (h3 : w.heap.size + 1 < gw) : Cp w w' B gw ga N c2 pl x2 v2 :=
  ⟨own_grown h.own1 hg (fun g e e2 => by cases e; cases e2; exact h1 rfl), hr, h.b1.grown hg (fun e => by cases e; omega), h.below.grown hg h.below.size (fun q e => by cases e; omega)⟩
theorem Cp.step (h : Cp w wr B gw ga N c2 pl x vv) (hb : Below wr.heap.size wr w') : Cp w w' B gw ga N c2 pl x vv :=
  ⟨own_below h.own1 hb, h.rw.step hb, h.b1.step hb, bstep h.below hb⟩
theorem Cp.drew (h : Cp w wr B gw ga N c2 pl x vv) : Cp w wr.drew B gw ga N c2 pl x vv := h.step (Below.refl _ _).drew
theorem Cp.drewN (h : Cp w wr B gw ga N c2 pl x vv) (q : Nat) : Cp w (wr.drewN q) B gw ga N c2 pl x vv := h.step (below_drewN (Below.refl _ _) q)
end

set_option maxRecDepth 100000 in
set_option maxHeartbeats 16000000 in
theorem refCom_late (A A' : Option Addr) (n c m c' : Nat) (bs : List ByteArray) (cs : List (Int × ByteArray)) (l : Int) (h g : Nat) (sq : Nat) (I : Option Addr) (i ic : Nat) (img : List ByteArray) (w : World) (H : Dv w w.heap.size A n A' m ⟨bs, cs, l, false⟩) (hI : Reads w w.heap.size 1 I i (encS img)) (hi : i * 16 ≤ 140737488355328)
    (h0 : wrongE ⟨bs, cs, l, false⟩ h g = 0) (h1 : ImageP img h) (hz : headB ⟨bs, cs, l, false⟩ = zeroB) (hk : (changedL (homeL ⟨bs, cs, l, false⟩ h g) img).length ≤ g) (hk0 : (changedL (homeL ⟨bs, cs, l, false⟩ h g) img).length ≠ 0)
    (hf : FitP ⟨bs, cs, l, false⟩) (hl : l ≤ 9223372036854775807) (hh : 1 ≤ h ∧ h ≤ 512) (hg : 1 ≤ g ∧ g ≤ 256) (hsq : sq < 18446744073709551616) (r : D × Int × Bool) (hr : r = commitD ⟨bs, cs, l, false⟩ h g sq img) :
    Calls Try.prog 8 #[.agg #[.slice A n c, .slice A' m c', .int .i64 l, .bool false], .int .i64 h, .int .i64 g, .int .u64 sq, .slice I i ic] w fun e w' => Tells3 w w' r e := by
  have hmx : Try.prog.follows .mixedOrders = true := by kernel_rfl
  have R0 := Lib.hid (And.intro (RB.new H c c') ((hI.alloc (.cells #[.slice A n c, .slice A' m c', .int .i64 l, .bool false] 25)).alloc (.cells #[.slice none 0 0, .slice none 0 0, .int .i64 0, .bool false] 25)))
  have HH : Hid ((homeD ⟨bs, cs, l, false⟩ h g).1 = homeL ⟨bs, cs, l, false⟩ h g) := Lib.hid (by unfold homeD; rw [if_neg (by rw [h0]; decide), if_neg Bool.false_ne_true]; simp only [Int.toNat_natCast])
  have cw := refWrong_any A A' n c m c' ⟨bs, cs, l, false⟩ (h : Int) (g : Int) _ R0.out.1.dv
  rw [h0] at cw
  have ci := fun W hW => refImage_any I i ic img (h : Int) W hW hi
  rw [decide_eq_true h1] at ci
  have cr := fun W hW => refRead_any A A' n c m c' ⟨bs, cs, l, false⟩ 0 W hW
  obtain ⟨hd, hhd⟩ : ∃ hd, hd = headB ⟨bs, cs, l, false⟩ := ⟨_, rfl⟩
  rw [show (readD ⟨bs, cs, l, false⟩ 0).1 = hd from hhd.symm] at cr
  generalize (readD ⟨bs, cs, l, false⟩ 0).2 = re at cr
  have ch := fun W hW => refHome_any A A' n c m c' ⟨bs, cs, l, false⟩ (h : Int) (g : Int) W hW
  rw [HH.out] at ch
  obtain ⟨pl, hpl⟩ : ∃ pl, pl = changedL (homeL ⟨bs, cs, l, false⟩ h g) img := ⟨_, rfl⟩
  have hhl : (homeL ⟨bs, cs, l, false⟩ h g).length = h := by simp [homeL]
  have hil : img.length = h := by have := h1.2; omega
  have HPM : Hid (∀ k, k < pl.length → pl.getD k 0 < h) := Lib.hid fun k hk => by
    have h3 : pl.getD k 0 ∈ changedL (homeL ⟨bs, cs, l, false⟩ h g) img := by rw [← hpl]; exact List.mem_of_getElem? (nat_get hk)
    unfold changedL at h3
    have h4 := List.mem_range.1 (List.mem_filter.1 h3).1
    rw [hhl, hil] at h4
    omega
  rw [← hpl] at hk hk0
  have HPL : Hid (changedL (homeL ⟨bs, cs, l, false⟩ h g) img = pl) := Lib.hid hpl.symm
  have h2 : clearE ⟨bs, cs, l, false⟩ = 0 := by
    unfold clearE
    have e1 : (readD ⟨bs, cs, l, false⟩ 0).1 = zeroB := hz
    have e2 : (readD ⟨bs, cs, l, false⟩ 0).2 = 0 := by
      unfold readD
      rw [if_neg Bool.false_ne_true, if_pos]
      refine ⟨by omega, ?_⟩
      have := hf.1.1
      omega
    rw [e1, e2]
    simp
  have HR := Lib.hid (hr.trans (commitD_late h0 h1 h2 hpl hk hk0))
  rw [pre_log, pre_all] at HR
  have HIS : Hid ((∀ s ∈ img, s.size = 128) ∧ img.length = h ∧ i = h) := Lib.hid ⟨h1.1, hil, by rw [← hI.lenS]; exact hil⟩
  have HFL : Hid (FitP ⟨bs, cs, l, false⟩ ∧ l ≤ 9223372036854775807) := Lib.hid ⟨hf, hl⟩
  have HI := Lib.hid hI
  have HSQ := Lib.hid hsq
  generalize homeL ⟨bs, cs, l, false⟩ h g = hm at ch HPL
  generalize (homeD ⟨bs, cs, l, false⟩ h g).2 = he at ch
  have hk1 : ((pl.length : Int) == 0) = false := by rw [beq_eq_false_iff_ne]; omega
  have hk2 : ¬ (g : Int) < (pl.length : Int) := by omega
  have hN1 : 1 ≤ pl.length := by omega
  have hN2 : pl.length ≤ 256 := by omega
  obtain ⟨x0, x1, x2, x3, xf⟩ := R0.out.1.b0.cells
  dsimp only at x2 x3
  rw [← hhd] at hz
  subst hz
  have heq : (zeroB.toList == zeroB.toList) = true := by simp
  obtain ⟨ln, hln⟩ : ∃ ln, ln = listsN h := ⟨_, rfl⟩
  have hln8 : ln ≤ 8 := by rw [hln]; unfold listsN; omega
  have cl : ∀ W : World, Calls Try.prog 42 #[.int .i64 h] W fun e w' => e = .returned (.int .i64 (ln : Nat)) ∧ W = w' := fun W => by rw [hln]; exact refLists_any h hh.2 W
  rw [← hln] at HR
  have HLN := Lib.hid hln
  clear H hI h0 h1 hhd hpl hhl hil h2 hr hf hl hsq hln HH
  go_enter Try.func8, Try.ntmps8
  go_wp2_with fail
  refine cw.mono ?_
  rintro e w1 ⟨rfl, hb1⟩
  have R1 := Lib.hid (And.intro (R0.out.1.step hb1) (R0.out.2.step hb1))
  clear x0 x1 x2 x3 xf R0 hb1 cw
  obtain ⟨x0, x1, x2, x3, xf⟩ := R1.out.1.b0.cells
  dsimp only at x2 x3
  go_wp2_with fail
  refine (ci _ R1.out.2).mono ?_
  rintro e w2 ⟨rfl, rfl⟩
  go_wp2_with fail
  refine (cr _ R1.out.1.dv).mono ?_
  rintro e w2 ⟨rfl, hb2⟩
  have R2 := Lib.hid (And.intro (R1.out.1.step hb2) (R1.out.2.step hb2))
  clear x0 x1 x2 x3 xf R1 hb2 cr
  go_wp2_with fail
  refine (zeros_any _).mono ?_
  rintro e w3 ⟨rfl, hb3⟩
  have R3 := Lib.hid (And.intro (R2.out.1.step hb3) (R2.out.2.step hb3))
  clear R2 hb3
  obtain ⟨x0, x1, x2, x3, xf⟩ := R3.out.1.b0.cells
  dsimp only at x2 x3
  go_wp2_with fail
  refine (ch _ R3.out.1.dv).mono ?_
  rintro e w4 ⟨A4, n4, c4, rfl, hr4, h512, hb4⟩
  have R4 := Lib.hid (And.intro (R3.out.1.step hb4) (And.intro (R3.out.2.step hb4) hr4))
  clear x0 x1 x2 x3 xf R3 hr4 hb4
  go_wp2_with fail
  refine (refChanged_any _ _ _ _ _ _ _ img _ R4.out.2.2 R4.out.2.1 (by omega) hi).mono ?_
  rintro e w5 ⟨A5, c5, rfl, ho5, hb5⟩
  rw [HPL.out] at ho5 ⊢
  have R5 := Lib.hid (And.intro (R4.out.1.step hb5) (And.intro (R4.out.2.1.step hb5) ho5))
  clear R4 hb5 ho5
  obtain ⟨x0, x1, x2, x3, xf⟩ := R5.out.1.b0.cells
  dsimp only at x2 x3
  have HK : Hid (pl.length ≤ g ∧ pl.length ≠ 0) := Lib.hid ⟨hk, hk0⟩
  obtain ⟨N, hN⟩ : ∃ N, N = pl.length := ⟨_, rfl⟩
  rw [← hN] at R5 hk1 hk2 hN1 hN2 ⊢
  have HN := Lib.hid hN
  clear hk hk0 hN
  obtain ⟨ga, rfl, hga0, hga1, _, _⟩ := own_cells R5.out.2.2 (by omega)
  have hz := R5.out.1.lt
  have HW0 : Hid (Rw (w5.alloc (.cells #[.slice A n c, .slice A' m c', .int .i64 l, .bool false, .int .i64 0] 74)) w5.heap.size ⟨A, n, c, A', m, c'⟩ (⟨bs, cs, l, false⟩, 0)) := Lib.hid ⟨heap_alloc_new w5 _, R5.out.1.dv.alloc _⟩
  have C0 : Hid (Cp w (w5.alloc (.cells #[.slice A n c, .slice A' m c', .int .i64 l, .bool false, .int .i64 0] 74)) w4.heap.size w5.heap.size ga N c5 pl (⟨bs, cs, l, false⟩, 0) ⟨A, n, c, A', m, c'⟩) := Lib.hid ⟨own_alloc R5.out.2.2 _, HW0.out, R5.out.1.b1.alloc _, R5.out.1.below.alloc R5.out.1.below.size _⟩
  have HGA : Hid (ga ≠ w5.heap.size ∧ w.heap.size + 1 < w5.heap.size) := Lib.hid ⟨by omega, hz⟩
  go_upto_region 18 with fail
  generalize w5.alloc (.cells #[.slice A n c, .slice A' m c', .int .i64 l, .bool false, .int .i64 0] 74) = W0 at C0 ⊢
  obtain ⟨gw, hgw⟩ : ∃ gw, gw = w5.heap.size := ⟨_, rfl⟩
  rw [← hgw] at C0 HGA ⊢
  clear x0 x1 x2 x3 xf R5 HW0 hga0 hga1 hz hgw
  go_wp2
  rw [show decide (g < N) = false from decide_eq_false (by omega)]
  go_loopg [20, 21, 22] N (fun gk s20 s21 s22 wr => ∃ i : Nat, i ≤ N ∧ N - i ≤ gk ∧ s22 = .int .i64 i ∧ s20 = .string (mkB (placesL (pl.take i))) ∧ s21 = .string (mkB (flatL ((pl.take i).map (blk img)))) ∧ Hid (Cp w wr w4.heap.size gw ga N c5 pl (⟨bs, cs, l, false⟩, 0) ⟨A, n, c, A', m, c'⟩))
  case atStart => exact ⟨0, Nat.zero_le _, by omega, rfl, rfl, rfl, C0⟩
  case round =>
    clear C0
    obtain ⟨j, hj, hgk, rfl, rfl, rfl, J⟩ := hrel
    by_cases hlt : j < N
    · have hjl : (j : Int) < (N : Int) := by omega
      have hjp : j < pl.length := by rw [← HN.out]; exact hlt
      have k1 := J.out.own1.cellAt j (by omega)
      rw [encN_get hjp] at k1
      have hvh := HPM.out j hjp
      obtain ⟨b1, o1, rfl, hb1, g1⟩ := (HI.out.below J.out.below).str (k := pl.getD j 0) (by rw [HIS.out.2.2]; exact hvh)
      have hsz : (blk img (pl.getD j 0)).size = 128 := HIS.out.1 _ (List.mem_of_getElem? (blk_get (by rw [HIS.out.2.1]; exact hvh)))
      have HP1 : Hid (mkB (placesL (pl.take (j + 1))) = mkB (placesL (pl.take j)) ++ mkB (beL (pl.getD j 0) 2)) := Lib.hid (by rw [placesL_snoc pl j hjp, mkB_app])
      have HP2 : Hid (mkB (flatL ((pl.take (j + 1)).map (blk img))) = mkB (flatL ((pl.take j).map (blk img))) ++ blk img (pl.getD j 0)) := Lib.hid (by
        have e : pl.take (j + 1) = pl.take j ++ [pl.getD j 0] := by rw [List.take_add_one, nat_get hjp]; rfl
        rw [e, List.map_append, List.map_cons, List.map_nil, flatL_snoc])
      have hs1 : (mkB (placesL (pl.take j))).size = 2 * j := by rw [mkB_size, placesL_length, List.length_take]; omega
      have hs2 : (mkB (flatL ((pl.take j).map (blk img)))).size = 128 * j := by
        rw [mkB_size, flatL_length _ (fun s hs => by
          obtain ⟨v, hv, rfl⟩ := List.mem_map.1 hs
          obtain ⟨q, hq, e⟩ := List.mem_iff_getElem.1 (List.mem_of_mem_take hv)
          refine HIS.out.1 _ (List.mem_of_getElem? (blk_get ?_))
          have := HPM.out q hq
          rw [List.getD_eq_getElem?_getD, List.getElem?_eq_getElem hq] at this
          rw [HIS.out.2.1, ← e]; exact this), List.length_map, List.length_take]
        omega
      have hs3 : (mkB (beL (pl.getD j 0) 2)).size = 2 := by rw [mkB_size]; rfl
      generalize mkB (placesL (pl.take j)) = S at hs1 HP1
      generalize mkB (flatL ((pl.take j).map (blk img))) = T at hs2 HP2
      generalize blk img (pl.getD j 0) = s at g1 hsz HP2
      have cbe := fun W => refBe_any (pl.getD j 0) 2 W (by omega) (by omega) (by omega)
      generalize mkB (beL (pl.getD j 0) 2) = y at hs3 HP1 cbe
      obtain ⟨v, hv⟩ : ∃ v, v = pl.getD j 0 := ⟨_, rfl⟩
      rw [← hv] at k1 hvh g1 cbe
      have HV := Lib.hid hv
      clear hv
      have hno1 : ¬ 9223372036854775807 < S.size + y.size := by omega
      have hno2 : ¬ 9223372036854775807 < T.size + s.size := by omega
      have hvi : v < i := by rw [HIS.out.2.2]; exact hvh
      have HG1 := Lib.hid (And.intro g1 hb1)
      clear hs1 hs2 hs3 hsz g1 hb1
      go_wp2_with fail
      refine (cbe _).mono ?_
      rintro e w6 ⟨rfl, hb6⟩
      have J6 := Lib.hid (J.out.step hb6)
      have g1 := (J6.out.below.cell (p := ⟨b1, o1 + v, none⟩) HG1.out.2).trans ((J.out.below.cell (p := ⟨b1, o1 + v, none⟩) HG1.out.2).symm.trans HG1.out.1)
      have k2 := J6.out.own1.cellAt j (by omega)
      rw [encN_get hjp, ← HV.out] at k2
      clear J hb6 cbe
      go_wp2
      go_roundg (N - (j + 1))
      case measure => omega
      case rel => exact ⟨j + 1, by omega, by omega, by go_num, by rw [HP1.out], by rw [HP2.out], J6⟩
    · have : j = N := by omega
      subst this
      have HTK : Hid (pl.take j = pl) := Lib.hid (List.take_of_length_le (by rw [← HN.out]; exact Nat.le_refl _))
      rw [HTK.out]
      obtain ⟨bl, hbl⟩ : ∃ bl, bl = pl.map (blk img) := ⟨_, rfl⟩
      rw [← hbl] at HR ⊢
      have HBL : Hid (bl.length = j ∧ (∀ k, k < j → blk bl k = blk img (pl.getD k 0))) := Lib.hid ⟨by rw [hbl, List.length_map]; exact HN.out.symm, fun k hk => by
        have hk2 : k < pl.length := by rw [← HN.out]; exact hk
        rw [hbl]
        unfold blk
        rw [List.getD_eq_getElem?_getD, List.getElem?_map, nat_get hk2]
        rfl⟩
      have hS : (mkB (placesL pl)).size = 2 * j := by rw [mkB_size, placesL_length, ← HN.out]
      have HPC := Lib.hid (fun k s hs => piece_ext pl k s hs)
      obtain ⟨S, hSS⟩ : ∃ S, S = mkB (placesL pl) := ⟨_, rfl⟩
      rw [← hSS] at hS HPC ⊢
      rw [← HN.out] at HPC
      obtain ⟨T, hTT⟩ : ∃ T, T = mkB (flatL bl) := ⟨_, rfl⟩
      rw [← hTT]
      have HST := Lib.hid (And.intro hSS hTT)
      obtain ⟨K, hK⟩ : ∃ K, K = (j + 63) / 64 := ⟨_, rfl⟩
      have HLK : Hid ((listB pl).length = K) := Lib.hid (by rw [hK, HN.out]; simp [listB])
      have hK4 : K ≤ 4 := by omega
      have hKj : 128 * K < 2 * j + 128 ∧ 2 * j ≤ 128 * K := by omega
      clear hbl hSS hTT hK
      go_wp2
      go_loopg [23] K (fun gk s23 wr => ∃ q : Nat, q ≤ K ∧ K - q ≤ gk ∧ s23 = .int .i64 q ∧ Hid (∃ vv, Cp w wr w4.heap.size gw ga j c5 pl (runD (⟨bs, cs, l, false⟩, 0) (stepsL (fun t => ((1 + t : Nat) : Int)) (blk (listB pl)) q)) vv))
      case atStart => exact ⟨0, Nat.zero_le _, by omega, rfl, Lib.hid ⟨_, J.out⟩⟩
      case round =>
        clear J
        obtain ⟨q, hq, hgk, rfl, J⟩ := hrel
        obtain ⟨vv, J⟩ := J.out
        by_cases hlt : q < K
        · have HJ := Lib.hid J
          clear J
          obtain ⟨lo, hlo⟩ : ∃ lo, lo = 128 * q := ⟨_, rfl⟩
          obtain ⟨hi, hhi⟩ : ∃ hi, hi = min (2 * j) (128 * (q + 1)) := ⟨_, rfl⟩
          have e1 : (q : Int) * 128 = (lo : Int) := by omega
          have e2 : min (2 * (j : Int)) (((q : Int) + 1) * 128) = (hi : Int) := by omega
          have hlh : lo ≤ hi := by omega
          have hhs : hi ≤ S.size := by omega
          have hlt1 : (lo : Int) < (S.size : Int) := by omega
          have hpc := HPC.out q _ rfl
          have hsz : ∀ s : ByteArray, s = S.extract (128 * q) (min (2 * j) (128 * (q + 1))) → s.size ≤ 128 := fun s hs => by rw [hs]; exact hpc.2
          go_wp2_with fail
          clear hlo hhi e1 e2 hlh hhs hlt1
          obtain ⟨piece, hpi⟩ : ∃ piece, piece = S.extract (128 * q) (min (2 * j) (128 * (q + 1))) := ⟨_, rfl⟩
          rw [← hpi] at hpc ⊢
          have HPI := Lib.hid hpc.1
          have hpad := refPad_any piece wr hpc.2
          rw [hpc.1] at hpad
          obtain ⟨q1, hq1⟩ : ∃ q1, q1 = 1 + q := ⟨_, rfl⟩
          have HSTEP : Hid (runD (⟨bs, cs, l, false⟩, 0) (stepsL (fun t => ((1 + t : Nat) : Int)) (blk (listB pl)) (q + 1)) = stepD (runD (⟨bs, cs, l, false⟩, 0) (stepsL (fun t => ((1 + t : Nat) : Int)) (blk (listB pl)) q)) (.put (q1 : Int) (pieceB pl q))) := Lib.hid (by
            rw [stepsL_succ, hq1]
            have : blk (listB pl) q = pieceB pl q := by
              unfold blk listB
              rw [List.getD_eq_getElem?_getD, List.getElem?_map, List.getElem?_range (by have h9 := HLK.out; simp only [listB, List.length_map, List.length_range] at h9; omega)]
              rfl
            rw [this])
          have HLE : Hid ((runD (⟨bs, cs, l, false⟩, 0) (stepsL (fun t => ((1 + t : Nat) : Int)) (blk (listB pl)) q)).1.left ≤ 9223372036854775807) := Lib.hid (left_run _ HFL.out.2)
          generalize pieceB pl q = pc at hpad HSTEP
          generalize runD (⟨bs, cs, l, false⟩, 0) (stepsL (fun t => ((1 + t : Nat) : Int)) (blk (listB pl)) q) = xq at HJ HSTEP HLE
          clear hpi hpc hsz HPI
          refine hpad.mono ?_
          rintro e w6 ⟨rfl, hb6⟩
          have J6 := Lib.hid (HJ.out.step hb6)
          clear HJ hb6 hpad
          have e3 : (1 : Int) + (q : Int) = (q1 : Int) := by omega
          have hq8 : q1 ≤ 8 := by omega
          clear hq1
          go_wp2_with fail
          (with_reducible refine (refPut_wk _ gw vv xq (q1 : Int) pc J6.out.rw HLE.out).mono ?_)
          rintro e w7 ⟨rfl, v2, hw2, hg2⟩
          have JN := Lib.hid (J6.out.grown hw2 hg2 HGA.out.1 HGA.out.2)
          rw [← HSTEP.out] at JN
          clear hw2 hg2 J6 e3 hq8
          go_wp2
          go_roundg (K - (q + 1))
          case measure => omega
          case rel => exact ⟨q + 1, by omega, by omega, by go_num, Lib.hid ⟨v2, JN.out⟩⟩
        · have : q = K := by omega
          subst this
          have e1 : ¬ (q : Int) * 128 < (S.size : Int) := by omega
          obtain ⟨xl, hxl⟩ : ∃ xl, xl = runD (⟨bs, cs, l, false⟩, 0) (rowSteps 1 (listB pl)) := ⟨_, rfl⟩
          have HXL := Lib.hid hxl
          have HX1 : Hid (FitP xl.1 ∧ xl.1.left ≤ 9223372036854775807) := Lib.hid ⟨by rw [hxl]; exact fit_run _ HFL.out.1, by rw [hxl]; exact left_run _ HFL.out.2⟩
          have J : Cp w wr w4.heap.size gw ga j c5 pl xl vv := by
            rw [hxl]
            unfold rowSteps
            rw [HLK.out]
            exact J
          have HJ := Lib.hid J
          clear J hxl
          obtain ⟨a1, ha1⟩ : ∃ a1, a1 = 1 + ln := ⟨_, rfl⟩
          have HA1 := Lib.hid ha1
          have e2 : (1 : Int) + (ln : Int) = (a1 : Int) := by omega
          have ha9 : a1 ≤ 9 := by omega
          clear ha1
          go_wp2
          go_loopg [24] j (fun gk s24 wr => ∃ t : Nat, t ≤ j ∧ j - t ≤ gk ∧ s24 = .int .i64 t ∧ Hid (∃ vv, Cp w wr w4.heap.size gw ga j c5 pl (runD xl (stepsL (fun t => ((a1 + t : Nat) : Int)) (blk bl) t)) vv))
          case atStart => exact ⟨0, Nat.zero_le _, by omega, rfl, Lib.hid ⟨_, HJ.out⟩⟩
          case round =>
            clear HJ
            obtain ⟨t, ht, hgk, rfl, J⟩ := hrel
            obtain ⟨vv, J⟩ := J.out
            by_cases hlt : t < j
            · have htl : (t : Int) < (j : Int) := by omega
              have htp : t < pl.length := by rw [← HN.out]; exact hlt
              have k1 := J.own1.cellAt t (by omega)
              rw [encN_get htp] at k1
              have hvh := HPM.out t htp
              obtain ⟨b1, o1, rfl, hb1, g1⟩ := (HI.out.below J.below).str (k := pl.getD t 0) (by rw [HIS.out.2.2]; exact hvh)
              obtain ⟨t1, ht1⟩ : ∃ t1, t1 = a1 + t := ⟨_, rfl⟩
              have HSTEP : Hid (runD xl (stepsL (fun t => ((a1 + t : Nat) : Int)) (blk bl) (t + 1)) = stepD (runD xl (stepsL (fun t => ((a1 + t : Nat) : Int)) (blk bl) t)) (.put (t1 : Int) (blk img (pl.getD t 0)))) := Lib.hid (by rw [stepsL_succ, HBL.out.2 t hlt, ht1])
              have HLE : Hid ((runD xl (stepsL (fun t => ((a1 + t : Nat) : Int)) (blk bl) t)).1.left ≤ 9223372036854775807) := Lib.hid (left_run _ HX1.out.2)
              have HJ := Lib.hid J.drew
              have hvi : pl.getD t 0 < i := by rw [HIS.out.2.2]; exact hvh
              generalize runD xl (stepsL (fun t => ((a1 + t : Nat) : Int)) (blk bl) t) = xq at HJ HSTEP HLE
              generalize blk img (pl.getD t 0) = s at g1 HSTEP
              generalize pl.getD t 0 = v at k1 g1 hvh hvi
              have e3 : (a1 : Int) + (t : Int) = (t1 : Int) := by omega
              have ht9 : t1 ≤ 512 := by omega
              clear ht1
              have w1 : IntKind.i64.wrap (a1 : Int) = (a1 : Int) := IntWalk.i64_in _ (by omega)
              have w2 : IntKind.i64.wrap (t1 : Int) = (t1 : Int) := IntWalk.i64_in _ (by omega)
              clear J
              go_wp2
              go_still_tail 13, (by kernel_rfl)
              still_call ((cl _).mono fun e w' h => ⟨h.1, h.2.symm⟩)
              repeat still_step
              refine wpStill_nil ?_
              change wpList _ _ _ _ _ wr.drew
              go_wp2_with fail
              (with_reducible refine (refPut_wk _ gw vv xq (t1 : Int) s HJ.out.rw HLE.out).mono ?_)
              rintro e w7 ⟨rfl, v2, hw2, hg2⟩
              have JN := Lib.hid (HJ.out.grown hw2 hg2 HGA.out.1 HGA.out.2)
              rw [← HSTEP.out] at JN
              clear hw2 hg2 HJ e3 ht9 w1 w2 k1 g1
              go_wp2
              go_roundg (j - (t + 1))
              case measure => omega
              case rel => exact ⟨t + 1, by omega, by omega, by go_num, Lib.hid ⟨v2, JN.out⟩⟩
            · have : t = j := by omega
              subst this
              obtain ⟨x1, hx1⟩ : ∃ x1, x1 = runD xl (rowSteps a1 bl) := ⟨_, rfl⟩
              have HX2 : Hid (FitP x1.1 ∧ x1.1.left ≤ 9223372036854775807) := Lib.hid ⟨by rw [hx1]; exact fit_run _ HX1.out.1, by rw [hx1]; exact left_run _ HX1.out.2⟩
              have J : Cp w wr w4.heap.size gw ga t c5 pl x1 vv := by
                rw [hx1]
                unfold rowSteps
                rw [HBL.out.1]
                exact J
              have HJ := Lib.hid J
              have HXR := Lib.hid hx1
              clear J hx1
              go_wp2_with fail
              (with_reducible refine (refFlush_wk _ gw _ x1 HJ.out.rw HX2.out.2 (in_of_fit HX2.out.1)).mono ?_)
              rintro e w13 ⟨rfl, v3, hw3, hg3⟩
              have J3 := Lib.hid (HJ.out.grown hw3 hg3 HGA.out.1 HGA.out.2)
              have HX3 : Hid ((stepD x1 .flush).1.left ≤ 9223372036854775807 ∧ FitP (stepD x1 .flush).1) := Lib.hid ⟨left_step HX2.out.2 _, fit_step HX2.out.1 _⟩
              obtain ⟨x2, hx2⟩ : ∃ x2, x2 = stepD x1 .flush := ⟨_, rfl⟩
              rw [← hx2] at J3 HX3
              have HXF := Lib.hid hx2
              clear hw3 hg3 HJ hx2
              have cb8 := fun W => refBe_any sq 8 W HSQ.out (by omega) (by omega)
              have cb2 := fun W => refBe_any t 2 W (by omega) (by omega) (by omega)
              have cc := fun W => refCrc_any (S ++ T) W (by
                have h9 : (S ++ T).size = 2 * t + T.size := by rw [ByteArray.size_append, hS]
                have h10 : T.size = 128 * t := by
                  rw [HST.out.2, mkB_size, flatL_length _ (fun s hs => by
                    obtain ⟨k, hk, e⟩ := List.mem_iff_getElem.1 hs
                    have h11 := HBL.out.2 k (by rw [← HBL.out.1]; exact hk)
                    unfold blk at h11
                    rw [List.getD_eq_getElem?_getD, List.getElem?_eq_getElem hk] at h11
                    rw [← e, show bl[k] = blk img (pl.getD k 0) from h11]
                    exact HIS.out.1 _ (List.mem_of_getElem? (blk_get (by rw [HIS.out.2.1]; exact HPM.out k (by rw [← HN.out, ← HBL.out.1]; exact hk))))), HBL.out.1]
                unfold maxLen
                omega)
              have hcrc : crc (S ++ T).data.toList = crc (placesL pl ++ flatL bl) := by rw [HST.out.1, HST.out.2, mkB_app, mkB_list]
              rw [hcrc] at cc
              have hc32 : crc (placesL pl ++ flatL bl) < 4294967296 := by unfold crc; omega
              have HSEAL : Hid (padL (((⟨#[65, 87, 76, 49]⟩ : ByteArray) ++ mkB (beL sq 8)) ++ mkB (beL t 2) ++ mkB (beL (crc (placesL pl ++ flatL bl)) 4)).data.toList = sealB sq pl bl) := Lib.hid (by
                unfold sealB
                rw [show (⟨#[65, 87, 76, 49]⟩ : ByteArray) = mkB [65, 87, 76, 49] from rfl, mkB_app, mkB_app, mkB_app, mkB_list, ← HN.out])
              have hsz2 : (mkB (beL sq 8)).size = 8 ∧ (mkB (beL t 2)).size = 2 ∧ (mkB (beL (crc (placesL pl ++ flatL bl)) 4)).size = 4 := ⟨by rw [mkB_size]; rfl, by rw [mkB_size]; rfl, by rw [mkB_size]; rfl⟩
              have cb4 := fun W => refBe_any (crc (placesL pl ++ flatL bl)) 4 W (by omega) (by omega) (by omega)
              obtain ⟨sB, hsB⟩ : ∃ sB, sB = sealB sq pl bl := ⟨_, rfl⟩
              rw [← hsB] at HSEAL
              have HSB := Lib.hid hsB
              clear hsB
              generalize crc (placesL pl ++ flatL bl) = cr at cc hc32 HSEAL hsz2 cb4
              generalize mkB (beL sq 8) = y1 at cb8 HSEAL hsz2
              generalize mkB (beL t 2) = y2 at cb2 HSEAL hsz2
              generalize mkB (beL cr 4) = y3 at cb4 HSEAL hsz2
              obtain ⟨z1, z2, z3⟩ := hsz2
              have hTs : ¬ 9223372036854775807 < S.size + T.size := by
                have h10 : T.size = 128 * t := by
                  rw [HST.out.2, mkB_size, flatL_length _ (fun s hs => by
                    obtain ⟨k, hk, e⟩ := List.mem_iff_getElem.1 hs
                    have h11 := HBL.out.2 k (by rw [← HBL.out.1]; exact hk)
                    unfold blk at h11
                    rw [List.getD_eq_getElem?_getD, List.getElem?_eq_getElem hk] at h11
                    rw [← e, show bl[k] = blk img (pl.getD k 0) from h11]
                    exact HIS.out.1 _ (List.mem_of_getElem? (blk_get (by rw [HIS.out.2.1]; exact HPM.out k (by rw [← HN.out, ← HBL.out.1]; exact hk))))), HBL.out.1]
                omega
              have n1 : ¬ 9223372036854775807 < (⟨#[65, 87, 76, 49]⟩ : ByteArray).size + y1.size := by rw [z1]; decide
              have q1s : ((⟨#[65, 87, 76, 49]⟩ : ByteArray) ++ y1).size = 12 := by rw [ByteArray.size_append, z1]; rfl
              have n2 : ¬ 9223372036854775807 < ((⟨#[65, 87, 76, 49]⟩ : ByteArray) ++ y1).size + y2.size := by rw [z2, q1s]; decide
              have q2s : (((⟨#[65, 87, 76, 49]⟩ : ByteArray) ++ y1) ++ y2).size = 14 := by rw [ByteArray.size_append, q1s, z2]
              have n3 : ¬ 9223372036854775807 < (((⟨#[65, 87, 76, 49]⟩ : ByteArray) ++ y1) ++ y2).size + y3.size := by rw [z3, q2s]; decide
              have cpd := fun W => refPad_any ((((⟨#[65, 87, 76, 49]⟩ : ByteArray) ++ y1) ++ y2) ++ y3) W (by rw [ByteArray.size_append, q2s, z3]; decide)
              rw [HSEAL.out] at cpd
              have wt : IntKind.u64.wrap (t : Int) = (t : Int) := IntWalk.u64_in _ (by omega)
              have wc : IntKind.u64.wrap (cr : Int) = (cr : Int) := IntWalk.u64_in _ (by omega)
              clear hcrc q1s q2s z1 z2 z3
              go_wp2_with fail
              refine (cb8 _).mono ?_
              rintro e w14 ⟨rfl, hb⟩
              have J4 := Lib.hid (J3.out.step hb)
              clear J3 hb
              go_wp2_with fail
              refine (cb2 _).mono ?_
              rintro e w15 ⟨rfl, hb⟩
              have J5 := Lib.hid (J4.out.step hb)
              clear J4 hb
              go_wp2_with fail
              refine (cc _).mono ?_
              rintro e w16 ⟨rfl, rfl⟩
              go_wp2_with fail
              refine (cb4 _).mono ?_
              rintro e w17 ⟨rfl, hb⟩
              have J6 := Lib.hid (J5.out.step hb)
              clear J5 hb
              go_wp2_with fail
              refine (cpd _).mono ?_
              rintro e w18 ⟨rfl, hb⟩
              have J7 := Lib.hid (J6.out.step hb)
              clear J6 hb cpd n1 n2 n3 cb8 cb2 cc cb4 wt wc hTs
              go_wp2_with fail
              (with_reducible refine (refPut_wk _ gw _ x2 0 sB J7.out.rw HX3.out.1).mono ?_)
              rintro e w19 ⟨rfl, v4, hw4, hg4⟩
              have J8 := Lib.hid (J7.out.grown hw4 hg4 HGA.out.1 HGA.out.2)
              have HX4 : Hid ((stepD x2 (.put 0 sB)).1.left ≤ 9223372036854775807 ∧ FitP (stepD x2 (.put 0 sB)).1) := Lib.hid ⟨left_step HX3.out.1 _, fit_step HX3.out.2 _⟩
              obtain ⟨x3, hx3⟩ : ∃ x3, x3 = stepD x2 (.put 0 sB) := ⟨_, rfl⟩
              rw [← hx3] at J8 HX4
              have HXP := Lib.hid hx3
              clear hw4 hg4 J7 hx3
              go_wp2_with fail
              (with_reducible refine (refFlush_wk _ gw _ x3 J8.out.rw HX4.out.1 (in_of_fit HX4.out.2)).mono ?_)
              rintro e W9 ⟨rfl, v9, hw5, hg5⟩
              have J9 := Lib.hid (J8.out.grown hw5 hg5 HGA.out.1 HGA.out.2)
              have HX5 : Hid ((stepD x3 .flush).1.left ≤ 9223372036854775807 ∧ FitP (stepD x3 .flush).1) := Lib.hid ⟨left_step HX4.out.1 _, fit_step HX4.out.2 _⟩
              obtain ⟨x9, hx9⟩ : ∃ x9, x9 = stepD x3 .flush := ⟨_, rfl⟩
              rw [← hx9] at J9 HX5
              clear hw5 hg5 J8
              have HLOG : Hid (runD (⟨bs, cs, l, false⟩, 0) (logSteps h sq pl bl) = x9) := Lib.hid (by
                unfold logSteps
                rw [← HLN.out, ← HA1.out, runD_app, runD_app, runD_app, runD_app, ← HXL.out, ← HXR.out]
                rw [hx9, HXP.out, HXF.out, HSB.out]
                rfl)
              clear hx9
              obtain ⟨y0, y1', y2', y3', y4⟩ := J9.out.rw.c
              by_cases he0 : x9.2 = 0
              · obtain ⟨a, haa⟩ : ∃ a, a = a1 + g := ⟨_, rfl⟩
                have HAA := Lib.hid haa
                have hae : (a1 : Int) + (g : Int) = (a : Int) := by omega
                have ha265 : a ≤ 265 := by omega
                have ht0 : (x9.2 != 0) = false := by simpa using he0
                have HX6 : Hid (FitP x9.1 ∧ x9.1.left ≤ 9223372036854775807) := Lib.hid ⟨HX5.out.2, HX5.out.1⟩
                have HE0 := Lib.hid he0
                clear haa he0
                go_wp2
                go_loopg [25] t (fun gk s25 wr => ∃ u : Nat, u ≤ t ∧ t - u ≤ gk ∧ s25 = .int .i64 u ∧ Hid (∃ vv, Cp w wr w4.heap.size gw ga t c5 pl (runD x9 (stepsL (fun t => ((a + pl.getD t 0 : Nat) : Int)) (blk bl) u)) vv))
                case atStart => exact ⟨0, Nat.zero_le _, by omega, rfl, Lib.hid ⟨_, J9.out⟩⟩
                case round =>
                  clear J9 y0 y1' y2' y3' y4
                  obtain ⟨u, hu, hgk, rfl, J⟩ := hrel
                  obtain ⟨vv, J⟩ := J.out
                  by_cases hlt : u < t
                  · have htl : (u : Int) < (t : Int) := by omega
                    have htp : u < pl.length := by rw [← HN.out]; exact hlt
                    have k1 := J.own1.cellAt u (by omega)
                    rw [encN_get htp] at k1
                    have hvh := HPM.out u htp
                    obtain ⟨b1, o1, rfl, hb1, g1⟩ := (HI.out.below J.below).str (k := pl.getD u 0) (by rw [HIS.out.2.2]; exact hvh)
                    obtain ⟨t1, ht1⟩ : ∃ t1, t1 = a + pl.getD u 0 := ⟨_, rfl⟩
                    have HSTEP : Hid (runD x9 (stepsL (fun t => ((a + pl.getD t 0 : Nat) : Int)) (blk bl) (u + 1)) = stepD (runD x9 (stepsL (fun t => ((a + pl.getD t 0 : Nat) : Int)) (blk bl) u)) (.put (t1 : Int) (blk img (pl.getD u 0)))) := Lib.hid (by rw [stepsL_succ, HBL.out.2 u hlt, ht1])
                    have HLE : Hid ((runD x9 (stepsL (fun t => ((a + pl.getD t 0 : Nat) : Int)) (blk bl) u)).1.left ≤ 9223372036854775807) := Lib.hid (left_run _ HX6.out.2)
                    have HJ := Lib.hid J.drew
                    have hvi : pl.getD u 0 < i := by rw [HIS.out.2.2]; exact hvh
                    generalize runD x9 (stepsL (fun t => ((a + pl.getD t 0 : Nat) : Int)) (blk bl) u) = xq at HJ HSTEP HLE
                    generalize blk img (pl.getD u 0) = s at g1 HSTEP
                    generalize pl.getD u 0 = v at k1 g1 hvh hvi ht1
                    have e3 : (a : Int) + (v : Int) = (t1 : Int) := by omega
                    have ht9 : t1 ≤ 1024 := by omega
                    clear ht1
                    have w1 : IntKind.i64.wrap (a1 : Int) = (a1 : Int) := IntWalk.i64_in _ (by omega)
                    have w3 : IntKind.i64.wrap (a : Int) = (a : Int) := IntWalk.i64_in _ (by omega)
                    have w2 : IntKind.i64.wrap (t1 : Int) = (t1 : Int) := IntWalk.i64_in _ (by omega)
                    clear J
                    go_wp2
                    go_still_tail 18, (by kernel_rfl)
                    still_call ((cl _).mono fun e w' h => ⟨h.1, h.2.symm⟩)
                    repeat still_step
                    refine wpStill_nil ?_
                    change wpList _ _ _ _ _ wr.drew
                    go_wp2_with fail
                    (with_reducible refine (refPut_wk _ gw vv xq (t1 : Int) s HJ.out.rw HLE.out).mono ?_)
                    rintro e w7 ⟨rfl, v2, hw2, hg2⟩
                    have JN := Lib.hid (HJ.out.grown hw2 hg2 HGA.out.1 HGA.out.2)
                    rw [← HSTEP.out] at JN
                    clear hw2 hg2 HJ e3 ht9 w1 w2 w3 k1 g1
                    go_wp2
                    go_roundg (t - (u + 1))
                    case measure => omega
                    case rel => exact ⟨u + 1, by omega, by omega, by go_num, Lib.hid ⟨v2, JN.out⟩⟩
                  · have : u = t := by omega
                    subst this
                    obtain ⟨x10, hx10⟩ : ∃ x10, x10 = runD x9 (homeSteps a pl bl) := ⟨_, rfl⟩
                    have HX7 : Hid (FitP x10.1 ∧ x10.1.left ≤ 9223372036854775807) := Lib.hid ⟨by rw [hx10]; exact fit_run _ HX6.out.1, by rw [hx10]; exact left_run _ HX6.out.2⟩
                    have J : Cp w wr w4.heap.size gw ga u c5 pl x10 vv := by
                      rw [hx10]
                      unfold homeSteps
                      rw [← HN.out]
                      exact J
                    have HJ := Lib.hid J
                    have HXA := Lib.hid hx10
                    clear J hx10
                    go_wp2_with fail
                    (with_reducible refine (refFlush_wk _ gw _ x10 HJ.out.rw HX7.out.2 (in_of_fit HX7.out.1)).mono ?_)
                    rintro e w20 ⟨rfl, v3, hw3, hg3⟩
                    have J3 := Lib.hid (HJ.out.grown hw3 hg3 HGA.out.1 HGA.out.2)
                    have HX8 : Hid ((stepD x10 .flush).1.left ≤ 9223372036854775807 ∧ FitP (stepD x10 .flush).1) := Lib.hid ⟨left_step HX7.out.2 _, fit_step HX7.out.1 _⟩
                    obtain ⟨x11, hx11⟩ : ∃ x11, x11 = stepD x10 .flush := ⟨_, rfl⟩
                    rw [← hx11] at J3 HX8
                    have HXB := Lib.hid hx11
                    clear hw3 hg3 HJ hx11
                    go_wp2_with fail
                    refine (zeros_any _).mono ?_
                    rintro e w21 ⟨rfl, hb⟩
                    have J4 := Lib.hid (J3.out.step hb)
                    clear J3 hb
                    go_wp2_with fail
                    (with_reducible refine (refPut_wk _ gw _ x11 0 zeroB J4.out.rw HX8.out.1).mono ?_)
                    rintro e w22 ⟨rfl, v5, hw5, hg5⟩
                    have J5 := Lib.hid (J4.out.grown hw5 hg5 HGA.out.1 HGA.out.2)
                    have HX9 : Hid ((stepD x11 (.put 0 zeroB)).1.left ≤ 9223372036854775807 ∧ FitP (stepD x11 (.put 0 zeroB)).1) := Lib.hid ⟨left_step HX8.out.1 _, fit_step HX8.out.2 _⟩
                    obtain ⟨x12, hx12⟩ : ∃ x12, x12 = stepD x11 (.put 0 zeroB) := ⟨_, rfl⟩
                    rw [← hx12] at J5 HX9
                    have HXC := Lib.hid hx12
                    clear hw5 hg5 J4 hx12
                    go_wp2_with fail
                    (with_reducible refine (refFlush_wk _ gw _ x12 J5.out.rw HX9.out.1 (in_of_fit HX9.out.2)).mono ?_)
                    rintro e WE ⟨rfl, ve, hw6, hg6⟩
                    have JE := Lib.hid (J5.out.grown hw6 hg6 HGA.out.1 HGA.out.2)
                    obtain ⟨xe, hxe⟩ : ∃ xe, xe = stepD x12 .flush := ⟨_, rfl⟩
                    rw [← hxe] at JE
                    clear hw6 hg6 J5
                    have HEND : Hid (r = (xe.1, xe.2, true)) := Lib.hid (by
                      have e9 : runD (⟨bs, cs, l, false⟩, 0) (logSteps h sq pl bl ++ endSteps (1 + ln + g) pl bl) = xe := by
                        rw [runD_app, HLOG.out]
                        unfold endSteps
                        rw [← HA1.out, ← HAA.out, runD_app, runD_app, runD_app, ← HXA.out, hxe, HXC.out, HXB.out]
                        rfl
                      rw [HR.out, HLOG.out, if_neg (fun hh => hh HE0.out), e9])
                    clear hxe HR
                    have HT : Hid (Tells3 w (putD WE.drew (w.heap.size + 1) (.slice ve.A ve.n ve.c) (.slice ve.A' ve.m ve.c') (.int .i64 xe.1.left) (.bool xe.1.dead)) (xe.1, xe.2, true) (.returned (.tuple #[.agg #[.slice ve.A ve.n ve.c, .slice ve.A' ve.m ve.c', .int .i64 xe.1.left, .bool xe.1.dead], .int .i64 xe.2, .bool true]))) := Lib.hid ⟨ve.A, ve.n, ve.c, ve.A', ve.m, ve.c', rfl, putD_dv JE.out.drew.b1 JE.out.drew.rw.dv, putD_below JE.out.drew.below (by omega)⟩
                    have HT2 : Hid (Tells3 w (putD WE (w.heap.size + 1) (.slice ve.A ve.n ve.c) (.slice ve.A' ve.m ve.c') (.int .i64 xe.1.left) (.bool xe.1.dead)) (xe.1, xe.2, true) (.returned (.tuple #[.agg #[.slice ve.A ve.n ve.c, .slice ve.A' ve.m ve.c', .int .i64 xe.1.left, .bool xe.1.dead], .int .i64 xe.2, .bool true]))) := Lib.hid ⟨ve.A, ve.n, ve.c, ve.A', ve.m, ve.c', rfl, putD_dv JE.out.b1 JE.out.rw.dv, putD_below JE.out.below (by omega)⟩
                    have hz : w.heap.size + 1 < WE.heap.size := JE.out.b1.lt
                    have hgr : gw ≠ w.heap.size + 1 := by have := HGA.out.2; omega
                    have HRW6 := Lib.hid JE.out.drew.rw
                    obtain ⟨z0, z1, z2, z3, zf⟩ := JE.out.b1.cells
                    go_wp2_with fail
                    go_region_held3 (fun w' => w'.cell? ⟨gw, 0, none⟩ = some (.slice ve.A ve.n ve.c) ∧ w'.cell? ⟨gw, 1, none⟩ = some (.slice ve.A' ve.m ve.c') ∧ w'.cell? ⟨gw, 2, none⟩ = some (.int .i64 xe.1.left) ∧ w'.cell? ⟨gw, 3, none⟩ = some (.bool xe.1.dead) ∧ w'.cell? ⟨gw, 4, none⟩ = some (.int .i64 xe.2))
                      (first | exact JE.out.rw.c | exact HRW6.out.c | exact putD_keep JE.out.rw hgr | exact putD_keep HRW6.out hgr)
                      (fail)
                    go_wp2
                    refine bodyPost_ret (v := .tuple #[.agg #[.slice ve.A ve.n ve.c, .slice ve.A' ve.m ve.c', .int .i64 xe.1.left, .bool xe.1.dead], .int .i64 xe.2, .bool true]) (by simp [results, Try.results8, go_sem, z0, z1, z2, z3]) rfl ?_
                    rw [HEND.out]
                    first | exact HT.out | exact HT2.out
              · have ht0 : (x9.2 != 0) = true := by simpa using he0
                have HEND : Hid (r = (x9.1, x9.2, false)) := Lib.hid (by rw [HR.out, HLOG.out, if_pos he0])
                clear HR
                have HT : Hid (Tells3 w (putD W9.drew (w.heap.size + 1) (.slice v9.A v9.n v9.c) (.slice v9.A' v9.m v9.c') (.int .i64 x9.1.left) (.bool x9.1.dead)) (x9.1, x9.2, false) (.returned (.tuple #[.agg #[.slice v9.A v9.n v9.c, .slice v9.A' v9.m v9.c', .int .i64 x9.1.left, .bool x9.1.dead], .int .i64 x9.2, .bool false]))) := Lib.hid ⟨v9.A, v9.n, v9.c, v9.A', v9.m, v9.c', rfl, putD_dv J9.out.drew.b1 J9.out.drew.rw.dv, putD_below J9.out.drew.below (by omega)⟩
                have HT2 : Hid (Tells3 w (putD W9 (w.heap.size + 1) (.slice v9.A v9.n v9.c) (.slice v9.A' v9.m v9.c') (.int .i64 x9.1.left) (.bool x9.1.dead)) (x9.1, x9.2, false) (.returned (.tuple #[.agg #[.slice v9.A v9.n v9.c, .slice v9.A' v9.m v9.c', .int .i64 x9.1.left, .bool x9.1.dead], .int .i64 x9.2, .bool false]))) := Lib.hid ⟨v9.A, v9.n, v9.c, v9.A', v9.m, v9.c', rfl, putD_dv J9.out.b1 J9.out.rw.dv, putD_below J9.out.below (by omega)⟩
                have hz : w.heap.size + 1 < W9.heap.size := J9.out.b1.lt
                have hgr : gw ≠ w.heap.size + 1 := by have := HGA.out.2; omega
                have HRW6 := Lib.hid J9.out.drew.rw
                obtain ⟨z0, z1, z2, z3, zf⟩ := J9.out.b1.cells
                go_wp2_with fail
                go_region_held3 (fun w' => w'.cell? ⟨gw, 0, none⟩ = some (.slice v9.A v9.n v9.c) ∧ w'.cell? ⟨gw, 1, none⟩ = some (.slice v9.A' v9.m v9.c') ∧ w'.cell? ⟨gw, 2, none⟩ = some (.int .i64 x9.1.left) ∧ w'.cell? ⟨gw, 3, none⟩ = some (.bool x9.1.dead) ∧ w'.cell? ⟨gw, 4, none⟩ = some (.int .i64 x9.2))
                  (first | exact J9.out.rw.c | exact HRW6.out.c | exact putD_keep J9.out.rw hgr | exact putD_keep HRW6.out hgr)
                  (fail)
                go_wp2
                refine bodyPost_ret (v := .tuple #[.agg #[.slice v9.A v9.n v9.c, .slice v9.A' v9.m v9.c', .int .i64 x9.1.left, .bool x9.1.dead], .int .i64 x9.2, .bool false]) (by simp [results, Try.results8, go_sem, z0, z1, z2, z3]) rfl ?_
                rw [HEND.out]
                first | exact HT.out | exact HT2.out

end Go.Proofs.Ytlpijikhbjkmfaa
