/-
  InodeTells is true of every list of texts and every number.
-/
import Derived.Test.YtcfmpmcdfllibaaG34
import Derived.Test.YtcfmpmcdfllibaaG33
namespace Go.Proofs.Ytcfmpmcdfllibaa
open Go.RowKit

theorem litsI_inj {r s : RecI} (hr : OkR r) (hs : OkR s) (h : litsI r = litsI s) : cellsI r = cellsI s := by
  obtain ⟨n1, k1, z1, b1, i1, l1⟩ := r
  obtain ⟨n2, k2, z2, b2, i2, l2⟩ := s
  have e1 : b1.length = b2.length := hr.bl.trans hs.bl.symm
  simp only [litsI, List.cons.injEq] at h
  obtain ⟨h2, h3, h4⟩ := h
  obtain ⟨h4, h5⟩ := List.append_inj h4 (by simpa using e1)
  simp only [List.cons.injEq] at h5
  simp only [cellsI, litN_inj h2, litN_inj h3, litsN_inj h4, litN_inj h5.1]
theorem formedI {r : RecI} (h : OkR r) : (valI r).formed Try.prog 27 = true := by
  have c7 : Try.prog.cellsOf 27 = 7 := by kernel_rfl
  unfold valI
  simp [Value.formed, Try.underlying27, c7, cellsI_length h]
theorem eqI_run {r : RecI} (hr : OkR r) (br : BigR r) (W : World) : (binOp .eql 27 (.agg (cellsI r).toArray) (.agg (cellsI r).toArray)).run Try.prog W = .ok (.bool true) W := by
  obtain ⟨b, hb, hi⟩ := run_equalIn_deep (P := Try.prog) 9996 4 27 (by kernel_rfl) W 4 4 (valI r) (valI r) (litsI r) (litsI r) (formedI hr) (formedI hr) (litsI_some hr br 1) (litsI_some hr br 1)
  unfold valI at hb
  rw [run_eql_struct, hb]
  rw [hi.2 rfl]
  rfl
theorem eqgI_no : Try.prog.eqGuardType Try.prog.depth 27 = false := by kernel_rfl
theorem run_eqgI (W : World) (a b : Operand) (r s : RecI) : (eqGuard .eql 27 a b (.agg (cellsI r).toArray) (.agg (cellsI s).toArray)).run Try.prog W = .ok () W := run_eqGuard_agg W .eql _ _ _ _ _ eqgI_no
theorem getI_big (img : List ByteArray) (i : Int) : BigR (getI img i).1 := by
  rcases getI_cases img i with h | ⟨k, rfl, _, h⟩
  · rw [h]
    exact ⟨fun k hk => by simp [zeroR] at hk; omega, fun k hk => by simp [zeroR] at hk; omega⟩
  · rw [h]; exact recI_big img k

set_option maxRecDepth 100000 in
set_option maxHeartbeats 4000000 in
theorem inodeTells_any (P : Option Addr) (p pc : Nat) (a : List ByteArray) (i : Int) (w : World) (hP : Reads w w.heap.size 1 P p (encS a)) (hp : p * 16 ≤ 140737488355328) :
    Calls Try.prog 4 #[.slice P p pc, .int .i64 i] w fun e w' => e = .returned (.bool true) ∧ Below w.heap.size w w' := by
  have H := Lib.hid hP
  have hl := hP.lenS
  have c1 := refSound_any P p pc a w hP hp
  by_cases hs : SoundP a
  rotate_left
  · have hf : soundR a = false := by
      cases h : soundR a with
      | false => rfl
      | true => exact absurd ((soundR_iff a).1 h) hs
    rw [hf] at c1
    clear hP hf hs
    go_enter Try.func4, Try.ntmps4
    go_wp2_with fail
    refine c1.mono ?_
    rintro e w1 ⟨rfl, hb1⟩
    have R1 := Lib.hid hb1
    clear hb1 c1
    go_wp2_with fail
    refine (awake5_any _).mono ?_
    rintro e w3 ⟨rfl, hb3⟩
    have R3 := Lib.hid (bstep R1.out hb3)
    clear R1 hb3
    go_wp2
    go_ret
    exact ⟨rfl, R3.out⟩
  · rw [(soundR_iff a).2 hs] at c1
    have h5 : p ≤ 512 := by have := hs.fit.1; omega
    have hz7 := (zero_of_info info7).1
    have hok := (getI_ok a i (by omega)).1
    have hbg := getI_big a i
    have cG := fun W hW => get_any P p pc a i W hW h5
    have cH := fun W hW => refGet_any P p pc a i W hW hs.fit
    have cR := fun W hW => readI_any P p pc a i W hW h5
    have cF := fun W hW => refReadF_any P p pc a i W hW hs
    have cB := fun W hW => blocks_any P p pc a i W hW h5
    have cD := fun W hW => refBlocks_any P p pc a i W hW hs
    have hbl : (blksN a i).length ≤ 69 := by
      unfold blksN
      split
      · exact namedR_len (heldI_ok a i (by omega))
      · simp
    unfold GetP valI at cG cH
    unfold ReadP at cR cF
    unfold RowP at cB cD
    generalize getI a i = x at *
    obtain ⟨r, ec⟩ := x
    generalize readI a i = y at *
    obtain ⟨t, e2⟩ := y
    generalize blksN a i = bl at *
    dsimp only at *
    have HR := Lib.hid hok
    have heq := fun W => eqI_run hok hbg W
    have heg := fun W u v => run_eqgI W u v r r
    have hes : (ec == ec) = true := by simp
    have hes2 : (e2 == e2) = true := by simp
    have het : (t.toList == t.toList) = true := by simp
    have tbl : decide (bl = bl) = true := decide_eq_true rfl
    have hr7 := cellsI_length hok
    clear hP hs hbg hok
    go_enter Try.func4, Try.ntmps4
    go_wp2_with fail
    refine c1.mono ?_
    rintro e w1 ⟨rfl, hb1⟩
    have R1 := Lib.hid hb1
    clear hb1 c1
    go_wp2_with fail
    refine (cG _ (H.out.step R1.out)).mono ?_
    rintro e w2 ⟨rfl, hb2⟩
    have hh2 := heap_alloc_new w2 (.cells (cellsI (zeroR 0)).toArray 27)
    have K3 := Lib.hid (And.intro ((show BI (w2.alloc (.cells (cellsI (zeroR 0)).toArray 27)) w2.heap.size (zeroR 0) from hh2).setRow r) (bstep (bstep R1.out hb2) (((Below.refl w2.heap.size w2).alloc (Nat.le_refl _) (.cells (cellsI (zeroR 0)).toArray 27)).trans (below_setRow _ (Nat.le_refl _) (cellsI r).toArray))))
    clear hb2 R1 cG
    go_wp2_with (refine wpList_store_row rfl _ _ _ rfl w2.heap.size (cellsI r).toArray rfl rfl _ (cellsI (zeroR 0)).toArray hh2 (sizeI HR.out) (holdI okz HR.out) (all_oneCell_toArray (cellsI_one _)) ?_)
    generalize (w2.alloc (.cells (cellsI (zeroR 0)).toArray 27)).setRow w2.heap.size (cellsI r).toArray = w3 at K3 ⊢
    generalize w2.heap.size = g at K3 ⊢
    refine (cH _ (H.out.step K3.out.2)).mono ?_
    rintro e w4 ⟨rfl, hb4⟩
    have hh4 := heap_alloc_new w4 (.cells (cellsI (zeroR 0)).toArray 27)
    have bb4 : Below w4.heap.size w4 ((w4.alloc (.cells (cellsI (zeroR 0)).toArray 27)).setRow w4.heap.size (cellsI r).toArray) := ((Below.refl w4.heap.size w4).alloc (Nat.le_refl _) (.cells (cellsI (zeroR 0)).toArray 27)).trans (below_setRow _ (Nat.le_refl _) (cellsI r).toArray)
    have K5 := Lib.hid (And.intro ((show BI (w4.alloc (.cells (cellsI (zeroR 0)).toArray 27)) w4.heap.size (zeroR 0) from hh4).setRow r) (And.intro (K3.out.1.step (bstep hb4 bb4)) (bstep K3.out.2 (bstep hb4 bb4))))
    clear hb4 bb4 K3 cH
    go_wp2_with (refine wpList_store_row rfl _ _ _ rfl w4.heap.size (cellsI r).toArray rfl rfl _ (cellsI (zeroR 0)).toArray hh4 (sizeI HR.out) (holdI okz HR.out) (all_oneCell_toArray (cellsI_one _)) ?_)
    generalize (w4.alloc (.cells (cellsI (zeroR 0)).toArray 27)).setRow w4.heap.size (cellsI r).toArray = w5 at K5 ⊢
    generalize w4.heap.size = g2 at K5 ⊢
    refine (cR _ (H.out.step K5.out.2.2)).mono ?_
    rintro e w6 ⟨rfl, hb6⟩
    have K6 := Lib.hid (And.intro (K5.out.1.step hb6) (And.intro (K5.out.2.1.step hb6) (bstep K5.out.2.2 hb6)))
    clear hb6 K5 cR
    go_wp2_with fail
    refine (cF _ (H.out.step K6.out.2.2)).mono ?_
    rintro e w7 ⟨rfl, hb7⟩
    have K7 := Lib.hid (And.intro (K6.out.1.step hb7) (And.intro (K6.out.2.1.step hb7) (bstep K6.out.2.2 hb7)))
    clear hb7 K6 cF
    go_wp2_with (first | (refine wpList_load_mid rfl _ _ rfl g 0 rfl (cellsI r) _ K7.out.2.1.range Try.underlying27 rfl (by rw [hr7]; exact sizeIn) ?_) | (refine wpList_load_mid rfl _ _ rfl g2 0 rfl (cellsI r) _ K7.out.1.range Try.underlying27 rfl (by rw [hr7]; exact sizeIn) ?_))
    refine (cB _ (H.out.step K7.out.2.2)).mono ?_
    rintro e w8 ⟨A8, c8, rfl, ho8, hb8⟩
    have K8 := Lib.hid (And.intro (Reads.of_own ho8) (bstep K7.out.2.2 hb8))
    clear ho8 hb8 K7 cB
    go_wp2_with fail
    refine (cD _ (H.out.step K8.out.2)).mono ?_
    rintro e w9 ⟨A9, c9, rfl, ho9, hb9⟩
    have K9 := Lib.hid (And.intro (Reads.of_own ho9) (And.intro (K8.out.1.step hb9) (bstep K8.out.2 hb9)))
    clear ho9 hb9 K8 cD
    go_wp2_with fail
    refine (refInts_any _ _ _ _ _ _ bl bl _ K9.out.2.1 K9.out.1 (by omega) (by omega)).mono ?_
    rintro e w10 ⟨rfl, q, rfl⟩
    have R10 := Lib.hid (below_drewN K9.out.2.2 q)
    clear K9
    go_wp2_with fail
    refine (awake5_any _).mono ?_
    rintro e w11 ⟨rfl, hb⟩
    have R11 := Lib.hid (bstep R10.out hb)
    clear R10 hb
    go_wp2
    go_ret
    exact ⟨rfl, R11.out⟩

end Go.Proofs.Ytcfmpmcdfllibaa
