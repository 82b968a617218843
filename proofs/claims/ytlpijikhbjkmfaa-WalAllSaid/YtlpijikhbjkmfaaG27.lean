/-
  The program's load: where the log is one, or seems so.
-/
import Derived.Test.YtlpijikhbjkmfaaG26
import Derived.Test.YtlpijikhbjkmfaaG25
namespace Go.Proofs.Ytlpijikhbjkmfaa
open Go.RowKit

section
variable {P : Program} {ops : Array Oper} {Q : Exit → Act → World → Prop} {md : Region.Mode} {S : World → Prop} {k : Nat}
/-- One alone comes up, and is wanted. -/
theorem till_want {i : Nat} (o : Oper) {f : Nat} {listed : Array Bool} {a : Act} {w : World} (hr : Region.ready md ops listed = [i]) (ho : ops[i]? = some o) (hw : Region.wanted o (yielded ops a.tmps) = true)
    (h : ∀ K : Act → World → Prop, Shut (∀ a' w', (i ≠ k → listed.getD k true = false → S w') → TillC P md ops Q S k f (listed.setIfInBounds i true) a' w' → K a' w') → Oper.wp P o a w K Q) : TillC P md ops Q S k (f + 1) listed a w := fun hc => by
  refine ⟨fun h0 => (by rw [hr] at h0; cases h0), fun j hj => ?_⟩
  have hj' := hj
  rw [hr] at hj'
  obtain rfl : j = i := by simpa using hj'
  unfold wpOp
  simp only [ho]
  rw [if_pos hw]
  exact .inl (h _ fun a' w' hS hT => ⟨hS, hT (closed_set hc hj)⟩)
end

set_option maxRecDepth 100000 in
set_option maxHeartbeats 2000000 in
theorem load_late (w : World) (g : Nat) (v : WV) (d : D) (h gg : Nat) (H0 : Ld w g v d h gg) (hd : d.dead = false) (hz : headB d ≠ zeroB) (hc : ¬ (cntN d < 1 ∨ gg < cntN d ∨ h < cntN d)) :
    Calls Try.prog 49 #[.pointer (some ⟨g, 0, none⟩)] w fun e w' => e = .returned (.int .i64 (if (h : Int) ≤ highI (plR d h) ∨ headB d ≠ sealB (seqN d) (plR d h) (blR d h) then 10 else 0)) ∧ w.grownBy w' (some g) ∧ ∃ v', Nld v v' ∧ Wk w' g v' d [] (plR d h) (blR d h) := by
  have hall : ∀ s ∈ readL d 1 (listsN h), s.size = 128 := readL_size H0.fit hd (by rw [H0.len]; omega)
  have HBL : Hid (∀ s ∈ blR d h, s.size = 128) := Lib.hid (readL_size H0.fit hd (by rw [H0.len]; omega))
  have HPL : Hid ((plR d h).length = cntN d ∧ ∀ k, k < cntN d → (plR d h).getD k 0 < 65536) := Lib.hid ⟨by simp [plR], fun k hk => by simp [plR, List.getD_eq_getElem?_getD, hk, num2_lt]⟩
  have HOK : Hid (∀ i, i < listsN h + gg → (readD d ((1 + i : Nat) : Int)).2 = 0) := Lib.hid fun i hi => readD_ok hd (by rw [H0.len]; omega)
  have HFS : Hid ((mkB (flatL (readL d 1 (listsN h)))).size = 128 * listsN h) := Lib.hid (by rw [mkB_size, flatL_length _ hall, readL_length])
  have HPE : Hid (plR d h = (List.range (cntN d)).map (num2 (mkB (flatL (readL d 1 (listsN h)))))) := Lib.hid rfl
  have HBE : Hid (blR d h = ((readL d 1 (listsN h + gg)).drop (listsN h)).take (cntN d)) := Lib.hid (by rw [readL_cut _ _ _ _ _ (by omega)]; rfl)
  have HSL : Hid ((readL d 1 (listsN h + gg)).take (listsN h) = readL d 1 (listsN h)) := Lib.hid (by have := readL_cut d 1 (listsN h + gg) 0 (listsN h) (by omega); rwa [List.drop_zero, Nat.add_zero] at this)
  have hln : listsN h ≤ 8 ∧ 1 ≤ listsN h ∧ h ≤ 64 * listsN h := by have := H0.hh; unfold listsN; omega
  have HALL := Lib.hid hall
  clear hall
  generalize plR d h = pl at HPL HPE ⊢
  generalize blR d h = bl at HBL HBE ⊢
  obtain ⟨r, hr⟩ : ∃ r : Int, r = if (h : Int) ≤ highI pl ∨ headB d ≠ sealB (seqN d) pl bl then 10 else 0 := ⟨_, rfl⟩
  rw [← hr]
  have HR0 := Lib.hid hr
  clear hr
  obtain ⟨d0, d1, d2, d3⟩ := H0.wk.blk.d
  rw [H0.wk.hl] at d2
  rw [H0.wk.hz] at d3
  have cr := read_any v.A v.A' v.n v.c v.m v.c' d 0 w H0.wk.dv
  have hl0 : 0 < d.bs.length := by rw [H0.len]; have := H0.hg; omega
  have e1 : (readD d 0).2 = 0 := readD_ok hd (i := 0) hl0
  rw [e1] at cr
  have cp := fun W => padded_any ⟨#[]⟩ W (by decide)
  rw [show padL (⟨#[]⟩ : ByteArray).data.toList = zeroB from pad_none] at cp
  have ht := bytes_other hz
  have hs : (headB d).size = 128 := readD_size H0.fit hd (i := 0) hl0
  have n1 := fun W => number_any ((headB d).extract 4 12) W (by simp; omega)
  have n2 := fun W => number_any ((headB d).extract 12 14) W (by simp; omega)
  have hsq := seqN_lt d
  have hcn := cntN_lt d
  change ∀ W, Calls Try.prog 67 #[.string ((headB d).extract 4 12)] W fun e w' => e = .returned (.int .u64 (seqN d : Int)) ∧ W = w' at n1
  change ∀ W, Calls Try.prog 67 #[.string ((headB d).extract 12 14)] W fun e w' => e = .returned (.int .u64 (cntN d : Int)) ∧ W = w' at n2
  change Calls Try.prog 53 _ w fun e w' => e = .returned (.tuple #[.string (headB d), .int .i64 0]) ∧ Below w.heap.size w w' at cr
  have hgh : 1 ≤ gg ∧ gg ≤ 256 ∧ 1 ≤ h ∧ h ≤ 512 := ⟨H0.hg.1, H0.hg.2, H0.hh.1, H0.hh.2⟩
  generalize headB d = s at cr ht n1 n2 hs HR0
  generalize seqN d = sq at n1 hsq HR0
  generalize cntN d = cn at n2 hcn hc HPL HPE HBE
  have hmx : Try.prog.follows .mixedOrders = true := by kernel_rfl
  have hwi : IntKind.i64.wrap (cn : Int) = (cn : Int) := IntWalk.i64_in _ (by omega)
  have H := Lib.hid H0
  have hs1 : ((1 + listsN h + gg : Nat) : Int) - ((1 + listsN h : Nat) : Int) = (gg : Int) := by omega
  have hs2 : ((1 + listsN h + gg + h : Nat) : Int) - ((1 + listsN h + gg : Nat) : Int) = (h : Int) := by omega
  have hb3 : 1 + listsN h + gg + h ≤ 4096 := by have := H0.hh; have := H0.hg; have : listsN h ≤ 8 := by unfold listsN; omega
                                                omega
  obtain ⟨q1, hq1⟩ : ∃ q1, q1 = 1 + listsN h := ⟨_, rfl⟩
  obtain ⟨q2, hq2⟩ : ∃ q2, q2 = 1 + listsN h + gg := ⟨_, rfl⟩
  obtain ⟨q3, hq3⟩ : ∃ q3, q3 = 1 + listsN h + gg + h := ⟨_, rfl⟩
  rw [← hq2, ← hq1] at hs1
  rw [← hq3, ← hq2] at hs2
  rw [← hq3] at hb3
  have HQ := Lib.hid (And.intro hq1 (And.intro hq2 hq3))
  have hq12 : q1 ≤ 4096 ∧ q2 ≤ 4096 := by omega
  obtain ⟨ln, hln2⟩ : ∃ ln, ln = listsN h := ⟨_, rfl⟩
  obtain ⟨k2, hk2⟩ : ∃ k2, k2 = listsN h + gg := ⟨_, rfl⟩
  rw [← hk2] at HOK HBE HSL
  rw [← hln2] at hln HFS HPE HBE HSL hq1 HALL
  have hkl : k2 = ln + gg := by omega
  have hqk : 1 + k2 = q2 := by omega
  have hsa : (q1 : Int) - 1 = (ln : Int) := by omega
  have HLN := Lib.hid (And.intro hln2 hk2)
  clear hln2 hk2
  have crd : ∀ W, Wk W g { v with sq := sq } d [] [] [] → Calls Try.prog 46 #[.pointer (some ⟨g, 0, none⟩), .int .i64 1, .int .i64 (q2 : Int)] W fun e w' => ∃ A2 c2, e = .returned (.tuple #[.slice A2 k2 c2, .int .i64 0]) ∧ k2 ≤ c2 ∧ c2 ≤ maxLen ∧ w'.ownsRow W.heap.size 9 1 (.slice A2 k2 c2) k2 (encS (readL d 1 k2)) ∧ Below W.heap.size W w' := fun W hW => by
    have := read_wk W g _ d [] [] [] hW 1 k2 (by omega) (by omega) HOK.out
    rwa [hqk] at this
  have HKL := Lib.hid hkl
  have HQK := Lib.hid hqk
  clear hq1 hq2 hq3 e1 H0 hz hl0 hd hkl hqk
  have qf := H.out.wk.blk.f
  go_enter Try.func49, Try.ntmps49
  go_wp2_with (first | (go_at_call 53; refine cr.mono ?_; rintro e w1 ⟨rfl, hb1⟩) | (go_at_call 54; refine (cp _).mono ?_; rintro e w2 ⟨rfl, hb2⟩; have hB := Lib.hid (bstep hb1 hb2); have g9 := (H.out.wk.blk.step hB.out).sq; have gf := (H.out.wk.blk.step hB.out).f) | (go_at_call 67; (with_reducible refine (n1 _).mono ?_); rintro e w3 ⟨rfl, rfl⟩) | (go_at_call 67; (with_reducible refine (n2 _).mono ?_); rintro e w4 ⟨rfl, rfl⟩))
  have C3 := Lib.hid (And.intro ((H.out.wk.step hB.out).sqs sq) (grown_trans (grown_of_below hB.out (some g)) (grown_set w2 g 9 (.int .u64 sq))))
  clear g9 gf qf hb1 hb2 d0 d1 d2 d3
  generalize w2.setCell ⟨g, 9, none⟩ (.int .u64 (sq : Int)) = W3 at C3 ⊢
  obtain ⟨y0, y1, y2, y3⟩ := C3.out.1.blk.p
  replace y0 : W3.cell? ⟨g, 0, none⟩ = some (.int .i64 1) := y0.trans (congrArg (fun z => some (Value.int .i64 z)) H.out.p0)
  replace y1 : W3.cell? ⟨g, 1, none⟩ = some (.int .i64 (q1 : Int)) := y1.trans (congrArg (fun z => some (Value.int .i64 z)) (H.out.p1.trans (by rw [HQ.out.1])))
  replace y2 : W3.cell? ⟨g, 2, none⟩ = some (.int .i64 (q2 : Int)) := y2.trans (congrArg (fun z => some (Value.int .i64 z)) (H.out.p2.trans (by rw [HQ.out.2.1])))
  replace y3 : W3.cell? ⟨g, 3, none⟩ = some (.int .i64 (q3 : Int)) := y3.trans (congrArg (fun z => some (Value.int .i64 z)) (H.out.p3.trans (by rw [HQ.out.2.2])))
  have h0' : ¬ (cn : Int) < 1 := by omega
  obtain ⟨mn, hmn⟩ : ∃ mn : Nat, mn = min gg h := ⟨_, rfl⟩
  have hm : min (gg : Int) (h : Int) = (mn : Int) := by omega
  have hm2 : ¬ (mn : Int) < (cn : Int) := by omega
  have HC : Hid (1 ≤ cn ∧ cn ≤ gg ∧ cn ≤ h) := Lib.hid (by omega)
  clear hmn hc
  go_quiet (fail)
  have C4 : Hid (Wk (W3.drewN nq) g { v with sq := sq } d [] [] [] ∧ w.grownBy (W3.drewN nq) (some g)) := Lib.hid ⟨C3.out.1.drewN nq, grown_trans C3.out.2 (grown_drewN _ _ _)⟩
  have HS0 : (W3.drewN nq).cell? ⟨g, 0, none⟩ = some (.int .i64 1) ∧ (W3.drewN nq).cell? ⟨g, 2, none⟩ = some (.int .i64 (q2 : Int)) ∧ (W3.drewN nq).cell? ⟨g, 1, none⟩ = some (.int .i64 (q1 : Int)) ∧ (W3.drewN nq).cell? ⟨g, 3, none⟩ = some (.int .i64 (q3 : Int)) := ⟨y0, y2, y1, y3⟩
  clear C3 y0 y1 y2 y3 h0' hm hm2
  generalize W3.drewN nq = W4 at C4 HS0 ⊢
  have QL := fun (W : World) (hW : Wk W g { v with sq := sq } d [] [] []) => (⟨(hW.blk.p.1.trans (C4.out.1.blk.p.1.symm.trans HS0.1)), (hW.blk.p.2.2.1.trans (C4.out.1.blk.p.2.2.1.symm.trans HS0.2.1))⟩ : W.cell? ⟨g, 0, none⟩ = some (.int .i64 1) ∧ W.cell? ⟨g, 2, none⟩ = some (.int .i64 (q2 : Int)))
  replace QL := Lib.hid QL
  go_wp2_with fail
  refine wp_region_till (fun w' => w'.cell? ⟨g, 0, none⟩ = some (.int .i64 1) ∧ w'.cell? ⟨g, 2, none⟩ = some (.int .i64 (q2 : Int))) 16 17 hmx (by kernel_rfl) ?_
  have HS : (W4.drew).cell? ⟨g, 0, none⟩ = some (.int .i64 1) ∧ (W4.drew).cell? ⟨g, 2, none⟩ = some (.int .i64 (q2 : Int)) := ⟨HS0.1, HS0.2.1⟩
  refine till_take (i := 0) _ (.pointer (some ⟨g, 0, none⟩)) [0] rfl (by kernel_rfl) (by kernel_rfl) (by kernel_rfl) (by kernel_rfl) (fun _ _ _ h => h) (.inl ⟨by rfl, fun w' hS => ?_⟩) HS ?_
  · obtain ⟨x0, x2⟩ := hS; go_simp
  try simp only [Act.put, List.setIfInBounds_toArray]
  refine till_take (i := 1) _ (.pointer (some ⟨g, 0, none⟩)) [1] rfl (by kernel_rfl) (by kernel_rfl) (by kernel_rfl) (by kernel_rfl) (fun _ _ _ h => h) (.inl ⟨by rfl, fun w' hS => ?_⟩) HS ?_
  · obtain ⟨x0, x2⟩ := hS; go_simp
  try simp only [Act.put]
  refine till_take (i := 2) _ (.pointer (some ⟨g, 0, none⟩)) [2] rfl (by kernel_rfl) (by kernel_rfl) (by kernel_rfl) (by kernel_rfl) (fun _ _ _ h => h) (.inl ⟨by rfl, fun w' hS => ?_⟩) HS ?_
  · obtain ⟨x0, x2⟩ := hS; go_simp
  try simp only [Act.put]
  refine till_take (i := 3) _ (.pointer (some ⟨g, 0, none⟩)) [3] rfl (by kernel_rfl) (by kernel_rfl) (by kernel_rfl) (by kernel_rfl) (fun _ _ _ h => h) (.inl ⟨by rfl, fun w' hS => ?_⟩) HS ?_
  · obtain ⟨x0, x2⟩ := hS; go_simp
  try simp only [Act.put]
  refine till_take (i := 4) _ (.pointer (some ⟨g, 0, none⟩)) [4] rfl (by kernel_rfl) (by kernel_rfl) (by kernel_rfl) (by kernel_rfl) (fun _ _ _ h => h) (.inl ⟨by rfl, fun w' hS => ?_⟩) HS ?_
  · obtain ⟨x0, x2⟩ := hS; go_simp
  try simp only [Act.put]
  refine till_take (i := 5) _ (.int .i64 1) [5] rfl (by kernel_rfl) (by kernel_rfl) (by kernel_rfl) (by kernel_rfl) (fun _ _ _ h => h) (.inl ⟨by rfl, fun w' hS => ?_⟩) HS ?_
  · obtain ⟨x0, x2⟩ := hS; go_simp
  try simp only [Act.put]
  refine till_take (i := 6) _ (.pointer (some ⟨g, 0, none⟩)) [6] rfl (by kernel_rfl) (by kernel_rfl) (by kernel_rfl) (by kernel_rfl) (fun _ _ _ h => h) (.inl ⟨by rfl, fun w' hS => ?_⟩) HS ?_
  · obtain ⟨x0, x2⟩ := hS; go_simp
  try simp only [Act.put]
  refine till_take (i := 7) _ (.pointer (some ⟨g, 0, none⟩)) [7] rfl (by kernel_rfl) (by kernel_rfl) (by kernel_rfl) (by kernel_rfl) (fun _ _ _ h => h) (.inl ⟨by rfl, fun w' hS => ?_⟩) HS ?_
  · obtain ⟨x0, x2⟩ := hS; go_simp
  try simp only [Act.put]
  refine till_take (i := 8) _ (.pointer (some ⟨g, 0, none⟩)) [8] rfl (by kernel_rfl) (by kernel_rfl) (by kernel_rfl) (by kernel_rfl) (fun _ _ _ h => h) (.inl ⟨by rfl, fun w' hS => ?_⟩) HS ?_
  · obtain ⟨x0, x2⟩ := hS; go_simp
  try simp only [Act.put]
  refine till_take (i := 9) _ (.pointer (some ⟨g, 2, none⟩)) [9] rfl (by kernel_rfl) (by kernel_rfl) (by kernel_rfl) (by kernel_rfl) (fun _ _ _ h => h) (.inl ⟨by rfl, fun w' hS => ?_⟩) HS ?_
  · obtain ⟨x0, x2⟩ := hS; go_simp
  try simp only [Act.put]
  refine till_take (i := 10) _ (.int .i64 (q2 : Int)) [10] rfl (by kernel_rfl) (by kernel_rfl) (by kernel_rfl) (by kernel_rfl) (fun _ _ _ h => h) (.inl ⟨by rfl, fun w' hS => ?_⟩) HS ?_
  · obtain ⟨x0, x2⟩ := hS; go_simp
  try simp only [Act.put]
  refine till_one (i := 11) _ (by kernel_rfl) rfl rfl (fun K hK => ?_)
  go_simp
  go_at_call 46
  refine (crd W4.drew (C4.out.1.drewN 1)).mono ?_
  rintro e w5 ⟨A1, c1, rfl, hkc, hcm, ho5, hb5⟩
  have hb45 : Below W4.heap.size W4 w5 := ((Below.refl _ _).drew).trans hb5
  have C5 : Hid (Wk w5 g { v with sq := sq } d [] [] [] ∧ w.grownBy w5 (some g)) := Lib.hid ⟨C4.out.1.step hb45, grown_trans C4.out.2 (grown_of_below hb45 _)⟩
  have HR5 := Lib.hid (Reads.of_own ho5)
  clear ho5 hb5
  refine hK.out _ _ (fun _ _ => QL.out _ C5.out.1) ?_
  clear HS
  have HS := QL.out _ C5.out.1
  try simp only [Act.put, List.setIfInBounds_toArray, List.set_cons_zero, List.set_cons_succ]
  clear hK K
  refine till_one (i := 12) _ (by kernel_rfl) rfl rfl (fun K hK => ?_)
  go_simp
  refine hK.out _ _ (fun _ _ => HS) ?_
  try simp only [Act.put, List.setIfInBounds_toArray, List.set_cons_zero, List.set_cons_succ]
  clear hK K
  refine till_take (i := 13) _ (.slice A1 k2 c1) [13] rfl (by kernel_rfl) (by kernel_rfl) (by kernel_rfl) (by kernel_rfl) (fun _ _ _ h => h) (.inl ⟨by rfl, fun w' hS => ?_⟩) HS ?_
  · obtain ⟨x0, x2⟩ := hS; go_simp
  try simp only [Act.put, List.setIfInBounds_toArray]
  refine till_take (i := 14) _ (.int .i64 0) [14] rfl (by kernel_rfl) (by kernel_rfl) (by kernel_rfl) (by kernel_rfl) (fun _ _ _ h => h) (.inl ⟨by rfl, fun w' hS => ?_⟩) HS ?_
  · obtain ⟨x0, x2⟩ := hS; go_simp
  try simp only [Act.put]
  refine till_one (i := 15) _ (by kernel_rfl) rfl rfl (fun K hK => ?_)
  go_simp
  refine hK.out _ _ (fun _ _ => HS) ?_
  try simp only [Act.put, List.setIfInBounds_toArray, List.set_cons_zero, List.set_cons_succ]
  clear hK K
  refine till_one (i := 16) _ (by kernel_rfl) rfl rfl (fun K hK => ?_)
  go_simp
  refine hK.out _ _ (fun h => absurd rfl h) ?_
  try simp only [Act.put, List.setIfInBounds_toArray, List.set_cons_zero, List.set_cons_succ]
  clear hK K
  refine till_done (by kernel_rfl) ?_
  have QM := Lib.hid (fun (W : World) (v' : WV) (pl' : List Nat) (bl' : List ByteArray) (hW : Wk W g v' d [] pl' bl') (e : v'.p0 = v.p0 ∧ v'.p1 = v.p1 ∧ v'.p2 = v.p2 ∧ v'.p3 = v.p3) => (⟨hW.blk.p.1.trans ((congrArg (fun z => some (Value.int .i64 z)) e.1).trans (C4.out.1.blk.p.1.symm.trans HS0.1)), hW.blk.p.2.1.trans ((congrArg (fun z => some (Value.int .i64 z)) e.2.1).trans (C4.out.1.blk.p.2.1.symm.trans HS0.2.2.1)), hW.blk.p.2.2.1.trans ((congrArg (fun z => some (Value.int .i64 z)) e.2.2.1).trans (C4.out.1.blk.p.2.2.1.symm.trans HS0.2.1)), hW.blk.p.2.2.2.trans ((congrArg (fun z => some (Value.int .i64 z)) e.2.2.2).trans (C4.out.1.blk.p.2.2.2.symm.trans HS0.2.2.2))⟩ : W.cell? ⟨g, 0, none⟩ = some (.int .i64 1) ∧ W.cell? ⟨g, 1, none⟩ = some (.int .i64 (q1 : Int)) ∧ W.cell? ⟨g, 2, none⟩ = some (.int .i64 (q2 : Int)) ∧ W.cell? ⟨g, 3, none⟩ = some (.int .i64 (q3 : Int))))
  obtain ⟨y0, y1, y2, y3⟩ := QM.out _ _ _ _ C5.out.1 ⟨rfl, rfl, rfl, rfl⟩
  clear HS0 HS QL crd n1 n2 cp hb45
  have qf := C5.out.1.blk.f
  have hkl := HKL.out
  have hk0 : 0 < k2 := by omega
  obtain ⟨b1, o1, rfl, hb1, _⟩ := HR5.out.str hk0
  have HCn := HC.out
  have hc1 : k2 ≤ c1 := hkc
  have HCM := Lib.hid hcm
  have hlc : ln ≤ c1 := by omega
  have hlk : ln ≤ k2 := by omega
  have hwl : IntKind.i64.wrap (ln : Int) = (ln : Int) := IntWalk.i64_in _ (by omega)
  have hcl : ¬ c1 = ln := by omega
  have hcl0 : ¬ c1 - ln = 0 := by omega
  have y11 : w5.cell? ⟨g, 11, none⟩ = some (.slice v.L v.j v.jc) := C5.out.1.blk.bl
  have hrl := HR5.out.cut ln cn (by omega)
  rw [← HBE.out] at hrl
  have C6 : Hid (Wk (w5.setCell ⟨g, 11, none⟩ (.slice (some ⟨b1, o1 + ln, none⟩) cn (c1 - ln))).drew g { v with sq := sq, L := some ⟨b1, o1 + ln, none⟩, j := cn, jc := c1 - ln } d [] [] bl ∧ w.grownBy (w5.setCell ⟨g, 11, none⟩ (.slice (some ⟨b1, o1 + ln, none⟩) cn (c1 - ln))).drew (some g) ∧ Reads (w5.setCell ⟨g, 11, none⟩ (.slice (some ⟨b1, o1 + ln, none⟩) cn (c1 - ln))).drew (w5.setCell ⟨g, 11, none⟩ (.slice (some ⟨b1, o1 + ln, none⟩) cn (c1 - ln))).drew.heap.size 1 (some ⟨b1, o1, none⟩) k2 (encS (readL d 1 k2))) :=
    Lib.hid ⟨(C5.out.1.bls (jc := c1 - ln) hrl ⟨by omega, by omega⟩).drewN 1, grown_trans C5.out.2 (grown_trans (grown_set w5 g 11 _) (grown_drewN _ 1 _)), (HR5.out.grown (_B := 0) (far_str C5.out.1.blk HR5.out) (grown_set w5 g 11 _)).drewN 1⟩
  clear hrl
  have hcc : cn ≤ c1 - ln := by omega
  clear hkl hcm
  go_wp2_with fail
  go_still_tail 16, (by kernel_rfl)
  change wpList _ _ _ _ _ w5.drew
  go_wp2_with fail
  generalize (w5.setCell ⟨g, 11, none⟩ (.slice (some ⟨b1, o1 + ln, none⟩) cn (c1 - ln))).drew = w6 at C6 ⊢
  clear y0 y1 y2 y3 y11 qf
  obtain ⟨S, hS⟩ : ∃ S, S = mkB (flatL (readL d 1 ln)) := ⟨_, rfl⟩
  have cj : ∀ W, Reads W W.heap.size 1 (some ⟨b1, o1, none⟩) k2 (encS (readL d 1 k2)) → Calls Try.prog 69 #[.slice (some ⟨b1, o1, none⟩) ln c1, .string ⟨#[]⟩] W fun e w' => e = .returned (.string S) ∧ Below W.heap.size W w' := fun W hW => by
    have h1 := hW.cut 0 ln (by omega)
    rw [List.drop_zero, HSL.out, Nat.add_zero] at h1
    rw [hS]
    exact join_any _ ln c1 _ W h1 hlc (by omega) (by rw [flatL_length _ HALL.out, readL_length]; omega)
  rw [← hS] at HFS HPE
  have cpl : ∀ W : World, Calls Try.prog 68 #[.string S, .int .i64 cn] W fun e w' => ∃ A c, e = .returned (.slice A cn c) ∧ w'.ownsRow W.heap.size 3 1 (.slice A cn c) cn (encN pl) ∧ Below W.heap.size W w' := fun W => by
    have := places_any S cn W (by rw [HFS.out]; omega) (by omega) (by rw [HFS.out]; omega)
    rwa [← HPE.out] at this
  clear hS
  obtain ⟨z0, z1, z2, z3⟩ := QM.out _ _ _ _ C6.out.1 ⟨rfl, rfl, rfl, rfl⟩
  refine wp_region_till (fun w' => w'.cell? ⟨g, 0, none⟩ = some (.int .i64 1) ∧ w'.cell? ⟨g, 1, none⟩ = some (.int .i64 (q1 : Int))) 19 20 hmx (by kernel_rfl) ?_
  have HS : (w6.drew).cell? ⟨g, 0, none⟩ = some (.int .i64 1) ∧ (w6.drew).cell? ⟨g, 1, none⟩ = some (.int .i64 (q1 : Int)) := ⟨z0, z1⟩
  clear z0 z1 z2 z3
  refine till_take (i := 0) _ (.pointer (some ⟨g, 0, none⟩)) [0] rfl (by kernel_rfl) (by kernel_rfl) (by kernel_rfl) (by kernel_rfl) (fun _ _ _ h => h) (.inl ⟨by rfl, fun w' hS => ?_⟩) HS ?_
  · obtain ⟨x0, x2⟩ := hS; go_simp
  try simp only [Act.put, List.setIfInBounds_toArray]
  refine till_take (i := 1) _ (.slice (some ⟨b1, o1, none⟩) k2 c1) [1] rfl (by kernel_rfl) (by kernel_rfl) (by kernel_rfl) (by kernel_rfl) (fun _ _ _ h => h) (.inl ⟨by rfl, fun w' hS => ?_⟩) HS ?_
  · obtain ⟨x0, x2⟩ := hS; go_simp
  try simp only [Act.put]
  refine till_take (i := 2) _ (.pointer (some ⟨g, 0, none⟩)) [2] rfl (by kernel_rfl) (by kernel_rfl) (by kernel_rfl) (by kernel_rfl) (fun _ _ _ h => h) (.inl ⟨by rfl, fun w' hS => ?_⟩) HS ?_
  · obtain ⟨x0, x2⟩ := hS; go_simp
  try simp only [Act.put]
  refine till_take (i := 3) _ (.pointer (some ⟨g, 0, none⟩)) [3] rfl (by kernel_rfl) (by kernel_rfl) (by kernel_rfl) (by kernel_rfl) (fun _ _ _ h => h) (.inl ⟨by rfl, fun w' hS => ?_⟩) HS ?_
  · obtain ⟨x0, x2⟩ := hS; go_simp
  try simp only [Act.put]
  refine till_take (i := 4) _ (.pointer (some ⟨g, 0, none⟩)) [4] rfl (by kernel_rfl) (by kernel_rfl) (by kernel_rfl) (by kernel_rfl) (fun _ _ _ h => h) (.inl ⟨by rfl, fun w' hS => ?_⟩) HS ?_
  · obtain ⟨x0, x2⟩ := hS; go_simp
  try simp only [Act.put]
  refine till_take (i := 5) _ (.pointer (some ⟨g, 1, none⟩)) [5] rfl (by kernel_rfl) (by kernel_rfl) (by kernel_rfl) (by kernel_rfl) (fun _ _ _ h => h) (.inl ⟨by rfl, fun w' hS => ?_⟩) HS ?_
  · obtain ⟨x0, x2⟩ := hS; go_simp
  try simp only [Act.put]
  refine till_take (i := 6) _ (.int .i64 (q1 : Int)) [6] rfl (by kernel_rfl) (by kernel_rfl) (by kernel_rfl) (by kernel_rfl) (fun _ _ _ h => h) (.inl ⟨by rfl, fun w' hS => ?_⟩) HS ?_
  · obtain ⟨x0, x2⟩ := hS; go_simp
  try simp only [Act.put]
  refine till_take (i := 7) _ (.pointer (some ⟨g, 0, none⟩)) [7] rfl (by kernel_rfl) (by kernel_rfl) (by kernel_rfl) (by kernel_rfl) (fun _ _ _ h => h) (.inl ⟨by rfl, fun w' hS => ?_⟩) HS ?_
  · obtain ⟨x0, x2⟩ := hS; go_simp
  try simp only [Act.put]
  refine till_take (i := 8) _ (.pointer (some ⟨g, 0, none⟩)) [8] rfl (by kernel_rfl) (by kernel_rfl) (by kernel_rfl) (by kernel_rfl) (fun _ _ _ h => h) (.inl ⟨by rfl, fun w' hS => ?_⟩) HS ?_
  · obtain ⟨x0, x2⟩ := hS; go_simp
  try simp only [Act.put]
  refine till_take (i := 9) _ (.pointer (some ⟨g, 0, none⟩)) [9] rfl (by kernel_rfl) (by kernel_rfl) (by kernel_rfl) (by kernel_rfl) (fun _ _ _ h => h) (.inl ⟨by rfl, fun w' hS => ?_⟩) HS ?_
  · obtain ⟨x0, x2⟩ := hS; go_simp
  try simp only [Act.put]
  refine till_take (i := 10) _ (.pointer (some ⟨g, 0, none⟩)) [10] rfl (by kernel_rfl) (by kernel_rfl) (by kernel_rfl) (by kernel_rfl) (fun _ _ _ h => h) (.inl ⟨by rfl, fun w' hS => ?_⟩) HS ?_
  · obtain ⟨x0, x2⟩ := hS; go_simp
  try simp only [Act.put]
  refine till_take (i := 11) _ (.int .i64 1) [11] rfl (by kernel_rfl) (by kernel_rfl) (by kernel_rfl) (by kernel_rfl) (fun _ _ _ h => h) (.inl ⟨by rfl, fun w' hS => ?_⟩) HS ?_
  · obtain ⟨x0, x2⟩ := hS; go_simp
  try simp only [Act.put]
  refine till_take (i := 12) _ (.int .i64 (ln : Int)) [12] rfl (by kernel_rfl) (by kernel_rfl) (by kernel_rfl) (by kernel_rfl) (fun _ _ _ h => h) (.inl ⟨by rfl, fun w' hS => ?_⟩) HS ?_
  · obtain ⟨x0, x2⟩ := hS; go_simp
  try simp only [Act.put]
  refine till_take (i := 13) _ (.slice (some ⟨b1, o1, none⟩) ln c1) [13] rfl (by kernel_rfl) (by kernel_rfl) (by kernel_rfl) (by kernel_rfl) (fun _ _ _ h => h) (.inl ⟨by rfl, fun w' hS => ?_⟩) HS ?_
  · obtain ⟨x0, x2⟩ := hS; go_simp
  try simp only [Act.put]
  refine till_take (i := 15) _ (.int .i64 (cn : Int)) [15] rfl (by kernel_rfl) (by kernel_rfl) (by kernel_rfl) (by kernel_rfl) (fun _ _ _ h => h) (.inl ⟨by rfl, fun w' hS => ?_⟩) HS ?_
  · obtain ⟨x0, x2⟩ := hS; go_simp
  try simp only [Act.put]
  refine till_one (i := 14) _ (by kernel_rfl) rfl rfl (fun K hK => ?_)
  go_simp
  go_at_call 69
  refine (cj w6.drew C6.out.2.2).mono ?_
  rintro e w7 ⟨rfl, hb7⟩
  have hb67 : Below w6.heap.size w6 w7 := ((Below.refl _ _).drew).trans hb7
  have C7 : Hid (Wk w7 g { v with sq := sq, L := some ⟨b1, o1 + ln, none⟩, j := cn, jc := c1 - ln } d [] [] bl ∧ w.grownBy w7 (some g)) := Lib.hid ⟨C6.out.1.step hb67, grown_trans C6.out.2.1 (grown_of_below hb67 _)⟩
  have HS7 := QM.out _ _ _ _ C7.out.1 ⟨rfl, rfl, rfl, rfl⟩
  clear HS hb7 hb67
  have HS : w7.cell? ⟨g, 0, none⟩ = some (.int .i64 1) ∧ w7.cell? ⟨g, 1, none⟩ = some (.int .i64 (q1 : Int)) := ⟨HS7.1, HS7.2.1⟩
  clear HS7
  refine hK.out _ _ (fun _ _ => HS) ?_
  try simp only [Act.put, List.setIfInBounds_toArray, List.set_cons_zero, List.set_cons_succ]
  clear hK K
  refine till_one (i := 16) _ (by kernel_rfl) rfl rfl (fun K hK => ?_)
  go_simp
  go_at_call 68
  refine (cpl w7).mono ?_
  rintro e w8 ⟨A8, c8, rfl, ho8, hb8⟩
  have C8 : Hid (Wk w8 g { v with sq := sq, L := some ⟨b1, o1 + ln, none⟩, j := cn, jc := c1 - ln } d [] [] bl ∧ w.grownBy w8 (some g)) := Lib.hid ⟨C7.out.1.step hb8, grown_trans C7.out.2 (grown_of_below hb8 _)⟩
  have hgl7 := C7.out.1.blk.lt
  have h12 : cn ≤ c8 ∧ c8 ≤ 9223372036854775807 := by
    obtain ⟨_, _, e1, h1, h2⟩ := own_slice ho8
    simp only [Value.slice.injEq, true_and] at e1
    obtain ⟨_, rfl⟩ := e1
    exact ⟨h1, h2⟩
  obtain ⟨q8, hq8, hge8, _⟩ := own_cells ho8 (by omega)
  subst hq8
  have C9 : Hid (Wk (w8.setCell ⟨g, 10, none⟩ (.slice (some ⟨q8, 0, none⟩) cn c8)) g { v with sq := sq, P := some ⟨q8, 0, none⟩, k := cn, kc := c8, L := some ⟨b1, o1 + ln, none⟩, j := cn, jc := c1 - ln } d [] pl bl ∧ w.grownBy (w8.setCell ⟨g, 10, none⟩ (.slice (some ⟨q8, 0, none⟩) cn c8)) (some g)) :=
    Lib.hid ⟨C8.out.1.pls (Reads.of_own ho8) (fun _ ad e => by injection e with e; subst e; show q8 ≠ g; omega) h12, grown_trans C8.out.2 (grown_set _ _ _ _)⟩
  have HS8 := QM.out _ _ _ _ C8.out.1 ⟨rfl, rfl, rfl, rfl⟩
  have z10 : w8.cell? ⟨g, 10, none⟩ = some (.slice v.P v.k v.kc) := C8.out.1.blk.pl
  have zf := C8.out.1.blk.f
  clear HS h12 hge8 hgl7 ho8 hb8
  have HS : w8.cell? ⟨g, 0, none⟩ = some (.int .i64 1) ∧ w8.cell? ⟨g, 1, none⟩ = some (.int .i64 (q1 : Int)) := ⟨HS8.1, HS8.2.1⟩
  clear HS8
  refine hK.out _ _ (fun _ _ => HS) ?_
  try simp only [Act.put, List.setIfInBounds_toArray, List.set_cons_zero, List.set_cons_succ]
  clear hK K
  refine till_one (i := 17) _ (by kernel_rfl) rfl rfl (fun K hK => ?_)
  go_simp
  refine hK.out _ _ (fun _ _ => HS) ?_
  try simp only [Act.put, List.setIfInBounds_toArray, List.set_cons_zero, List.set_cons_succ]
  clear hK K
  refine till_one (i := 18) _ (by kernel_rfl) rfl rfl (fun K hK => ?_)
  go_simp
  refine hK.out _ _ (fun _ _ => HS) ?_
  try simp only [Act.put, List.setIfInBounds_toArray, List.set_cons_zero, List.set_cons_succ]
  clear hK K
  refine till_one (i := 19) _ (by kernel_rfl) rfl rfl (fun K hK => ?_)
  go_simp
  refine hK.out _ _ (fun h => absurd rfl h) ?_
  try simp only [Act.put, List.setIfInBounds_toArray, List.set_cons_zero, List.set_cons_succ]
  clear hK K
  refine till_done (by kernel_rfl) ?_
  generalize w8.setCell ⟨g, 10, none⟩ (.slice (some ⟨q8, 0, none⟩) cn c8) = w9 at C9 ⊢
  clear HS zf z10 cj cpl
  have KL : Hid (∀ W, Below w9.heap.size w9 W → W.cell? ⟨g, 10, none⟩ = some (.slice (some ⟨q8, 0, none⟩) cn c8) ∧ W.cell? ⟨g, 2, none⟩ = some (.int .i64 (q2 : Int)) ∧ W.cell? ⟨g, 3, none⟩ = some (.int .i64 (q3 : Int)) ∧ Below w9.heap.size w9 W) := Lib.hid fun W hb => ⟨(C9.out.1.step hb).blk.pl, (QM.out _ _ _ _ (C9.out.1.step hb) ⟨rfl, rfl, rfl, rfl⟩).2.2.1, (QM.out _ _ _ _ (C9.out.1.step hb) ⟨rfl, rfl, rfl, rfl⟩).2.2.2, hb⟩
  have hpn : pl.length = cn := HPL.out.1
  have cm : ∀ W : World, Reads W W.heap.size 1 (some ⟨q8, 0, none⟩) cn (encN pl) → Calls Try.prog 70 #[.slice (some ⟨q8, 0, none⟩) cn c8] W fun e w' => e = .returned (.int .i64 (highI pl)) ∧ Below W.heap.size W w' := fun W hW => by
    have h1 := Try.slices_Max_int q8 0 cn c8 (pl.map fun (p : Nat) => (p : Int)) W (by omega) (by rw [List.length_map]; omega) (by omega) (fun j hj => by
      rw [List.length_map] at hj
      obtain ⟨b, o, e, _, hcell⟩ := hW.nat (k := j) (by omega)
      simp only [Option.some.injEq, Addr.mk.injEq, and_true] at e
      obtain ⟨rfl, rfl⟩ := e
      rw [hcell]
      simp [List.getD_eq_getElem?_getD, hj])
    rw [← hpn] at h1 ⊢
    exact h1.mono fun e w' hh => ⟨hh.1, hh.2 ▸ Below.refl _ _⟩
  have cs : ∀ W : World, Wk W g { v with sq := sq, P := some ⟨q8, 0, none⟩, k := cn, kc := c8, L := some ⟨b1, o1 + ln, none⟩, j := cn, jc := c1 - ln } d [] pl bl → Calls Try.prog 59 #[.pointer (some ⟨g, 0, none⟩)] W fun e w' => e = .returned (.string (sealB sq pl bl)) ∧ Below W.heap.size W w' := fun W hW => sealed_wk W g _ d [] bl pl hW (by show cn ≤ 512; omega) (by show cn ≤ 512; omega) HPL.out.2 HBL.out hsq
  generalize sealB sq pl bl = x at cs HR0
  generalize highI pl = mx at cm HR0
  have hwh : IntKind.i64.wrap (h : Int) = (h : Int) := IntWalk.i64_in _ (by omega)
  clear hpn hsa hwl hcl hcl0 hcc hlk hlc hk0 hc1 HCn hkc hln
  have hgo : ∀ W : World, Wk W g { v with sq := sq, P := some ⟨q8, 0, none⟩, k := cn, kc := c8, L := some ⟨b1, o1 + ln, none⟩, j := cn, jc := c1 - ln } d [] pl bl → w.grownBy W (some g) → w.grownBy W (some g) ∧ ∃ v', Nld v v' ∧ Wk W g v' d [] pl bl := fun W hW hg => ⟨hg, _, ⟨sq, _, cn, c8, _, cn, c1 - ln, rfl⟩, hW⟩
  have HGO := Lib.hid hgo
  clear hgo
  obtain ⟨z10, z2, z3, _⟩ := KL.out w9 (Below.refl _ _)
  by_cases hmh : (h : Int) ≤ mx
  · have HR : Hid (r = 10) := Lib.hid (HR0.out.trans (if_pos (.inl hmh)))
    go_wp2_with fail
    refine wp_region_till (fun w' => w'.cell? ⟨g, 10, none⟩ = some (.slice (some ⟨q8, 0, none⟩) cn c8) ∧ w'.cell? ⟨g, 2, none⟩ = some (.int .i64 (q2 : Int)) ∧ w'.cell? ⟨g, 3, none⟩ = some (.int .i64 (q3 : Int)) ∧ Below w9.heap.size w9 w') 22 23 hmx (by kernel_rfl) ?_
    have HS := KL.out _ ((Below.refl _ _).drew)
    refine till_take (i := 0) _ (.pointer (some ⟨g, 0, none⟩)) [17, 4, 3, 2, 1, 0] rfl (by kernel_rfl) (by kernel_rfl) (by kernel_rfl) (by kernel_rfl) (fun _ _ _ h => h) (.inl ⟨by rfl, fun w' hS => ?_⟩) HS ?_
    · obtain ⟨x10, x2, x3, _⟩ := hS; go_simp
    try simp only [Act.put, List.setIfInBounds_toArray]
    refine till_take (i := 1) _ (.pointer (some ⟨g, 0, none⟩)) [17, 4, 3, 2, 1] rfl (by kernel_rfl) (by kernel_rfl) (by kernel_rfl) (by kernel_rfl) (fun _ _ _ h => h) (.inl ⟨by rfl, fun w' hS => ?_⟩) HS ?_
    · obtain ⟨x10, x2, x3, _⟩ := hS; go_simp
    try simp only [Act.put]
    refine till_take (i := 2) _ (.pointer (some ⟨g, 10, none⟩)) [17, 4, 3, 2] rfl (by kernel_rfl) (by kernel_rfl) (by kernel_rfl) (by kernel_rfl) (fun _ _ _ h => h) (.inl ⟨by rfl, fun w' hS => ?_⟩) HS ?_
    · obtain ⟨x10, x2, x3, _⟩ := hS; go_simp
    try simp only [Act.put]
    refine till_take (i := 3) _ (.slice (some ⟨q8, 0, none⟩) cn c8) [17, 4, 3] rfl (by kernel_rfl) (by kernel_rfl) (by kernel_rfl) (by kernel_rfl) (fun _ _ _ h => h) (.inl ⟨by rfl, fun w' hS => ?_⟩) HS ?_
    · obtain ⟨x10, x2, x3, _⟩ := hS; go_simp
    try simp only [Act.put]
    refine till_take (i := 5) _ (.pointer (some ⟨g, 0, none⟩)) [17, 16, 15, 9, 8, 7, 6, 5] rfl (by kernel_rfl) (by kernel_rfl) (by kernel_rfl) (by kernel_rfl) (fun _ _ _ h => h) (.inl ⟨by rfl, fun w' hS => ?_⟩) HS ?_
    · obtain ⟨x10, x2, x3, _⟩ := hS; go_simp
    try simp only [Act.put]
    refine till_take (i := 6) _ (.pointer (some ⟨g, 0, none⟩)) [17, 16, 15, 9, 8, 7, 6] rfl (by kernel_rfl) (by kernel_rfl) (by kernel_rfl) (by kernel_rfl) (fun _ _ _ h => h) (.inl ⟨by rfl, fun w' hS => ?_⟩) HS ?_
    · obtain ⟨x10, x2, x3, _⟩ := hS; go_simp
    try simp only [Act.put]
    refine till_take (i := 7) _ (.pointer (some ⟨g, 0, none⟩)) [17, 16, 15, 9, 8, 7] rfl (by kernel_rfl) (by kernel_rfl) (by kernel_rfl) (by kernel_rfl) (fun _ _ _ h => h) (.inl ⟨by rfl, fun w' hS => ?_⟩) HS ?_
    · obtain ⟨x10, x2, x3, _⟩ := hS; go_simp
    try simp only [Act.put]
    refine till_take (i := 8) _ (.pointer (some ⟨g, 3, none⟩)) [17, 16, 15, 9, 8] rfl (by kernel_rfl) (by kernel_rfl) (by kernel_rfl) (by kernel_rfl) (fun _ _ _ h => h) (.inl ⟨by rfl, fun w' hS => ?_⟩) HS ?_
    · obtain ⟨x10, x2, x3, _⟩ := hS; go_simp
    try simp only [Act.put]
    refine till_take (i := 9) _ (.int .i64 (q3 : Int)) [17, 16, 15, 9] rfl (by kernel_rfl) (by kernel_rfl) (by kernel_rfl) (by kernel_rfl) (fun _ _ _ h => h) (.inl ⟨by rfl, fun w' hS => ?_⟩) HS ?_
    · obtain ⟨x10, x2, x3, _⟩ := hS; go_simp
    try simp only [Act.put]
    refine till_take (i := 10) _ (.pointer (some ⟨g, 0, none⟩)) [17, 16, 15, 14, 13, 12, 11, 10] rfl (by kernel_rfl) (by kernel_rfl) (by kernel_rfl) (by kernel_rfl) (fun _ _ _ h => h) (.inl ⟨by rfl, fun w' hS => ?_⟩) HS ?_
    · obtain ⟨x10, x2, x3, _⟩ := hS; go_simp
    try simp only [Act.put]
    refine till_take (i := 11) _ (.pointer (some ⟨g, 0, none⟩)) [17, 16, 15, 14, 13, 12, 11] rfl (by kernel_rfl) (by kernel_rfl) (by kernel_rfl) (by kernel_rfl) (fun _ _ _ h => h) (.inl ⟨by rfl, fun w' hS => ?_⟩) HS ?_
    · obtain ⟨x10, x2, x3, _⟩ := hS; go_simp
    try simp only [Act.put]
    refine till_take (i := 12) _ (.pointer (some ⟨g, 0, none⟩)) [17, 16, 15, 14, 13, 12] rfl (by kernel_rfl) (by kernel_rfl) (by kernel_rfl) (by kernel_rfl) (fun _ _ _ h => h) (.inl ⟨by rfl, fun w' hS => ?_⟩) HS ?_
    · obtain ⟨x10, x2, x3, _⟩ := hS; go_simp
    try simp only [Act.put]
    refine till_take (i := 13) _ (.pointer (some ⟨g, 2, none⟩)) [17, 16, 15, 14, 13] rfl (by kernel_rfl) (by kernel_rfl) (by kernel_rfl) (by kernel_rfl) (fun _ _ _ h => h) (.inl ⟨by rfl, fun w' hS => ?_⟩) HS ?_
    · obtain ⟨x10, x2, x3, _⟩ := hS; go_simp
    try simp only [Act.put]
    refine till_take (i := 14) _ (.int .i64 (q2 : Int)) [17, 16, 15, 14] rfl (by kernel_rfl) (by kernel_rfl) (by kernel_rfl) (by kernel_rfl) (fun _ _ _ h => h) (.inl ⟨by rfl, fun w' hS => ?_⟩) HS ?_
    · obtain ⟨x10, x2, x3, _⟩ := hS; go_simp
    try simp only [Act.put]
    refine till_take (i := 15) _ (.int .i64 (h : Int)) [17, 16, 15] rfl (by kernel_rfl) (by kernel_rfl) (by kernel_rfl) (by kernel_rfl) (fun _ _ _ h => h) (.inl ⟨by rfl, fun w' hS => ?_⟩) HS ?_
    · obtain ⟨x10, x2, x3, _⟩ := hS; go_simp
    try simp only [Act.put]
    refine till_one (i := 4) _ (by kernel_rfl) rfl rfl (fun K hK => ?_)
    go_simp
    go_at_call 70
    refine (cm _ (C9.out.1.drewN 1).pl).mono ?_
    rintro e w10 ⟨rfl, hb10⟩
    have hb910 : Below w9.heap.size w9 w10 := ((Below.refl _ _).drew).trans hb10
    clear HS
    have HS := KL.out _ hb910
    refine hK.out _ _ (fun _ _ => HS) ?_
    try simp only [Act.put, List.setIfInBounds_toArray, List.set_cons_zero, List.set_cons_succ]
    clear hK K
    refine till_take (i := 16) _ (.bool true) [17, 16] rfl (by kernel_rfl) (by kernel_rfl) (by kernel_rfl) (by kernel_rfl) (fun _ _ _ h => h) (.inl ⟨by rfl, fun w' hS => ?_⟩) HS ?_
    · obtain ⟨x10, x2, x3, _⟩ := hS; go_simp
    try simp only [Act.put, List.setIfInBounds_toArray]
    refine till_take (i := 17) _ (.bool true) [17] rfl (by kernel_rfl) (by kernel_rfl) (by kernel_rfl) (by kernel_rfl) (fun _ _ _ h => h) (.inl ⟨by rfl, fun w' hS => ?_⟩) HS ?_
    · obtain ⟨x10, x2, x3, _⟩ := hS; go_simp
    try simp only [Act.put]
    refine till_take (i := 18) _ undef [21, 18] rfl (by kernel_rfl) (by kernel_rfl) (by kernel_rfl) (by kernel_rfl) (fun _ _ _ h => h) (.inr ⟨by rfl, rfl⟩) HS ?_
    try simp only [Act.put]
    refine till_take (i := 19) _ undef [21, 20, 19] rfl (by kernel_rfl) (by kernel_rfl) (by kernel_rfl) (by kernel_rfl) (fun _ _ _ h => h) (.inr ⟨by rfl, rfl⟩) HS ?_
    try simp only [Act.put]
    refine till_take (i := 20) _ undef [21, 20] rfl (by kernel_rfl) (by kernel_rfl) (by kernel_rfl) (by kernel_rfl) (fun _ _ _ h => h) (.inr ⟨by rfl, rfl⟩) HS ?_
    try simp only [Act.put]
    refine till_take (i := 21) _ undef [21] rfl (by kernel_rfl) (by kernel_rfl) (by kernel_rfl) (by kernel_rfl) (fun _ _ _ h => h) (.inr ⟨by rfl, rfl⟩) HS ?_
    try simp only [Act.put]
    refine till_one (i := 22) _ (by kernel_rfl) rfl rfl (fun K hK => ?_)
    go_simp
    refine hK.out _ _ (fun h => absurd rfl h) ?_
    try simp only [Act.put, List.setIfInBounds_toArray, List.set_cons_zero, List.set_cons_succ]
    clear hK K
    refine till_done (by kernel_rfl) ?_
    go_wp2
    go_ret
    rw [HR.out]
    exact ⟨rfl, HGO.out _ (C9.out.1.step hb910) (grown_trans C9.out.2 (grown_of_below hb910 _))⟩
  · by_cases hsx : s = x
    · have HR : Hid (r = 0) := Lib.hid (HR0.out.trans (if_neg fun hh => hh.elim hmh (fun h2 => h2 hsx)))
      have hsx2 := bytes_same hsx
      clear hsx
      go_wp2_with fail
      refine wp_region_till (fun w' => w'.cell? ⟨g, 10, none⟩ = some (.slice (some ⟨q8, 0, none⟩) cn c8) ∧ w'.cell? ⟨g, 2, none⟩ = some (.int .i64 (q2 : Int)) ∧ w'.cell? ⟨g, 3, none⟩ = some (.int .i64 (q3 : Int)) ∧ Below w9.heap.size w9 w') 22 23 hmx (by kernel_rfl) ?_
      have HS := KL.out _ ((Below.refl _ _).drew)
      refine till_take (i := 0) _ (.pointer (some ⟨g, 0, none⟩)) [17, 4, 3, 2, 1, 0] rfl (by kernel_rfl) (by kernel_rfl) (by kernel_rfl) (by kernel_rfl) (fun _ _ _ h => h) (.inl ⟨by rfl, fun w' hS => ?_⟩) HS ?_
      · obtain ⟨x10, x2, x3, _⟩ := hS; go_simp
      try simp only [Act.put, List.setIfInBounds_toArray]
      refine till_take (i := 1) _ (.pointer (some ⟨g, 0, none⟩)) [17, 4, 3, 2, 1] rfl (by kernel_rfl) (by kernel_rfl) (by kernel_rfl) (by kernel_rfl) (fun _ _ _ h => h) (.inl ⟨by rfl, fun w' hS => ?_⟩) HS ?_
      · obtain ⟨x10, x2, x3, _⟩ := hS; go_simp
      try simp only [Act.put]
      refine till_take (i := 2) _ (.pointer (some ⟨g, 10, none⟩)) [17, 4, 3, 2] rfl (by kernel_rfl) (by kernel_rfl) (by kernel_rfl) (by kernel_rfl) (fun _ _ _ h => h) (.inl ⟨by rfl, fun w' hS => ?_⟩) HS ?_
      · obtain ⟨x10, x2, x3, _⟩ := hS; go_simp
      try simp only [Act.put]
      refine till_take (i := 3) _ (.slice (some ⟨q8, 0, none⟩) cn c8) [17, 4, 3] rfl (by kernel_rfl) (by kernel_rfl) (by kernel_rfl) (by kernel_rfl) (fun _ _ _ h => h) (.inl ⟨by rfl, fun w' hS => ?_⟩) HS ?_
      · obtain ⟨x10, x2, x3, _⟩ := hS; go_simp
      try simp only [Act.put]
      refine till_take (i := 5) _ (.pointer (some ⟨g, 0, none⟩)) [17, 16, 15, 9, 8, 7, 6, 5] rfl (by kernel_rfl) (by kernel_rfl) (by kernel_rfl) (by kernel_rfl) (fun _ _ _ h => h) (.inl ⟨by rfl, fun w' hS => ?_⟩) HS ?_
      · obtain ⟨x10, x2, x3, _⟩ := hS; go_simp
      try simp only [Act.put]
      refine till_take (i := 6) _ (.pointer (some ⟨g, 0, none⟩)) [17, 16, 15, 9, 8, 7, 6] rfl (by kernel_rfl) (by kernel_rfl) (by kernel_rfl) (by kernel_rfl) (fun _ _ _ h => h) (.inl ⟨by rfl, fun w' hS => ?_⟩) HS ?_
      · obtain ⟨x10, x2, x3, _⟩ := hS; go_simp
      try simp only [Act.put]
      refine till_take (i := 7) _ (.pointer (some ⟨g, 0, none⟩)) [17, 16, 15, 9, 8, 7] rfl (by kernel_rfl) (by kernel_rfl) (by kernel_rfl) (by kernel_rfl) (fun _ _ _ h => h) (.inl ⟨by rfl, fun w' hS => ?_⟩) HS ?_
      · obtain ⟨x10, x2, x3, _⟩ := hS; go_simp
      try simp only [Act.put]
      refine till_take (i := 8) _ (.pointer (some ⟨g, 3, none⟩)) [17, 16, 15, 9, 8] rfl (by kernel_rfl) (by kernel_rfl) (by kernel_rfl) (by kernel_rfl) (fun _ _ _ h => h) (.inl ⟨by rfl, fun w' hS => ?_⟩) HS ?_
      · obtain ⟨x10, x2, x3, _⟩ := hS; go_simp
      try simp only [Act.put]
      refine till_take (i := 9) _ (.int .i64 (q3 : Int)) [17, 16, 15, 9] rfl (by kernel_rfl) (by kernel_rfl) (by kernel_rfl) (by kernel_rfl) (fun _ _ _ h => h) (.inl ⟨by rfl, fun w' hS => ?_⟩) HS ?_
      · obtain ⟨x10, x2, x3, _⟩ := hS; go_simp
      try simp only [Act.put]
      refine till_take (i := 10) _ (.pointer (some ⟨g, 0, none⟩)) [17, 16, 15, 14, 13, 12, 11, 10] rfl (by kernel_rfl) (by kernel_rfl) (by kernel_rfl) (by kernel_rfl) (fun _ _ _ h => h) (.inl ⟨by rfl, fun w' hS => ?_⟩) HS ?_
      · obtain ⟨x10, x2, x3, _⟩ := hS; go_simp
      try simp only [Act.put]
      refine till_take (i := 11) _ (.pointer (some ⟨g, 0, none⟩)) [17, 16, 15, 14, 13, 12, 11] rfl (by kernel_rfl) (by kernel_rfl) (by kernel_rfl) (by kernel_rfl) (fun _ _ _ h => h) (.inl ⟨by rfl, fun w' hS => ?_⟩) HS ?_
      · obtain ⟨x10, x2, x3, _⟩ := hS; go_simp
      try simp only [Act.put]
      refine till_take (i := 12) _ (.pointer (some ⟨g, 0, none⟩)) [17, 16, 15, 14, 13, 12] rfl (by kernel_rfl) (by kernel_rfl) (by kernel_rfl) (by kernel_rfl) (fun _ _ _ h => h) (.inl ⟨by rfl, fun w' hS => ?_⟩) HS ?_
      · obtain ⟨x10, x2, x3, _⟩ := hS; go_simp
      try simp only [Act.put]
      refine till_take (i := 13) _ (.pointer (some ⟨g, 2, none⟩)) [17, 16, 15, 14, 13] rfl (by kernel_rfl) (by kernel_rfl) (by kernel_rfl) (by kernel_rfl) (fun _ _ _ h => h) (.inl ⟨by rfl, fun w' hS => ?_⟩) HS ?_
      · obtain ⟨x10, x2, x3, _⟩ := hS; go_simp
      try simp only [Act.put]
      refine till_take (i := 14) _ (.int .i64 (q2 : Int)) [17, 16, 15, 14] rfl (by kernel_rfl) (by kernel_rfl) (by kernel_rfl) (by kernel_rfl) (fun _ _ _ h => h) (.inl ⟨by rfl, fun w' hS => ?_⟩) HS ?_
      · obtain ⟨x10, x2, x3, _⟩ := hS; go_simp
      try simp only [Act.put]
      refine till_take (i := 15) _ (.int .i64 (h : Int)) [17, 16, 15] rfl (by kernel_rfl) (by kernel_rfl) (by kernel_rfl) (by kernel_rfl) (fun _ _ _ h => h) (.inl ⟨by rfl, fun w' hS => ?_⟩) HS ?_
      · obtain ⟨x10, x2, x3, _⟩ := hS; go_simp
      try simp only [Act.put]
      refine till_one (i := 4) _ (by kernel_rfl) rfl rfl (fun K hK => ?_)
      go_simp
      go_at_call 70
      refine (cm _ (C9.out.1.drewN 1).pl).mono ?_
      rintro e w10 ⟨rfl, hb10⟩
      have hb910 : Below w9.heap.size w9 w10 := ((Below.refl _ _).drew).trans hb10
      clear HS
      have HS := KL.out _ hb910
      refine hK.out _ _ (fun _ _ => HS) ?_
      try simp only [Act.put, List.setIfInBounds_toArray, List.set_cons_zero, List.set_cons_succ]
      clear hK K
      refine till_take (i := 16) _ (.bool false) [17, 16] rfl (by kernel_rfl) (by kernel_rfl) (by kernel_rfl) (by kernel_rfl) (fun _ _ _ h => h) (.inl ⟨by rfl, fun w' hS => ?_⟩) HS ?_
      · obtain ⟨x10, x2, x3, _⟩ := hS; go_simp
      try simp only [Act.put, List.setIfInBounds_toArray]
      refine till_take (i := 17) _ (.bool false) [17] rfl (by kernel_rfl) (by kernel_rfl) (by kernel_rfl) (by kernel_rfl) (fun _ _ _ h => h) (.inl ⟨by rfl, fun w' hS => ?_⟩) HS ?_
      · obtain ⟨x10, x2, x3, _⟩ := hS; go_simp
      try simp only [Act.put]
      refine till_take (i := 18) _ (.string s) [21, 18] rfl (by kernel_rfl) (by kernel_rfl) (by kernel_rfl) (by kernel_rfl) (fun _ _ _ h => h) (.inl ⟨by rfl, fun w' hS => ?_⟩) HS ?_
      · obtain ⟨x10, x2, x3, _⟩ := hS; go_simp
      try simp only [Act.put]
      refine till_take (i := 19) _ (.pointer (some ⟨g, 0, none⟩)) [21, 20, 19] rfl (by kernel_rfl) (by kernel_rfl) (by kernel_rfl) (by kernel_rfl) (fun _ _ _ h => h) (.inl ⟨by rfl, fun w' hS => ?_⟩) HS ?_
      · obtain ⟨x10, x2, x3, _⟩ := hS; go_simp
      try simp only [Act.put]
      refine till_want (i := 20) _ (by kernel_rfl) rfl (by rfl) (fun K hK => ?_)
      go_simp
      go_at_call 59
      refine (cs _ (C9.out.1.step hb910)).mono ?_
      rintro e w11 ⟨rfl, hb11⟩
      have hb911 : Below w9.heap.size w9 w11 := bstep hb910 hb11
      clear HS
      have HS := KL.out _ hb911
      refine hK.out _ _ (fun _ _ => HS) ?_
      try simp only [Act.put, List.setIfInBounds_toArray, List.set_cons_zero, List.set_cons_succ]
      clear hK K
      refine till_take (i := 21) _ (.bool false) [21] rfl (by kernel_rfl) (by kernel_rfl) (by kernel_rfl) (by kernel_rfl) (fun _ _ _ h => h) (.inl ⟨by rfl, fun w' hS => ?_⟩) HS ?_
      · obtain ⟨x10, x2, x3, _⟩ := hS; go_simp
      try simp only [Act.put, List.setIfInBounds_toArray]
      refine till_one (i := 22) _ (by kernel_rfl) rfl rfl (fun K hK => ?_)
      go_simp
      refine hK.out _ _ (fun h => absurd rfl h) ?_
      try simp only [Act.put, List.setIfInBounds_toArray, List.set_cons_zero, List.set_cons_succ]
      clear hK K
      refine till_done (by kernel_rfl) ?_
      go_wp2
      go_ret
      rw [HR.out]
      exact ⟨rfl, HGO.out _ (C9.out.1.step hb911) (grown_trans C9.out.2 (grown_of_below hb911 _))⟩
    · have HR : Hid (r = 10) := Lib.hid (HR0.out.trans (if_pos (.inr hsx)))
      have hsx2 := bytes_other hsx
      clear hsx
      go_wp2_with fail
      refine wp_region_till (fun w' => w'.cell? ⟨g, 10, none⟩ = some (.slice (some ⟨q8, 0, none⟩) cn c8) ∧ w'.cell? ⟨g, 2, none⟩ = some (.int .i64 (q2 : Int)) ∧ w'.cell? ⟨g, 3, none⟩ = some (.int .i64 (q3 : Int)) ∧ Below w9.heap.size w9 w') 22 23 hmx (by kernel_rfl) ?_
      have HS := KL.out _ ((Below.refl _ _).drew)
      refine till_take (i := 0) _ (.pointer (some ⟨g, 0, none⟩)) [17, 4, 3, 2, 1, 0] rfl (by kernel_rfl) (by kernel_rfl) (by kernel_rfl) (by kernel_rfl) (fun _ _ _ h => h) (.inl ⟨by rfl, fun w' hS => ?_⟩) HS ?_
      · obtain ⟨x10, x2, x3, _⟩ := hS; go_simp
      try simp only [Act.put, List.setIfInBounds_toArray]
      refine till_take (i := 1) _ (.pointer (some ⟨g, 0, none⟩)) [17, 4, 3, 2, 1] rfl (by kernel_rfl) (by kernel_rfl) (by kernel_rfl) (by kernel_rfl) (fun _ _ _ h => h) (.inl ⟨by rfl, fun w' hS => ?_⟩) HS ?_
      · obtain ⟨x10, x2, x3, _⟩ := hS; go_simp
      try simp only [Act.put]
      refine till_take (i := 2) _ (.pointer (some ⟨g, 10, none⟩)) [17, 4, 3, 2] rfl (by kernel_rfl) (by kernel_rfl) (by kernel_rfl) (by kernel_rfl) (fun _ _ _ h => h) (.inl ⟨by rfl, fun w' hS => ?_⟩) HS ?_
      · obtain ⟨x10, x2, x3, _⟩ := hS; go_simp
      try simp only [Act.put]
      refine till_take (i := 3) _ (.slice (some ⟨q8, 0, none⟩) cn c8) [17, 4, 3] rfl (by kernel_rfl) (by kernel_rfl) (by kernel_rfl) (by kernel_rfl) (fun _ _ _ h => h) (.inl ⟨by rfl, fun w' hS => ?_⟩) HS ?_
      · obtain ⟨x10, x2, x3, _⟩ := hS; go_simp
      try simp only [Act.put]
      refine till_take (i := 5) _ (.pointer (some ⟨g, 0, none⟩)) [17, 16, 15, 9, 8, 7, 6, 5] rfl (by kernel_rfl) (by kernel_rfl) (by kernel_rfl) (by kernel_rfl) (fun _ _ _ h => h) (.inl ⟨by rfl, fun w' hS => ?_⟩) HS ?_
      · obtain ⟨x10, x2, x3, _⟩ := hS; go_simp
      try simp only [Act.put]
      refine till_take (i := 6) _ (.pointer (some ⟨g, 0, none⟩)) [17, 16, 15, 9, 8, 7, 6] rfl (by kernel_rfl) (by kernel_rfl) (by kernel_rfl) (by kernel_rfl) (fun _ _ _ h => h) (.inl ⟨by rfl, fun w' hS => ?_⟩) HS ?_
      · obtain ⟨x10, x2, x3, _⟩ := hS; go_simp
      try simp only [Act.put]
      refine till_take (i := 7) _ (.pointer (some ⟨g, 0, none⟩)) [17, 16, 15, 9, 8, 7] rfl (by kernel_rfl) (by kernel_rfl) (by kernel_rfl) (by kernel_rfl) (fun _ _ _ h => h) (.inl ⟨by rfl, fun w' hS => ?_⟩) HS ?_
      · obtain ⟨x10, x2, x3, _⟩ := hS; go_simp
      try simp only [Act.put]
      refine till_take (i := 8) _ (.pointer (some ⟨g, 3, none⟩)) [17, 16, 15, 9, 8] rfl (by kernel_rfl) (by kernel_rfl) (by kernel_rfl) (by kernel_rfl) (fun _ _ _ h => h) (.inl ⟨by rfl, fun w' hS => ?_⟩) HS ?_
      · obtain ⟨x10, x2, x3, _⟩ := hS; go_simp
      try simp only [Act.put]
      refine till_take (i := 9) _ (.int .i64 (q3 : Int)) [17, 16, 15, 9] rfl (by kernel_rfl) (by kernel_rfl) (by kernel_rfl) (by kernel_rfl) (fun _ _ _ h => h) (.inl ⟨by rfl, fun w' hS => ?_⟩) HS ?_
      · obtain ⟨x10, x2, x3, _⟩ := hS; go_simp
      try simp only [Act.put]
      refine till_take (i := 10) _ (.pointer (some ⟨g, 0, none⟩)) [17, 16, 15, 14, 13, 12, 11, 10] rfl (by kernel_rfl) (by kernel_rfl) (by kernel_rfl) (by kernel_rfl) (fun _ _ _ h => h) (.inl ⟨by rfl, fun w' hS => ?_⟩) HS ?_
      · obtain ⟨x10, x2, x3, _⟩ := hS; go_simp
      try simp only [Act.put]
      refine till_take (i := 11) _ (.pointer (some ⟨g, 0, none⟩)) [17, 16, 15, 14, 13, 12, 11] rfl (by kernel_rfl) (by kernel_rfl) (by kernel_rfl) (by kernel_rfl) (fun _ _ _ h => h) (.inl ⟨by rfl, fun w' hS => ?_⟩) HS ?_
      · obtain ⟨x10, x2, x3, _⟩ := hS; go_simp
      try simp only [Act.put]
      refine till_take (i := 12) _ (.pointer (some ⟨g, 0, none⟩)) [17, 16, 15, 14, 13, 12] rfl (by kernel_rfl) (by kernel_rfl) (by kernel_rfl) (by kernel_rfl) (fun _ _ _ h => h) (.inl ⟨by rfl, fun w' hS => ?_⟩) HS ?_
      · obtain ⟨x10, x2, x3, _⟩ := hS; go_simp
      try simp only [Act.put]
      refine till_take (i := 13) _ (.pointer (some ⟨g, 2, none⟩)) [17, 16, 15, 14, 13] rfl (by kernel_rfl) (by kernel_rfl) (by kernel_rfl) (by kernel_rfl) (fun _ _ _ h => h) (.inl ⟨by rfl, fun w' hS => ?_⟩) HS ?_
      · obtain ⟨x10, x2, x3, _⟩ := hS; go_simp
      try simp only [Act.put]
      refine till_take (i := 14) _ (.int .i64 (q2 : Int)) [17, 16, 15, 14] rfl (by kernel_rfl) (by kernel_rfl) (by kernel_rfl) (by kernel_rfl) (fun _ _ _ h => h) (.inl ⟨by rfl, fun w' hS => ?_⟩) HS ?_
      · obtain ⟨x10, x2, x3, _⟩ := hS; go_simp
      try simp only [Act.put]
      refine till_take (i := 15) _ (.int .i64 (h : Int)) [17, 16, 15] rfl (by kernel_rfl) (by kernel_rfl) (by kernel_rfl) (by kernel_rfl) (fun _ _ _ h => h) (.inl ⟨by rfl, fun w' hS => ?_⟩) HS ?_
      · obtain ⟨x10, x2, x3, _⟩ := hS; go_simp
      try simp only [Act.put]
      refine till_one (i := 4) _ (by kernel_rfl) rfl rfl (fun K hK => ?_)
      go_simp
      go_at_call 70
      refine (cm _ (C9.out.1.drewN 1).pl).mono ?_
      rintro e w10 ⟨rfl, hb10⟩
      have hb910 : Below w9.heap.size w9 w10 := ((Below.refl _ _).drew).trans hb10
      clear HS
      have HS := KL.out _ hb910
      refine hK.out _ _ (fun _ _ => HS) ?_
      try simp only [Act.put, List.setIfInBounds_toArray, List.set_cons_zero, List.set_cons_succ]
      clear hK K
      refine till_take (i := 16) _ (.bool false) [17, 16] rfl (by kernel_rfl) (by kernel_rfl) (by kernel_rfl) (by kernel_rfl) (fun _ _ _ h => h) (.inl ⟨by rfl, fun w' hS => ?_⟩) HS ?_
      · obtain ⟨x10, x2, x3, _⟩ := hS; go_simp
      try simp only [Act.put, List.setIfInBounds_toArray]
      refine till_take (i := 17) _ (.bool false) [17] rfl (by kernel_rfl) (by kernel_rfl) (by kernel_rfl) (by kernel_rfl) (fun _ _ _ h => h) (.inl ⟨by rfl, fun w' hS => ?_⟩) HS ?_
      · obtain ⟨x10, x2, x3, _⟩ := hS; go_simp
      try simp only [Act.put]
      refine till_take (i := 18) _ (.string s) [21, 18] rfl (by kernel_rfl) (by kernel_rfl) (by kernel_rfl) (by kernel_rfl) (fun _ _ _ h => h) (.inl ⟨by rfl, fun w' hS => ?_⟩) HS ?_
      · obtain ⟨x10, x2, x3, _⟩ := hS; go_simp
      try simp only [Act.put]
      refine till_take (i := 19) _ (.pointer (some ⟨g, 0, none⟩)) [21, 20, 19] rfl (by kernel_rfl) (by kernel_rfl) (by kernel_rfl) (by kernel_rfl) (fun _ _ _ h => h) (.inl ⟨by rfl, fun w' hS => ?_⟩) HS ?_
      · obtain ⟨x10, x2, x3, _⟩ := hS; go_simp
      try simp only [Act.put]
      refine till_want (i := 20) _ (by kernel_rfl) rfl (by rfl) (fun K hK => ?_)
      go_simp
      go_at_call 59
      refine (cs _ (C9.out.1.step hb910)).mono ?_
      rintro e w11 ⟨rfl, hb11⟩
      have hb911 : Below w9.heap.size w9 w11 := bstep hb910 hb11
      clear HS
      have HS := KL.out _ hb911
      refine hK.out _ _ (fun _ _ => HS) ?_
      try simp only [Act.put, List.setIfInBounds_toArray, List.set_cons_zero, List.set_cons_succ]
      clear hK K
      refine till_take (i := 21) _ (.bool true) [21] rfl (by kernel_rfl) (by kernel_rfl) (by kernel_rfl) (by kernel_rfl) (fun _ _ _ h => h) (.inl ⟨by rfl, fun w' hS => ?_⟩) HS ?_
      · obtain ⟨x10, x2, x3, _⟩ := hS; go_simp
      try simp only [Act.put, List.setIfInBounds_toArray]
      refine till_one (i := 22) _ (by kernel_rfl) rfl rfl (fun K hK => ?_)
      go_simp
      refine hK.out _ _ (fun h => absurd rfl h) ?_
      try simp only [Act.put, List.setIfInBounds_toArray, List.set_cons_zero, List.set_cons_succ]
      clear hK K
      refine till_done (by kernel_rfl) ?_
      go_wp2
      go_ret
      rw [HR.out]
      exact ⟨rfl, HGO.out _ (C9.out.1.step hb911) (grown_trans C9.out.2 (grown_of_below hb911 _))⟩

end Go.Proofs.Ytlpijikhbjkmfaa

/-
  A recovery as plain lists, and its steps.
-/
namespace Go.Proofs.Ytlpijikhbjkmfaa
open Go.RowKit

theorem load_wk (w : World) (g : Nat) (v : WV) (d : D) (h gg : Nat) (H0 : Ld w g v d h gg) (hvk : v.k = 0) :
    Calls Try.prog 49 #[.pointer (some ⟨g, 0, none⟩)] w fun e w' => e = .returned (.int .i64 (loadE d h gg)) ∧ w.grownBy w' (some g) ∧ ∃ v' pl bl, Nld v v' ∧ Wk w' g v' d [] pl bl ∧
      (loadE d h gg = 0 → (headB d = zeroB ∧ v'.k = 0) ∨ (headB d ≠ zeroB ∧ 1 ≤ v'.k ∧ pl = plR d h ∧ bl = blR d h ∧ d.dead = false)) := by
  have self : ∀ sq, Nld v { v with sq := sq } := fun sq => ⟨sq, v.P, v.k, v.kc, v.L, v.j, v.jc, rfl⟩
  have self0 : Nld v v := self v.sq
  by_cases hd : d.dead = true
  · have e : loadE d h gg = 17 := by unfold loadE; rw [if_pos hd]
    rw [e]
    exact (load_dead w g v d h gg H0 hd).mono fun e w' hh => ⟨hh.1, grown_of_below hh.2 _, v, [], [], self0, H0.wk.step hh.2, fun h0 => absurd h0 (by decide)⟩
  · have hd' : d.dead = false := by simpa using hd
    by_cases hz : headB d = zeroB
    · have e : loadE d h gg = 0 := by unfold loadE; rw [if_neg hd, if_pos hz]
      rw [e]
      exact (load_clear w g v d h gg H0 hd' hz).mono fun e w' hh => ⟨hh.1, grown_of_below hh.2 _, v, [], [], self0, H0.wk.step hh.2, fun _ => .inl ⟨hz, hvk⟩⟩
    · by_cases hc : cntN d < 1 ∨ gg < cntN d ∨ h < cntN d
      · have e : loadE d h gg = 10 := by unfold loadE; rw [if_neg hd, if_neg hz, if_pos hc]
        rw [e]
        exact (load_form w g v d h gg H0 hd' hz hc).mono fun e w' hh => ⟨hh.1, hh.2.1, _, [], [], self _, hh.2.2, fun h0 => absurd h0 (by decide)⟩
      · have e : loadE d h gg = if (h : Int) ≤ highI (plR d h) ∨ headB d ≠ sealB (seqN d) (plR d h) (blR d h) then 10 else 0 := by unfold loadE; rw [if_neg hd, if_neg hz, if_neg hc]
        rw [e]
        refine (load_late w g v d h gg H0 hd' hz hc).mono fun e w' hh => ?_
        obtain ⟨he, hg, v', hv, hk⟩ := hh
        refine ⟨he, hg, v', _, _, hv, hk, fun _ => .inr ⟨hz, ?_, rfl, rfl, hd'⟩⟩
        have h1 := hk.pl.lenN
        have h2 : (plR d h).length = cntN d := by simp [plR]
        omega

def recoverD (d : D) (x y : Int) : D × Int :=
  if wrongE d x y ≠ 0 then (d, wrongE d x y)
  else if loadE d x.toNat y.toNat ≠ 0 then (d, loadE d x.toNat y.toNat)
  else if headB d = zeroB then (d, 0)
  else runD (d, 0) (endSteps (1 + listsN x.toNat + y.toNat) (plR d x.toNat) (blR d x.toNat))

/-- The four steps of a recovery. -/
def stepR (a : Nat) (pl : List Nat) (bl : List ByteArray) : Nat → List Step
  | 0 => homeSteps a pl bl
  | 1 => [.flush]
  | 2 => rowSteps 0 [zeroB]
  | 3 => [.flush]
  | _ + 4 => []
theorem pre_rec (a : Nat) (pl : List Nat) (bl : List ByteArray) : preK (stepR a pl bl) 4 = endSteps a pl bl := by
  simp [preK, stepR, endSteps]

def fsLook (g : Nat) : List (Nat × Nat) := [(21, g), (49, g)]
theorem eg_look (g : Nat) : ∀ p ∈ fsLook g, ∀ args w, (callFunc p.1 args).run Try.prog w = .ok (.enter p.1 args) w := by
  intro p hp
  simp only [fsLook, List.mem_cons, List.not_mem_nil, or_false] at hp
  rcases hp with rfl | rfl
  · exact enters_of Try.func21 (by kernel_rfl) rfl
  · exact enters_of Try.func49 (by kernel_rfl) rfl
def fsRec (g : Nat) : List (Nat × Nat) := [(30, g), (27, g), (31, g), (27, g)]
theorem eg_rec (g : Nat) : ∀ p ∈ fsRec g, ∀ args w, (callFunc p.1 args).run Try.prog w = .ok (.enter p.1 args) w := by
  intro p hp
  simp only [fsRec, List.mem_cons, List.not_mem_nil, or_false] at hp
  rcases hp with rfl | rfl | rfl | rfl
  · exact enters_of Try.func30 (by kernel_rfl) rfl
  · exact enters_of Try.func27 (by kernel_rfl) rfl
  · exact enters_of Try.func31 (by kernel_rfl) rfl
  · exact enters_of Try.func27 (by kernel_rfl) rfl

/-- While a recovery is looked at. -/
structure Look (g : Nat) (W0 : World) (v : WV) (d : D) (x y : Int) (k : Nat) (W : World) : Prop where
  gr : W0.grownBy W (some g)
  lo : k < 2 → Wk W g v d [] [] []
  f0 : 0 < k → wrongE d x y = 0
  hi : k = 2 → loadE d x.toNat y.toNat = 0 ∧ ∃ v' pl bl, Nld v v' ∧ Wk W g v' d [] pl bl ∧ ((headB d = zeroB ∧ v'.k = 0) ∨ (headB d ≠ zeroB ∧ 1 ≤ v'.k ∧ pl = plR d x.toNat ∧ bl = blR d x.toNat ∧ d.dead = false))
/-- It can't be. -/
structure Cant (g : Nat) (W0 : World) (d : D) (x y : Int) (r : Int) (W : World) : Prop where
  gr : W0.grownBy W (some g)
  is : recoverD d x y = (d, r)
  ex : ∃ v pl bl, Wk W g v d [] pl bl

theorem look_steps (g : Nat) (W0 : World) (v : WV) (d : D) (x y : Int) (hf : FitP d) (n : Nat) (hn : d.bs.length = n) (hvn : v.n = n) (hv : v.k = 0)
    (hp : v.p0 = (layV x y).1 ∧ v.p1 = (layV x y).2.1 ∧ v.p2 = (layV x y).2.2.1 ∧ v.p3 = (layV x y).2.2.2) :
    ∀ k W p, Look g W0 v d x y k W → (fsLook g)[k]? = some p →
      Calls Try.prog p.1 #[.pointer (some ⟨p.2, 0, none⟩)] W fun e W' => ∃ r : Int, e = .returned (.int .i64 r) ∧ ((r = 0 ∧ Look g W0 v d x y (k + 1) W') ∨ (r ≠ 0 ∧ Cant g W0 d x y r W')) := by
  intro k W p hA hpk
  obtain ⟨p0, p1, p2, p3⟩ := hp
  have hwr := wrong_fits d x y n hn
  rcases k with _ | _ | k
  · obtain rfl := Option.some.inj hpk
    have hk := hA.lo (by omega)
    refine (fits_wk W g v hk.blk).mono fun e W' hh => ?_
    obtain ⟨he, q, rfl⟩ := hh
    rw [p3, hvn, ← hwr] at he
    refine ⟨_, he, ?_⟩
    by_cases h0 : wrongE d x y = 0
    · exact .inl ⟨h0, grown_trans hA.gr (grown_drewN _ _ _), fun _ => hk.drewN q, fun _ => h0, fun h => absurd h (by omega)⟩
    · exact .inr ⟨h0, grown_trans hA.gr (grown_drewN _ _ _), by unfold recoverD; rw [if_pos h0], v, [], [], hk.drewN q⟩
  · obtain rfl := Option.some.inj hpk
    have hk := hA.lo (by omega)
    have h0 := hA.f0 (by omega)
    have hne : (layV x y).2.2.2 ≠ 0 := fun e => by
      rw [hwr, e] at h0
      unfold fitsE at h0
      rw [if_pos rfl] at h0
      exact absurd h0 (by decide)
    obtain ⟨h, gg, rfl, rfl, hh1, hh2, gg1, gg2, hlay⟩ := lay_nat hne
    have hbl : d.bs.length = 1 + listsN h + gg + h := by
      have h3 := hwr
      rw [h0, hlay] at h3
      unfold fitsE at h3
      dsimp only at h3
      rw [if_neg (by omega)] at h3
      by_cases h4 : (n : Int) ≠ ((1 + listsN h + gg + h : Nat) : Int)
      · rw [if_pos h4] at h3; exact absurd h3 (by decide)
      · omega
    rw [hlay] at p0 p1 p2 p3
    dsimp only at p0 p1 p2 p3
    refine (load_wk W g v d h gg ⟨hk, p0, p1, p2, p3, hf, hbl, ⟨hh1, hh2⟩, ⟨gg1, gg2⟩⟩ hv).mono fun e W' hh => ?_
    obtain ⟨he, hgr, v', pl, bl, hv', hk', hr⟩ := hh
    refine ⟨_, he, ?_⟩
    have HX : ((h : Int)).toNat = h := rfl
    have HY : ((gg : Int)).toNat = gg := rfl
    by_cases hl : loadE d h gg = 0
    · exact .inl ⟨hl, grown_trans hA.gr hgr, fun h => absurd h (by omega), fun _ => h0, fun _ => by rw [HX, HY]; exact ⟨hl, v', pl, bl, hv', hk', hr hl⟩⟩
    · exact .inr ⟨hl, grown_trans hA.gr hgr, by unfold recoverD; rw [if_neg (by rw [h0]; decide), HX, HY, if_pos hl], v', pl, bl, hk'⟩
  · simp [fsLook] at hpk

set_option maxHeartbeats 1000000 in
theorem rec_steps (a g : Nat) (W0 : World) (d : D) (bl : List ByteArray) (pl : List Nat) (p0 p1 : Int) (sq : Nat) (hf : FitP d) (hl : d.left ≤ 9223372036854775807) (ha : a ≤ 265) (hpl : ∀ k, k < pl.length → pl.getD k 0 < 65536) (hpn : pl.length ≤ 512) (hbn : bl.length = pl.length) :
    ∀ k W p, Dn (stepR a pl bl) g W0 d [] bl pl p0 p1 a sq false k W → (fsRec g)[k]? = some p →
      Calls Try.prog p.1 #[.pointer (some ⟨p.2, 0, none⟩)] W fun e W' => ∃ x : Int, e = .returned (.int .i64 x) ∧ ((x = 0 ∧ Dn (stepR a pl bl) g W0 d [] bl pl p0 p1 a sq false (k + 1) W') ∨ (x ≠ 0 ∧ Fl (stepR a pl bl) g W0 d [] bl pl false k x W')) := by
  intro k W p hD hp
  obtain ⟨⟨v, e0, e1, e2, e3, e4, hk⟩, hok, hgr⟩ := hD
  have hl2 : (runD (d, 0) (preK (stepR a pl bl) k)).1.left ≤ 9223372036854775807 := left_run _ hl
  have hf2 : FitP (runD (d, 0) (preK (stepR a pl bl) k)).1 := fit_run _ hf
  have hvk : v.k = pl.length := hk.pl.lenN.symm
  have hvj : v.j = pl.length := by rw [← hk.bl.lenS]; exact hbn
  have hcs := hf2.1.2.2.1
  rcases k with _ | _ | _ | _ | k
  · obtain rfl := Option.some.inj hp
    exact (writeHome_wk W g v _ [] bl pl hk hl2 a (by omega) e2 (by omega) (by omega) (by rw [hvk]; exact hpl)).mono fun e W' hh => dn_step ⟨e0, e1, e2, e3, e4⟩ hok hgr rfl hh
  · obtain rfl := Option.some.inj hp
    exact (flush_wk W g v _ [] bl pl hk hl2 hcs).mono fun e W' hh => dn_step ⟨e0, e1, e2, e3, e4⟩ hok hgr rfl hh
  · obtain rfl := Option.some.inj hp
    exact (writeClear_wk W g v _ [] bl pl hk hl2).mono fun e W' hh => dn_step ⟨e0, e1, e2, e3, e4⟩ hok hgr rfl hh
  · obtain rfl := Option.some.inj hp
    exact (flush_wk W g v _ [] bl pl hk hl2 hcs).mono fun e W' hh => dn_step ⟨e0, e1, e2, e3, e4⟩ hok hgr rfl hh
  · simp [fsRec] at hp

end Go.Proofs.Ytlpijikhbjkmfaa
