/-
  What is to be written for home to be an image: the program's method.
-/
import Derived.Test.YtlpijikhbjkmfaaG22
import Derived.Test.YtlpijikhbjkmfaaG23
namespace Go.Proofs.Ytlpijikhbjkmfaa
open Go.RowKit

/-- The same but for places and blocks. -/
def Npl (v v' : WV) : Prop := ∃ (P : Option Addr) (k kc : Nat) (L : Option Addr) (j jc : Nat), v' = { v with P := P, k := k, kc := kc, L := L, j := j, jc := jc }
theorem changedL_lt {a b : List ByteArray} {k : Nat} (ha : a.length = k) (hb : b.length = k) : ∀ x ∈ changedL a b, x < k := by
  intro x hx
  unfold changedL at hx
  have := (List.mem_filter.1 hx).1
  rw [ha, hb] at this
  simpa using this
theorem changedL_le {a b : List ByteArray} {k : Nat} (ha : a.length = k) (hb : b.length = k) : (changedL a b).length ≤ k := by
  unfold changedL
  refine Nat.le_trans (List.length_filter_le _ _) ?_
  rw [List.length_range, ha, hb]; omega
theorem getD_lt {l : List Nat} {k : Nat} (h : ∀ x ∈ l, x < k) {i : Nat} (hi : i < l.length) : l.getD i 0 < k := h _ (by rw [List.getD_eq_getElem?_getD, List.getElem?_eq_getElem hi]; exact List.getElem_mem hi)
theorem W13.pls {w : World} {g : Nat} {v : WV} (h : W13 w g v) (P : Option Addr) (k kc : Nat) : W13 (w.setCell ⟨g, 10, none⟩ (.slice P k kc)) g { v with P := P, k := k, kc := kc } := h.set_ 10 _ rfl
theorem W13.bls {w : World} {g : Nat} {v : WV} (h : W13 w g v) (L : Option Addr) (j jc : Nat) : W13 (w.setCell ⟨g, 11, none⟩ (.slice L j jc)) g { v with L := L, j := j, jc := jc } := h.set_ 11 _ rfl
/-- While the blocks are gathered. -/
structure CInv (w : World) (g : Nat) (v : WV) (P : Option Addr) (k kc : Nat) (pl : List Nat) (img : List ByteArray) (A2 : Option Addr) (c2 i : Nat) (W : World) : Prop where
  blk : W13 W g { v with P := P, k := k, kc := kc, L := A2, j := i, jc := c2 }
  pr : W.ownsRow w.heap.size 3 1 (.slice P k kc) k (encN pl)
  lr : W.ownsRow w.heap.size 9 1 (.slice A2 i c2) i (encS ((pl.take i).map (Go.Proofs.Ytlpijikhbjkmfaa.blk img)))
  gr : w.grownBy W (some g)
theorem CInv.step {w : World} {g : Nat} {v : WV} {P : Option Addr} {k kc : Nat} {pl : List Nat} {img : List ByteArray} {A2 : Option Addr} {c2 i : Nat} {W W' : World} (h : CInv w g v P k kc pl img A2 c2 i W) (hb : Below W.heap.size W W') : CInv w g v P k kc pl img A2 c2 i W' :=
  ⟨h.blk.step hb, own_below h.pr hb, own_below h.lr hb, grown_trans h.gr (grown_of_below hb _)⟩
theorem CInv.put {w : World} {g : Nat} {v : WV} {P : Option Addr} {k kc : Nat} {pl : List Nat} {img : List ByteArray} {A2 A6 : Option Addr} {c2 c6 i : Nat} {W W' : World} (h : CInv w g v P k kc pl img A2 c2 i W) (hgw : g < w.heap.size) (hi : i < pl.length)
    (ho : W'.ownsRow w.heap.size 9 1 (.slice A6 (i + 1) c6) (i + 1) (encS ((pl.take i).map (Go.Proofs.Ytlpijikhbjkmfaa.blk img)) ++ [.string (Go.Proofs.Ytlpijikhbjkmfaa.blk img (pl.getD i 0))])) (hg : W.grownBy W' (Value.slice A2 i c2).ownBlock) :
    CInv w g v P k kc pl img A6 c6 (i + 1) (W'.setCell ⟨g, 11, none⟩ (.slice A6 (i + 1) c6)) := by
  have hne : some g ≠ (Value.slice A2 i c2).ownBlock := fun e => by have := own_row_ge h.lr g e.symm; omega
  have hb1 : W13 W' g { v with P := P, k := k, kc := kc, L := A2, j := i, jc := c2 } := h.blk.kept hg hne
  have hp1 : W'.ownsRow w.heap.size 3 1 (.slice P k kc) k (encN pl) := own_grown h.pr hg (fun q hq e => own_apart h.pr h.lr (by decide) q hq e)
  refine ⟨hb1.bls A6 (i + 1) c6, own_far hp1 (a := ⟨g, 11, none⟩) (fun e => by have := own_row_ge hp1 g e; omega) _, ?_, ?_⟩
  · have h2 := own_far ho (a := ⟨g, 11, none⟩) (fun e => by have := own_row_ge ho g e; omega) (.slice A6 (i + 1) c6)
    exact own_eq_vals h2 (by rw [take_snoc_get (nat_get hi)]; simp [encS])
  · exact grown_trans (grown_row h.gr hg (B := w.heap.size) (Nat.le_refl _) (fun q hq => own_row_ge h.lr q hq)) (grown_set _ _ _ _)

theorem CInv.drewN {w : World} {g : Nat} {v : WV} {P : Option Addr} {k kc : Nat} {pl : List Nat} {img : List ByteArray} {A2 : Option Addr} {c2 i : Nat} {W : World} (h : CInv w g v P k kc pl img A2 c2 i W) (q : Nat) : CInv w g v P k kc pl img A2 c2 i (W.drewN q) := ⟨h.blk, h.pr, h.lr, grown_trans h.gr (grown_drewN _ _ _)⟩
theorem CInv.wk {w : World} {g : Nat} {v : WV} {d : D} {P : Option Addr} {k kc : Nat} {pl : List Nat} {img : List ByteArray} {A2 : Option Addr} {c2 i : Nat} {W : World} (h : CInv w g v P k kc pl img A2 c2 i W) (H : Wk w g v d img [] []) (hi : i ≤ 4096) :
    Wk W g { v with P := P, k := k, kc := kc, L := A2, j := i, jc := c2 } d img pl ((pl.take i).map (Go.Proofs.Ytlpijikhbjkmfaa.blk img)) := by
  have hgl := H.blk.lt
  obtain ⟨_, _, e1, h1, h2⟩ := own_slice h.pr
  simp only [Value.slice.injEq, true_and] at e1
  obtain ⟨_, rfl⟩ := e1
  obtain ⟨_, _, e2, h3, h4⟩ := own_slice h.lr
  simp only [Value.slice.injEq, true_and] at e2
  obtain ⟨_, rfl⟩ := e2
  refine ⟨h.blk, H.dvgr h.gr, H.hl, H.hz, H.imgr h.gr, H.hi, Reads.of_own h.pr, fun hk ad e hg => ?_, ⟨h1, h2⟩, Reads.of_own h.lr, ⟨h3, by show i * 16 ≤ _; omega⟩⟩
  obtain ⟨q, hq, hge, _⟩ := own_cells h.pr hk
  have e' : P = some ad := e
  rw [hq] at e'
  injection e' with e'
  subst e'
  dsimp only at hg
  omega

set_option maxRecDepth 100000 in
set_option maxHeartbeats 1500000 in
theorem compare_wk (w : World) (g : Nat) (v : WV) (d : D) (img : List ByteArray) (h : Wk w g v d img [] []) (hv : v.L = none ∧ v.j = 0 ∧ v.jc = 0) (a k lg s1 : Nat) (hp2 : v.p2 = a) (hp3 : v.p3 = ((a + k : Nat) : Int)) (hp1 : v.p1 = s1) (hlg : s1 + lg = a) (ha : a ≤ 2048) (hk : k ≤ 512) (hi : img.length = k) (hok : ∀ i, i < k → (readD d ((a + i : Nat) : Int)).2 = 0) :
    Calls Try.prog 24 #[.pointer (some ⟨g, 0, none⟩)] w fun e w' => ∃ v', Npl v v' ∧ w.grownBy w' (some g) ∧
      ((Hid (lg < (changedL (readL d a k) img).length) ∧ e = .returned (.int .i64 18) ∧ W13 w' g v' ∧ Wk w' g v' d img (changedL (readL d a k) img) []) ∨
       (Hid ((changedL (readL d a k) img).length ≤ lg) ∧ e = .returned (.int .i64 0) ∧ Wk w' g v' d img (changedL (readL d a k) img) ((changedL (readL d a k) img).map (blk img)))) := by
  obtain ⟨pl, hpl⟩ : ∃ pl, pl = changedL (readL d a k) img := ⟨_, rfl⟩
  rw [← hpl]
  have HPE := Lib.hid hpl
  obtain ⟨i0, hi0, hz0, hz1, hz2⟩ := info_parts infoS
  have hmx : Try.prog.follows .mixedOrders = true := by kernel_rfl
  obtain ⟨q0, q1, q2, q3⟩ := h.blk.p
  rw [hp1] at q1
  rw [hp2] at q2
  rw [hp3] at q3
  have H := Lib.hid h
  have hgl := h.blk.lt
  have crd := fun W (hW : Wk W g v d img [] []) => read_wk W g v d img [] [] hW a k (by omega) (by omega) hok
  have HPL : Hid ((∀ x ∈ pl, x < k) ∧ pl.length ≤ k) := Lib.hid (by rw [hpl]; exact And.intro (changedL_lt (readL_length d a k) hi) (changedL_le (readL_length d a k) hi))
  clear hpl
  have HV := Lib.hid (And.intro hv (And.intro hp1 (And.intro hp2 hp3)))
  have hii := h.im.lenS
  clear h hv hp1 hp2 hp3 hok
  obtain ⟨b, hb⟩ : ∃ b : Nat, b = a + k := ⟨_, rfl⟩
  have hbk : b ≤ 2560 := by omega
  rw [← hb] at q3 crd
  clear hb
  go_enter Try.func24, Try.ntmps24
  go_wp2_with fail
  refine wp_region_till (fun w' => w'.cell? ⟨g, 2, none⟩ = some (.int .i64 (a : Int)) ∧ w'.cell? ⟨g, 3, none⟩ = some (.int .i64 (b : Int))) 16 17 hmx (by kernel_rfl) ?_
  have HS : (w.drew).cell? ⟨g, 2, none⟩ = some (.int .i64 (a : Int)) ∧ (w.drew).cell? ⟨g, 3, none⟩ = some (.int .i64 (b : Int)) := ⟨q2, q3⟩
  refine till_take (i := 0) _ (.pointer (some ⟨g, 0, none⟩)) [15, 13, 12, 11, 0] rfl (by kernel_rfl) (by kernel_rfl) (by kernel_rfl) (by kernel_rfl) (fun _ _ _ h => h) (.inl ⟨by rfl, fun w' hS => ?_⟩) HS ?_
  · obtain ⟨x0, x1⟩ := hS; go_simp
  try simp only [Act.put, List.setIfInBounds_toArray]
  refine till_take (i := 1) _ (.pointer (some ⟨g, 0, none⟩)) [15, 13, 12, 11, 5, 4, 3, 2, 1] rfl (by kernel_rfl) (by kernel_rfl) (by kernel_rfl) (by kernel_rfl) (fun _ _ _ h => h) (.inl ⟨by rfl, fun w' hS => ?_⟩) HS ?_
  · obtain ⟨x0, x1⟩ := hS; go_simp
  try simp only [Act.put]
  refine till_take (i := 2) _ (.pointer (some ⟨g, 0, none⟩)) [15, 13, 12, 11, 5, 4, 3, 2] rfl (by kernel_rfl) (by kernel_rfl) (by kernel_rfl) (by kernel_rfl) (fun _ _ _ h => h) (.inl ⟨by rfl, fun w' hS => ?_⟩) HS ?_
  · obtain ⟨x0, x1⟩ := hS; go_simp
  try simp only [Act.put]
  refine till_take (i := 3) _ (.pointer (some ⟨g, 0, none⟩)) [15, 13, 12, 11, 5, 4, 3] rfl (by kernel_rfl) (by kernel_rfl) (by kernel_rfl) (by kernel_rfl) (fun _ _ _ h => h) (.inl ⟨by rfl, fun w' hS => ?_⟩) HS ?_
  · obtain ⟨x0, x1⟩ := hS; go_simp
  try simp only [Act.put]
  refine till_take (i := 4) _ (.pointer (some ⟨g, 2, none⟩)) [15, 13, 12, 11, 5, 4] rfl (by kernel_rfl) (by kernel_rfl) (by kernel_rfl) (by kernel_rfl) (fun _ _ _ h => h) (.inl ⟨by rfl, fun w' hS => ?_⟩) HS ?_
  · obtain ⟨x0, x1⟩ := hS; go_simp
  try simp only [Act.put]
  refine till_take (i := 5) _ (.int .i64 (a : Int)) [15, 13, 12, 11, 5] rfl (by kernel_rfl) (by kernel_rfl) (by kernel_rfl) (by kernel_rfl) (fun _ _ _ h => h) (.inl ⟨by rfl, fun w' hS => ?_⟩) HS ?_
  · obtain ⟨x0, x1⟩ := hS; go_simp
  try simp only [Act.put]
  refine till_take (i := 6) _ (.pointer (some ⟨g, 0, none⟩)) [15, 13, 12, 11, 10, 9, 8, 7, 6] rfl (by kernel_rfl) (by kernel_rfl) (by kernel_rfl) (by kernel_rfl) (fun _ _ _ h => h) (.inl ⟨by rfl, fun w' hS => ?_⟩) HS ?_
  · obtain ⟨x0, x1⟩ := hS; go_simp
  try simp only [Act.put]
  refine till_take (i := 7) _ (.pointer (some ⟨g, 0, none⟩)) [15, 13, 12, 11, 10, 9, 8, 7] rfl (by kernel_rfl) (by kernel_rfl) (by kernel_rfl) (by kernel_rfl) (fun _ _ _ h => h) (.inl ⟨by rfl, fun w' hS => ?_⟩) HS ?_
  · obtain ⟨x0, x1⟩ := hS; go_simp
  try simp only [Act.put]
  refine till_take (i := 8) _ (.pointer (some ⟨g, 0, none⟩)) [15, 13, 12, 11, 10, 9, 8] rfl (by kernel_rfl) (by kernel_rfl) (by kernel_rfl) (by kernel_rfl) (fun _ _ _ h => h) (.inl ⟨by rfl, fun w' hS => ?_⟩) HS ?_
  · obtain ⟨x0, x1⟩ := hS; go_simp
  try simp only [Act.put]
  refine till_take (i := 9) _ (.pointer (some ⟨g, 3, none⟩)) [15, 13, 12, 11, 10, 9] rfl (by kernel_rfl) (by kernel_rfl) (by kernel_rfl) (by kernel_rfl) (fun _ _ _ h => h) (.inl ⟨by rfl, fun w' hS => ?_⟩) HS ?_
  · obtain ⟨x0, x1⟩ := hS; go_simp
  try simp only [Act.put]
  refine till_take (i := 10) _ (.int .i64 (b : Int)) [15, 13, 12, 11, 10] rfl (by kernel_rfl) (by kernel_rfl) (by kernel_rfl) (by kernel_rfl) (fun _ _ _ h => h) (.inl ⟨by rfl, fun w' hS => ?_⟩) HS ?_
  · obtain ⟨x0, x1⟩ := hS; go_simp
  try simp only [Act.put]
  refine till_one (i := 11) _ (by kernel_rfl) rfl rfl (fun K hK => ?_)
  go_simp
  go_at_call 46
  refine (crd w.drew (H.out.drewN 1)).mono ?_
  rintro e w1 ⟨A1, c1, rfl, hkc, hcm, ho1, hb1⟩
  have hb0 : Below w.heap.size w w1 := ((Below.refl w.heap.size w).drew).trans hb1
  have H1 := Lib.hid (H.out.step hb0)
  have HR := Lib.hid (And.intro (Reads.of_own ho1) (And.intro hb0 (And.intro hkc hcm)))
  clear ho1 hb1 hb0 hkc hcm
  have HS1 : w1.cell? ⟨g, 2, none⟩ = some (.int .i64 (a : Int)) ∧ w1.cell? ⟨g, 3, none⟩ = some (.int .i64 (b : Int)) := ⟨(H1.out.blk.get 2).trans ((H.out.blk.get 2).symm.trans HS.1), (H1.out.blk.get 3).trans ((H.out.blk.get 3).symm.trans HS.2)⟩
  refine hK.out _ _ (fun _ _ => HS1) ?_
  clear HS
  have HS := HS1
  try simp only [Act.put, List.setIfInBounds_toArray, List.set_cons_zero, List.set_cons_succ]
  clear hK K
  refine till_one (i := 12) _ (by kernel_rfl) rfl rfl (fun K hK => ?_)
  go_simp
  refine hK.out _ _ (fun _ _ => HS) ?_
  try simp only [Act.put, List.setIfInBounds_toArray, List.set_cons_zero, List.set_cons_succ]
  clear hK K
  refine till_take (i := 13) _ (.slice A1 k c1) [15, 13] rfl (by kernel_rfl) (by kernel_rfl) (by kernel_rfl) (by kernel_rfl) (fun _ _ _ h => h) (.inl ⟨by rfl, fun w' hS => ?_⟩) HS ?_
  · obtain ⟨x0, x1⟩ := hS; go_simp
  try simp only [Act.put, List.setIfInBounds_toArray]
  refine till_take (i := 14) _ (.int .i64 0) [14] rfl (by kernel_rfl) (by kernel_rfl) (by kernel_rfl) (by kernel_rfl) (fun _ _ _ h => h) (.inl ⟨by rfl, fun w' hS => ?_⟩) HS ?_
  · obtain ⟨x0, x1⟩ := hS; go_simp
  try simp only [Act.put]
  refine till_one (i := 15) _ (by kernel_rfl) rfl rfl (fun K hK => ?_)
  go_simp
  refine hK.out _ _ (fun _ _ => HS) ?_
  try simp only [Act.put, List.setIfInBounds_toArray, List.set_cons_zero, List.set_cons_succ]
  clear hK K
  refine till_one (i := 16) _ (by kernel_rfl) rfl rfl (fun K hK => ?_)
  go_simp
  refine hK.out _ _ (fun h => absurd rfl h) ?_
  try simp only [Act.put, List.setIfInBounds_toArray, List.set_cons_zero, List.set_cons_succ]
  clear hK K
  refine till_done (by kernel_rfl) ?_
  clear q0 q1 q2 q3
  have hk1 : k * 16 ≤ 140737488355328 := by omega
  have q8 := H1.out.blk.im
  have qf := H1.out.blk.f
  have cch := changed_any A1 v.I k c1 v.i v.ic (readL d a k) img w1 HR.out.1 H1.out.im hk1 H1.out.hi
  rw [← HPE.out] at cch
  go_wp2_with fail
  refine cch.mono ?_
  rintro e w2 ⟨P, kc, rfl, hp2, hb2⟩
  have H2 := Lib.hid (H1.out.step hb2)
  have hg2 := H2.out.blk.lt
  have C0 : Hid (CInv w g v P pl.length kc pl img none 0 0 (w2.setCell ⟨g, 10, none⟩ (.slice P pl.length kc))) := Lib.hid (by
    have e1 := H2.out.blk.pls P pl.length kc
    have e2 : { v with P := P, k := pl.length, kc := kc } = ({ v with P := P, k := pl.length, kc := kc, L := none, j := 0, jc := 0 } : WV) := by
      obtain ⟨hL, hj, hjc⟩ := HV.out.1
      cases v
      simp_all
    rw [e2] at e1
    have hpr := own_base hp2 HR.out.2.1.size
    exact ⟨e1, own_far hpr (a := ⟨g, 10, none⟩) (fun e => by have := own_row_ge hpr g e; omega) _, own_nil, grown_trans (grown_of_below (HR.out.2.1.trans (hb2.mono HR.out.2.1.size)) _) (grown_set _ _ _ _)⟩)
  have qf2 := H2.out.blk.f
  have q10 := H2.out.blk.pl
  clear q8 qf cch hb2 hp2
  have qf3 := C0.out.blk.f
  go_upto_region 4 with fail
  generalize w2.setCell ⟨g, 10, none⟩ (.slice P pl.length kc) = W3 at C0 qf3 ⊢
  obtain ⟨y0, y1, y2, y3⟩ := C0.out.blk.p
  have y10 := C0.out.blk.pl
  replace y1 : W3.cell? ⟨g, 1, none⟩ = some (.int .i64 (s1 : Int)) := by rw [← HV.out.2.1]; exact y1
  replace y2 : W3.cell? ⟨g, 2, none⟩ = some (.int .i64 (a : Int)) := by rw [← HV.out.2.2.1]; exact y2
  replace y10 : W3.cell? ⟨g, 10, none⟩ = some (.slice P pl.length kc) := y10
  have hsub : (a : Int) - (s1 : Int) = (lg : Int) := by omega
  clear qf2 q10 y0 y3
  by_cases hbig : lg < pl.length
  · have hb' : (lg : Int) < (pl.length : Int) := by omega
    go_quiet (fail)
    go_wp2
    go_ret
    refine ⟨_, ⟨P, pl.length, kc, none, 0, 0, rfl⟩, grown_trans C0.out.gr (grown_drewN _ nq _), .inl ⟨by first | exact Lib.hid hbig | exact Lib.hid trivial, rfl, C0.out.blk, ?_⟩⟩
    have hw := (C0.out.wk H.out (by omega)).drewN nq
    rw [List.take_zero] at hw
    exact hw
  · have hb' : ¬ (lg : Int) < (pl.length : Int) := by omega
    obtain ⟨n, hn⟩ : ∃ n, n = pl.length := ⟨_, rfl⟩
    rw [← hn] at hb' y10 hbig
    rw [← hn] at C0
    have HN := Lib.hid hn
    have hn5 : n ≤ 512 := by have := HPL.out.2; omega
    have HBIG : Hid (n ≤ lg) := Lib.hid (by omega)
    clear hn
    go_quiet (fail)
    have C1 : Hid (CInv w g v P n kc pl img none 0 0 (W3.drewN nq)) := Lib.hid (C0.out.drewN nq)
    clear C0 y1 y2 y10
    generalize W3.drewN nq = W4 at C1 ⊢
    have y10 := C1.out.blk.pl
    replace y10 : W4.cell? ⟨g, 10, none⟩ = some (.slice P n kc) := y10
    go_wp2
    go_loopg [56] n (fun gk s56 wr => ∃ (i : Nat) (A2 : Option Addr) (c2 : Nat), i ≤ n ∧ n - i ≤ gk ∧ s56 = .int .i64 i ∧ Hid (CInv w g v P n kc pl img A2 c2 i wr))
    case atStart => exact ⟨0, none, 0, Nat.zero_le _, by omega, rfl, C1⟩
    case round =>
      obtain ⟨i, A2, c2, hi2, hg, rfl, J⟩ := hrel
      by_cases hlt : i < n
      · have hin : (i : Int) < (n : Int) := by omega
        have hil : i < pl.length := by rw [← HN.out]; exact hlt
        obtain ⟨b1, o1, rfl, _, g1⟩ := (Reads.of_own J.out.pr).nat hlt
        have hx := getD_lt HPL.out.1 hil
        have z11 := J.out.blk.bl
        have z8 := J.out.blk.im
        replace z11 : wr.cell? ⟨g, 11, none⟩ = some (.slice A2 i c2) := z11
        replace z8 : wr.cell? ⟨g, 8, none⟩ = some (.slice v.I v.i v.ic) := z8
        have zf := J.out.blk.f
        have him : pl.getD i 0 < v.i := by rw [← hii, hi]; exact hx
        obtain ⟨b2, o2, hI, _, g2⟩ := (H.out.imgr J.out.gr).str him
        rw [hI] at z8
        have JS := Lib.hid (show w.heap.size ≤ wr.heap.size from J.out.gr.size)
        have HI2 := Lib.hid hI
        have HB2 : Hid (b2 < w.heap.size) := Lib.hid (by
          obtain ⟨b3, o3, hI3, hb3, _⟩ := H.out.im.str him
          rw [hI] at hI3
          simp only [Option.some.injEq, Addr.mk.injEq, and_true] at hI3
          rw [hI3.1]; exact hb3)
        have HB := Lib.hid (fun (W W' : World) (A6 : Option Addr) (c6 : Nat) (hC : CInv w g v (some ⟨b1, o1, none⟩) n kc pl img A2 c2 i W) ho hg2 => CInv.put (A6 := A6) (c6 := c6) (W' := W') hC hgl hil ho hg2)
        generalize hpx : pl.getD i 0 = x at g1 hx him g2 HB
        generalize blk img x = s at g2 HB
        have hxi : (x : Int) < (v.i : Int) := by omega
        clear hpx hI
        go_upto_region 10 with fail
        refine wp_region_till (fun w' => w'.cell? ⟨g, 11, none⟩ = some (.slice A2 i c2) ∧ w'.cell? ⟨g, 8, none⟩ = some (.slice (some ⟨b2, o2, none⟩) v.i v.ic) ∧ w'.cell? ⟨b2, o2 + x, none⟩ = some (.string s)) 16 17 hmx (by kernel_rfl) ?_
        have HS : (wr.drew).cell? ⟨g, 11, none⟩ = some (.slice A2 i c2) ∧ (wr.drew).cell? ⟨g, 8, none⟩ = some (.slice (some ⟨b2, o2, none⟩) v.i v.ic) ∧ (wr.drew).cell? ⟨b2, o2 + x, none⟩ = some (.string s) := ⟨z11, z8, g2⟩
        clear z11 z8 g2 g1
        refine till_take (i := 0) _ (.pointer (some ⟨g, 0, none⟩)) [15, 14, 0] rfl (by kernel_rfl) (by kernel_rfl) (by kernel_rfl) (by kernel_rfl) (fun _ _ _ h => h) (.inl ⟨by rfl, fun w' hS => ?_⟩) HS ?_
        · obtain ⟨x0, x1, x2⟩ := hS; go_simp
        try simp only [Act.put, List.setIfInBounds_toArray]
        refine till_take (i := 1) _ (.pointer (some ⟨g, 0, none⟩)) [13, 4, 3, 2, 1] rfl (by kernel_rfl) (by kernel_rfl) (by kernel_rfl) (by kernel_rfl) (fun _ _ _ h => h) (.inl ⟨by rfl, fun w' hS => ?_⟩) HS ?_
        · obtain ⟨x0, x1, x2⟩ := hS; go_simp
        try simp only [Act.put]
        refine till_take (i := 2) _ (.pointer (some ⟨g, 0, none⟩)) [13, 4, 3, 2] rfl (by kernel_rfl) (by kernel_rfl) (by kernel_rfl) (by kernel_rfl) (fun _ _ _ h => h) (.inl ⟨by rfl, fun w' hS => ?_⟩) HS ?_
        · obtain ⟨x0, x1, x2⟩ := hS; go_simp
        try simp only [Act.put]
        refine till_take (i := 3) _ (.pointer (some ⟨g, 11, none⟩)) [13, 4, 3] rfl (by kernel_rfl) (by kernel_rfl) (by kernel_rfl) (by kernel_rfl) (fun _ _ _ h => h) (.inl ⟨by rfl, fun w' hS => ?_⟩) HS ?_
        · obtain ⟨x0, x1, x2⟩ := hS; go_simp
        try simp only [Act.put]
        refine till_take (i := 4) _ (.slice A2 i c2) [13, 4] rfl (by kernel_rfl) (by kernel_rfl) (by kernel_rfl) (by kernel_rfl) (fun _ _ _ h => h) (.inl ⟨by rfl, fun w' hS => ?_⟩) HS ?_
        · obtain ⟨x0, x1, x2⟩ := hS; go_simp
        try simp only [Act.put]
        refine till_take (i := 5) _ (.pointer (some ⟨g, 0, none⟩)) [13, 12, 11, 10, 8, 7, 6, 5] rfl (by kernel_rfl) (by kernel_rfl) (by kernel_rfl) (by kernel_rfl) (fun _ _ _ h => h) (.inl ⟨by rfl, fun w' hS => ?_⟩) HS ?_
        · obtain ⟨x0, x1, x2⟩ := hS; go_simp
        try simp only [Act.put]
        refine till_take (i := 6) _ (.pointer (some ⟨g, 0, none⟩)) [13, 12, 11, 10, 8, 7, 6] rfl (by kernel_rfl) (by kernel_rfl) (by kernel_rfl) (by kernel_rfl) (fun _ _ _ h => h) (.inl ⟨by rfl, fun w' hS => ?_⟩) HS ?_
        · obtain ⟨x0, x1, x2⟩ := hS; go_simp
        try simp only [Act.put]
        refine till_take (i := 7) _ (.pointer (some ⟨g, 8, none⟩)) [13, 12, 11, 10, 8, 7] rfl (by kernel_rfl) (by kernel_rfl) (by kernel_rfl) (by kernel_rfl) (fun _ _ _ h => h) (.inl ⟨by rfl, fun w' hS => ?_⟩) HS ?_
        · obtain ⟨x0, x1, x2⟩ := hS; go_simp
        try simp only [Act.put]
        refine till_take (i := 8) _ (.slice (some ⟨b2, o2, none⟩) v.i v.ic) [13, 12, 11, 10, 8] rfl (by kernel_rfl) (by kernel_rfl) (by kernel_rfl) (by kernel_rfl) (fun _ _ _ h => h) (.inl ⟨by rfl, fun w' hS => ?_⟩) HS ?_
        · obtain ⟨x0, x1, x2⟩ := hS; go_simp
        try simp only [Act.put]
        refine till_take (i := 9) _ (.int .i64 (x : Int)) [13, 12, 11, 10, 9] rfl (by kernel_rfl) (by kernel_rfl) (by kernel_rfl) (by kernel_rfl) (fun _ _ _ h => h) (.inl ⟨by rfl, fun w' hS => ?_⟩) HS ?_
        · obtain ⟨x0, x1, x2⟩ := hS; go_simp
        try simp only [Act.put]
        refine till_take (i := 10) _ (.pointer (some ⟨b2, o2 + x, none⟩)) [13, 12, 11, 10] rfl (by kernel_rfl) (by kernel_rfl) (by kernel_rfl) (by kernel_rfl) (fun _ _ _ h => h) (.inl ⟨by rfl, fun w' hS => ?_⟩) HS ?_
        · obtain ⟨x0, x1, x2⟩ := hS; go_simp
        try simp only [Act.put]
        refine till_take (i := 11) _ (.string s) [13, 12, 11] rfl (by kernel_rfl) (by kernel_rfl) (by kernel_rfl) (by kernel_rfl) (fun _ _ _ h => h) (.inl ⟨by rfl, fun w' hS => ?_⟩) HS ?_
        · obtain ⟨x0, x1, x2⟩ := hS; go_simp
        try simp only [Act.put]
        refine till_one (i := 12) _ (by kernel_rfl) rfl rfl (fun K hK => ?_)
        go_simp
        have C5 := Lib.hid (J.out.step (((Below.refl wr.heap.size wr).drew).alloc (Nat.le_refl _) (.cells #[.string s] 9)))
        have HS5 : (wr.drew.alloc (.cells #[.string s] 9)).cell? ⟨g, 11, none⟩ = some (.slice A2 i c2) ∧ (wr.drew.alloc (.cells #[.string s] 9)).cell? ⟨g, 8, none⟩ = some (.slice (some ⟨b2, o2, none⟩) v.i v.ic) ∧ (wr.drew.alloc (.cells #[.string s] 9)).cell? ⟨b2, o2 + x, none⟩ = some (.string s) := ⟨C5.out.blk.bl, C5.out.blk.im.trans (by rw [HI2.out]), (World.cell?_of_block (a := ⟨b2, o2 + x, none⟩) (Below.heap_alloc wr.drew _ b2 (by have := JS.out; have := HB2.out; show b2 < wr.heap.size; omega))).trans HS.2.2⟩
        refine hK.out _ _ (fun _ _ => HS5) ?_
        try simp only [Act.put, List.setIfInBounds_toArray, List.set_cons_zero, List.set_cons_succ]
        clear hK K
        refine till_one (i := 13) _ (by kernel_rfl) rfl rfl (fun K hK => ?_)
        refine op_append_reads _ (.tmp 64) (.tmp 72) 22 rfl w.heap.size 9 i0 _ 1 16 Try.underlying22 hi0 hz0 hz1 hz2 rfl (by omega) (.slice A2 i c2) i (encS ((pl.take i).map (blk img))) rfl C5.out.lr _ (some ⟨wr.heap.size, 0, none⟩) 1 1 [.string s] rfl (reads_new wr.drew #[.string s] 9 1 1 rfl) (by simp [Value.oneCell']) (by simp only [maxLen]; omega) (by omega) (by have := JS.out; simp; omega) ?_
        intro A6 c6 w6 ho6 hg6 _
        have P6 := Lib.hid (And.intro (HB.out _ _ _ _ C5.out ho6 hg6) (C5.out.blk.kept hg6 (fun e => by have := own_row_ge C5.out.lr g e.symm; omega)))
        have HS6 : w6.cell? ⟨g, 11, none⟩ = some (.slice A2 i c2) ∧ w6.cell? ⟨g, 8, none⟩ = some (.slice (some ⟨b2, o2, none⟩) v.i v.ic) ∧ w6.cell? ⟨b2, o2 + x, none⟩ = some (.string s) := ⟨P6.out.2.bl, P6.out.2.im.trans (by rw [HI2.out]), (World.cell?_of_block (a := ⟨b2, o2 + x, none⟩) (hg6.block b2 (by have := JS.out; have := HB2.out; simp; omega) (fun e => by have := own_row_ge C5.out.lr b2 e.symm; have := HB2.out; omega))).trans HS5.2.2⟩
        have f6 := P6.out.2.f 11
        have c6' := P6.out.2.bl
        clear ho6 hg6 HS HS5
        refine hK.out _ _ (fun _ _ => HS6) ?_
        try simp only [Act.put, List.setIfInBounds_toArray]
        clear hK K
        refine till_one (i := 14) _ (by kernel_rfl) rfl rfl (fun K hK => ?_)
        go_simp
        refine hK.out _ _ (fun _ _ => HS6) ?_
        try simp only [Act.put, List.setIfInBounds_toArray, List.set_cons_zero, List.set_cons_succ]
        clear hK K
        refine till_one (i := 15) _ (by kernel_rfl) rfl rfl (fun K hK => ?_)
        go_simp
        refine hK.out _ _ (fun _ _ => HS6) ?_
        try simp only [Act.put, List.setIfInBounds_toArray, List.set_cons_zero, List.set_cons_succ]
        clear hK K
        refine till_one (i := 16) _ (by kernel_rfl) rfl rfl (fun K hK => ?_)
        go_simp
        refine hK.out _ _ (fun h => absurd rfl h) ?_
        try simp only [Act.put, List.setIfInBounds_toArray, List.set_cons_zero, List.set_cons_succ]
        clear hK K
        refine till_done (by kernel_rfl) ?_
        go_wp2
        go_roundg (n - (i + 1))
        case measure => omega
        case rel => exact ⟨i + 1, A6, c6, by omega, by omega, by go_num, Lib.hid P6.out.1⟩
      · have hni : i = n := by omega
        subst hni
        go_wp2
        go_ret
        have hw := J.out.wk H.out (by omega)
        have ht : pl.take i = pl := List.take_of_length_le (by rw [HN.out]; exact Nat.le_refl _)
        rw [ht] at hw
        exact ⟨_, ⟨P, i, kc, A2, i, c2, rfl⟩, J.out.gr, .inr ⟨by first | exact Lib.hid (by rw [← HN.out]; exact HBIG.out) | exact Lib.hid trivial, rfl, hw⟩⟩

end Go.Proofs.Ytlpijikhbjkmfaa

/-
  The work on a device is begun, in memory of its own; and steps are done one after another, up to the first that fails: the program's functions.
-/
namespace Go.Proofs.Ytlpijikhbjkmfaa
open Go.RowKit

def beginV (p : Int × Int × Int × Int) (A : Option Addr) (n c : Nat) (A' : Option Addr) (m c' : Nat) (d : D) : WV := ⟨p.1, p.2.1, p.2.2.1, p.2.2.2, A, n, c, A', m, c', d.left, d.dead, none, 0, 0, 0, none, 0, 0, none, 0, 0, false⟩

set_option maxRecDepth 100000 in
set_option maxHeartbeats 1500000 in
theorem begin_any (A A' : Option Addr) (n c m c' : Nat) (d : D) (x y : Int) (w : World) (h : Dv w w.heap.size A n A' m d) :
    Calls Try.prog 19 #[.agg #[.slice A n c, .slice A' m c', .int .i64 d.left, .bool d.dead], .int .i64 x, .int .i64 y] w fun e w' => ∃ g A2 c2 A2' c2', e = .returned (.pointer (some ⟨g, 0, none⟩)) ∧ w.heap.size ≤ g ∧ Wk w' g (beginV (layV x y) A2 n c2 A2' m c2' d) d [] [] [] ∧ Below w.heap.size w w' := by
  have hmx : Try.prog.follows .mixedOrders = true := by kernel_rfl
  have H := Lib.hid h; clear h
  have cl := fun W => lay_any x y W
  generalize layV x y = p at cl ⊢
  obtain ⟨p0, p1, p2, p3⟩ := p
  unfold layA at cl
  dsimp only at cl
  go_enter Try.func19, Try.ntmps19
  go_wp2_with fail
  refine (cloneS_any A n c d.bs _ ((H.out.alloc _).bs) H.out.hn).mono ?_
  rintro e w1 ⟨A2, c2, rfl, ho1, hb1⟩
  have k1 := (B4.new w (.slice A n c) (.slice A' m c') (.int .i64 d.left) (.bool d.dead)).step hb1
  have hB1 : Below w.heap.size w w1 := (alloc_below0 w _).trans (hb1.mono (by simp))
  have K1 := Lib.hid k1
  obtain ⟨x0, x1, x2, x3, xf⟩ := k1.cells
  clear k1
  go_wp2_with fail
  refine (cloneW_any A' m c' d.cs _ (H.out.cs.step (hB1.setCell (p := ⟨w.heap.size, 0, none⟩) (Nat.le_refl _) _)) H.out.hm).mono ?_
  rintro e w2 ⟨A2', c2', rfl, ho2, hb2⟩
  have k2 := (K1.out.set0 (.slice A2 n c2)).step hb2
  have hB2 := (hB1.setCell (p := ⟨w.heap.size, 0, none⟩) (Nat.le_refl _) (.slice A2 n c2)).trans (hb2.mono (by have := hB1.size; simp; omega))
  have K2 := Lib.hid k2
  clear x0 x1 x2 x3 xf K1
  obtain ⟨x0, x1, x2, x3, xf⟩ := k2.cells
  clear k2
  have o1 : w1.ownsRow (w.heap.size + 1) 9 1 (.slice A2 n c2) n (encS d.bs) := own_base ho1 (by simp)
  have o2 : w2.ownsRow (w.heap.size + 1) 53 2 (.slice A2' m c2') m (encW d.cs) := own_base ho2 (by have := hb1.size; simp at this ⊢; omega)
  have o3 := own_below (ownsRow_setCell_below o1 (a := ⟨w.heap.size, 0, none⟩) (by simp) (.slice A2 n c2)) hb2
  have O3 := Lib.hid (ownsRow_setCell_below o3 (a := ⟨w.heap.size, 1, none⟩) (by simp) (.slice A2' m c2'))
  have O2 := Lib.hid (ownsRow_setCell_below o2 (a := ⟨w.heap.size, 1, none⟩) (by simp) (.slice A2' m c2'))
  have K3 := Lib.hid (K2.out.set1 (.slice A2' m c2'))
  have HB3 := Lib.hid (hB2.setCell (p := ⟨w.heap.size, 1, none⟩) (Nat.le_refl _) (.slice A2' m c2'))
  clear o1 o2 o3 ho1 ho2 hb1 hb2 hB1 hB2 K2
  go_upto_region 3 with fail
  generalize w2.setCell ⟨w.heap.size, 1, none⟩ (.slice A2' m c2') = w3 at O3 O2 K3 HB3 ⊢
  clear x0 x1 x2 x3 xf
  refine wp_region_till (fun w' => B4 w' w.heap.size (.slice A2 n c2) (.slice A2' m c2') (.int .i64 d.left) (.bool d.dead)) 5 7 hmx (by kernel_rfl) ?_
  have HS : B4 w3.drew w.heap.size (.slice A2 n c2) (.slice A2' m c2') (.int .i64 d.left) (.bool d.dead) := K3.out
  refine till_take (i := 0) _ (.int .i64 x) [4, 2, 0] rfl (by kernel_rfl) (by kernel_rfl) (by kernel_rfl) (by kernel_rfl) (fun _ _ _ h => h) (.inl ⟨by rfl, fun w' hS => ?_⟩) HS ?_
  · obtain ⟨x0, x1, x2, x3, xf⟩ := hS.cells; go_simp
  try simp only [Act.put, List.setIfInBounds_toArray]
  refine till_take (i := 1) _ (.int .i64 y) [4, 2, 1] rfl (by kernel_rfl) (by kernel_rfl) (by kernel_rfl) (by kernel_rfl) (fun _ _ _ h => h) (.inl ⟨by rfl, fun w' hS => ?_⟩) HS ?_
  · obtain ⟨x0, x1, x2, x3, xf⟩ := hS.cells; go_simp
  try simp only [Act.put]
  refine till_take (i := 3) _ (.agg #[.slice A2 n c2, .slice A2' m c2', .int .i64 d.left, .bool d.dead]) [4, 3] rfl (by kernel_rfl) (by kernel_rfl) (by kernel_rfl) (by kernel_rfl) (fun _ _ _ h => h) (.inl ⟨by rfl, fun w' hS => ?_⟩) HS ?_
  · obtain ⟨x0, x1, x2, x3, xf⟩ := hS.cells; go_simp
  try simp only [Act.put]
  refine till_one (i := 2) _ (by kernel_rfl) rfl rfl (fun K hK => ?_)
  go_simp
  go_at_call 50
  refine (cl _).mono ?_
  rintro e w4 ⟨rfl, hb4⟩
  have hb4' : Below w3.heap.size w3 w4 := ((Below.refl w3.heap.size w3).drew).trans hb4
  have HS4 := HS.step hb4
  refine hK.out _ _ (fun _ _ => HS4) ?_
  clear HS
  try simp only [Act.put, List.setIfInBounds_toArray, List.set_cons_zero, List.set_cons_succ]
  clear hK K
  refine till_one (i := 4) _ (by kernel_rfl) rfl rfl (fun K hK => ?_)
  go_simp
  refine hK.out _ _ (fun _ _ => HS4) ?_
  try simp only [Act.put, List.setIfInBounds_toArray, List.set_cons_zero, List.set_cons_succ]
  clear hK K
  refine till_one (i := 5) _ (by kernel_rfl) rfl rfl (fun K hK => ?_)
  go_simp
  refine hK.out _ _ (fun h => absurd rfl h) ?_
  try simp only [Act.put, List.setIfInBounds_toArray, List.set_cons_zero, List.set_cons_succ]
  clear hK K
  refine till_one (i := 6) _ (by kernel_rfl) rfl rfl (fun K hK => ?_)
  go_simp
  refine hK.out _ _ (fun _ h => by cases h) ?_
  try simp only [Act.put, List.setIfInBounds_toArray, List.set_cons_zero, List.set_cons_succ]
  clear hK K
  refine till_done (by kernel_rfl) ?_
  go_wp2
  go_ret
  have hbn : Below w4.heap.size w4 (w4.alloc (.cells (beginV (p0, p1, p2, p3) A2 n c2 A2' m c2' d).cells 61)) := alloc_below0 w4 _
  have o3 := own_below (own_below O3.out hb4') hbn
  have o2 := own_below (own_below O2.out hb4') hbn
  refine ⟨w4.heap.size, A2, c2, A2', c2', rfl, Nat.le_trans HB3.out.size hb4'.size, ⟨heap_alloc_new w4 _, ⟨Reads.of_own o3, Reads.of_own o2, H.out.hn, H.out.hm⟩, rfl, rfl, Reads.nil, (by show 0 * 16 ≤ _; omega), Reads.nil, fun h => absurd h (Nat.lt_irrefl 0), ⟨Nat.le_refl _, (by show 0 ≤ _; omega)⟩, Reads.nil, ⟨Nat.le_refl _, (by show 0 * 16 ≤ _; omega)⟩⟩, (HB3.out.trans (hb4'.mono HB3.out.size)).trans (hbn.mono (Nat.le_trans HB3.out.size hb4'.size))⟩


/-- A row of steps in memory. -/
def Rows (w : World) (A : Option Addr) (n : Nat) (fs : List Value) : Prop := fs.length = n ∧ (0 < n → ∃ b o, A = some ⟨b, o, none⟩ ∧ ∀ j u, fs[j]? = some u → w.cell? ⟨b, o + j, none⟩ = some u)

set_option maxRecDepth 100000 in
set_option maxHeartbeats 1500000 in
/-- The first that fails, or the last: I k: k of them have been done. -/
theorem run_any (A : Option Addr) (n c : Nat) (fs : List (Nat × Nat)) (hfl : fs.length = n) (hn : n ≤ 1000) (I : Nat → World → Prop) (Q : Int → World → Prop)
    (hmem : ∀ k W, I k W → ∀ j p, fs[j]? = some p → ∃ b o, A = some ⟨b, o, none⟩ ∧ W.cell? ⟨b, o + j, none⟩ = some (.func (.func p.1) #[.pointer (some ⟨p.2, 0, none⟩)] #[]))
    (eg : ∀ p ∈ fs, ∀ args w, (callFunc p.1 args).run Try.prog w = .ok (.enter p.1 args) w)
    (hstep : ∀ k W p, I k W → fs[k]? = some p → Calls Try.prog p.1 #[.pointer (some ⟨p.2, 0, none⟩)] W fun e W' => ∃ x : Int, e = .returned (.int .i64 x) ∧ ((x = 0 ∧ I (k + 1) W') ∨ (x ≠ 0 ∧ Q x W')))
    (w : World) (h0 : I 0 w) :
    Calls Try.prog 20 #[.slice A n c] w fun e W' => ∃ x : Int, e = .returned (.int .i64 x) ∧ ((x = 0 ∧ I n W') ∨ (x ≠ 0 ∧ Q x W')) := by
  have HM := Lib.hid hmem
  have HE := Lib.hid eg
  have HS := Lib.hid hstep
  clear hmem eg hstep
  go_enter Try.func20, Try.ntmps20
  go_wp2
  go_step3
  go_wp2
  go_step3
  go_wp2
  go_loopg [3, 8] n (fun gk s3 s8 wr => ∃ k : Nat, k ≤ n ∧ n - k ≤ gk ∧ s8 = .int .i64 k ∧ s3 = .int .i64 0 ∧ Hid (I k wr))
  case atStart => exact ⟨0, Nat.zero_le _, by omega, rfl, rfl, Lib.hid h0⟩
  case round =>
    obtain ⟨k, hk, hg, rfl, rfl, J⟩ := hrel
    by_cases hlt : k < n
    · have hin : (k : Int) < (n : Int) := by omega
      obtain ⟨p, hp⟩ : ∃ p, fs[k]? = some p := ⟨_, List.getElem?_eq_getElem (by omega)⟩
      obtain ⟨b1, o1, rfl, g1⟩ := HM.out k wr J.out k p hp
      have e1 := HE.out p (List.mem_of_getElem? hp)
      have cs := HS.out k wr p J.out hp
      clear h0
      go_wp2_with fail
      refine cs.mono ?_
      rintro e w3 ⟨x, rfl, hx⟩
      by_cases h0 : x = 0
      · subst h0
        have hx' : ((0 : Int) != 0) = false := rfl
        have J3 : Hid (I (k + 1) w3) := Lib.hid (by rcases hx with ⟨_, h⟩ | ⟨h, _⟩; exact h; exact absurd rfl h)
        clear hx
        go_wp2
        go_roundg (n - (k + 1))
        case measure => omega
        case rel => exact ⟨k + 1, by omega, by omega, by go_num, rfl, J3⟩
      · have hx' : (x != 0) = true := by simpa using h0
        have J3 : Hid (x ≠ 0 ∧ Q x w3) := Lib.hid (by rcases hx with ⟨h, _⟩ | h; exact absurd h h0; exact h)
        clear hx h0
        go_wp2
        first | (rw [Exit.noGoto_ret]; go_ret) | go_ret
        exact ⟨x, rfl, .inr J3.out⟩
    · have hkn : k = n := by omega
      subst hkn
      go_wp2
      first | (rw [Exit.noGoto_ret]; go_ret) | go_ret
      exact ⟨0, rfl, .inl ⟨rfl, J.out⟩⟩

end Go.Proofs.Ytlpijikhbjkmfaa
