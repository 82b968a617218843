/-
  Blocks written one after another, up to the first that the device refuses: the program's method, over whatever iterator hands them out.
-/
import Derived.Test.YtlpijikhbjkmfaaG20
import Derived.Test.YtlpijikhbjkmfaaG18
namespace Go.Proofs.Ytlpijikhbjkmfaa
open Go.RowKit Go.Shelf
attribute [local go_sem] Oper.semAt_some

theorem Reads.keptRow {X Y : World} {size n : Nat} {A : Option Addr} {xs : List Value} (h : Reads X X.heap.size size A n xs) (_hs : 0 < size) {row : Option Nat} (hg : X.grownBy Y row) (hr : ∀ r, row = some r → ∃ o : Obj, X.heap[r]? = some o ∧ o.isCells = false) : Reads Y Y.heap.size size A n xs :=
  ⟨h.1, fun hn => by
    obtain ⟨b, o, e, hb, hc⟩ := h.2 hn
    exact ⟨b, o, e, Nat.lt_of_lt_of_le hb hg.size, fun j u hu => cell_kept (hc j u hu) hg hr⟩⟩
theorem Wk.kept {X Y : World} {g : Nat} {v : WV} {d : D} {img bl : List ByteArray} {pl : List Nat} (h : Wk X g v d img pl bl) {row : Option Nat} (hg : X.grownBy Y row) (hr : ∀ r, row = some r → ∃ o : Obj, X.heap[r]? = some o ∧ o.isCells = false) : Wk Y g v d img pl bl := by
  refine ⟨h.blk.kept hg (fun e => ?_), ⟨h.dv.bs.keptRow (by omega) hg hr, h.dv.cs.keptRow (by omega) hg hr, h.dv.hn, h.dv.hm⟩, h.hl, h.hz, h.im.keptRow (by omega) hg hr, h.hi, h.pl.keptRow (by omega) hg hr, h.far, h.hk, h.bl.keptRow (by omega) hg hr, h.hj⟩
  obtain ⟨o, ho, hc⟩ := hr g e.symm
  have hb : X.heap[g]? = _ := h.blk
  rw [hb] at ho
  injection ho with ho
  rw [← ho] at hc
  cases hc
theorem grown_row {w X Y : World} {g : Nat} (h : w.grownBy X (some g)) {row : Option Nat} (hg : X.grownBy Y row) {B : Nat} (hB : w.heap.size ≤ B) (hr : ∀ r, row = some r → B ≤ r) : w.grownBy Y (some g) :=
  ⟨hg.os.trans h.os, hg.tape.trans h.tape, hg.output.trans h.output, Nat.le_trans h.size hg.size, fun k hk hne => (hg.block k (Nat.lt_of_lt_of_le hk h.size) (fun e => by have := hr k e.symm; omega)).trans (h.block k hk hne)⟩
theorem ndev_cells {v v' : WV} (h : Ndev v v') (i : Nat) (hi : i < 4 ∨ 7 < i) : v'.cells[i]? = v.cells[i]? := by
  obtain ⟨A, n, c1, A', m, c', l, z, rfl⟩ := h
  by_cases h13 : i < 13
  · have : i = 0 ∨ i = 1 ∨ i = 2 ∨ i = 3 ∨ i = 8 ∨ i = 9 ∨ i = 10 ∨ i = 11 ∨ i = 12 := by omega
    rcases this with rfl | rfl | rfl | rfl | rfl | rfl | rfl | rfl | rfl <;> rfl
  · rw [Array.getElem?_eq_none (by simp [WV.cells]; omega), Array.getElem?_eq_none (by simp [WV.cells]; omega)]
theorem kpG_of {A B : World} {g n₁ : Nat} {v v' : WV} (hg : A.grownBy B (some g)) (hn : n₁ ≤ A.heap.size) (hgn : g < A.heap.size) (h1 : W13 A g v) (h2 : W13 B g v') (hv : Ndev v v') : KpG g n₁ A B :=
  ⟨⟨hg.os, hg.tape, hg.output, hg.size, fun k hk => hg.block k (by omega) (fun e => by injection e; omega)⟩, fun k hk1 hk2 => hg.block k (by omega) (fun e => by injection e; omega), fun i hi => by rw [h1.get, h2.get, ndev_cells hv i hi]⟩

theorem box_get {W : World} {B : Nat} {t : TypeId} {u : Value} (h : Boxed W B t u) (o : Nat) : W.cell? ⟨B, o, none⟩ = (#[u] : Array Value)[o]? := by simp [World.cell?, show W.heap[B]? = _ from h]
theorem far_box {W : World} {B B' n : Nat} {t : TypeId} {k : IntKind} {x : Int} {A : Option Addr} {bs : List ByteArray} (h : Boxed W B t (.int k x)) (hr : Reads W B' 1 A n (encS bs)) (hn : 0 < n) : ∀ ad, A = some ad → ad.block ≠ B := by
  intro ad e hg
  obtain ⟨b, o, e2, _, hc⟩ := hr.str hn
  rw [e2] at e
  injection e with e
  subst e
  dsimp only at hg
  subst hg
  rw [box_get h] at hc
  have := Array.mem_of_getElem? hc
  simp at this
theorem far_boxW {W : World} {B B' n : Nat} {t : TypeId} {k : IntKind} {x : Int} {A : Option Addr} {cs : List (Int × ByteArray)} (h : Boxed W B t (.int k x)) (hr : Reads W B' 2 A n (encW cs)) (hn : 0 < n) : ∀ ad, A = some ad → ad.block ≠ B := by
  intro ad e hg
  obtain ⟨b, o, e2, _, _, hc⟩ := hr.wr hn
  rw [e2] at e
  injection e with e
  subst e
  dsimp only at hg
  subst hg
  rw [box_get h] at hc
  have := Array.mem_of_getElem? hc
  simp at this
theorem Wk.setBox {W : World} {g : Nat} {v : WV} {d : D} {img bl : List ByteArray} {pl : List Nat} (h : Wk W g v d img pl bl) {B : Nat} {t : TypeId} {k : IntKind} {x : Int} (hb : Boxed W B t (.int k x)) (hne : B ≠ g) (hpl : 0 < v.k → ∀ ad, v.P = some ad → ad.block ≠ B) (u : Value) : Wk (W.setCell ⟨B, 0, none⟩ u) g v d img pl bl := by
  have hg := grown_set W B 0 u
  exact ⟨h.blk.kept hg (fun e => hne (by injection e with e; exact e.symm)), ⟨h.dv.bs.grown (_B := 0) (far_box hb h.dv.bs) hg, h.dv.cs.grown (_B := 0) (far_boxW hb h.dv.cs) hg, h.dv.hn, h.dv.hm⟩, h.hl, h.hz, h.im.grown (_B := 0) (far_box hb h.im) hg, h.hi, h.pl.grown (_B := 0) hpl hg, h.far, h.hk, h.bl.grown (_B := 0) (far_box hb h.bl) hg, h.hj⟩
theorem Ndev.pl {v v' : WV} (h : Ndev v v') : v'.P = v.P ∧ v'.k = v.k := by
  obtain ⟨A, n, c1, A', m, c', l, z, rfl⟩ := h
  exact ⟨rfl, rfl⟩
theorem WInv_pl {w0 : World} {g : Nat} {v v' : WV} {d : D} {img bl : List ByteArray} {pl : List Nat} (h : Wk w0 g v d img pl bl) (hv : Ndev v v') : 0 < v'.k → ∀ ad, v'.P = some ad → ad.block ≠ w0.heap.size + 1 := by
  rw [hv.pl.1, hv.pl.2]
  intro hk ad e
  obtain ⟨b, o, e2, hb, _⟩ := h.pl.2 hk
  rw [e2] at e
  injection e with e
  subst e
  dsimp only
  omega

def stepsP (ats : Nat → Int) (dats : Nat → ByteArray) {m : Nat} (pre : List (Fin m)) : List Step := pre.map fun t => Step.put (ats t.val) (dats t.val)
def stepsL (ats : Nat → Int) (dats : Nat → ByteArray) (m : Nat) : List Step := (List.range m).map fun t => Step.put (ats t) (dats t)
theorem stepsP_all (ats : Nat → Int) (dats : Nat → ByteArray) (m : Nat) : stepsP ats dats (upN m m) = stepsL ats dats m := by
  unfold stepsP stepsL
  rw [← upN_vals m m (Nat.le_refl _), List.map_map]; rfl
theorem stepsP_snoc (ats : Nat → Int) (dats : Nat → ByteArray) {m : Nat} (pre : List (Fin m)) (t : Fin m) (x : D × Int) : runD x (stepsP ats dats (pre ++ [t])) = stepD (runD x (stepsP ats dats pre)) (.put (ats t.val) (dats t.val)) := by
  unfold stepsP
  rw [List.map_append, runD_app]; rfl
theorem stepsP_stop (ats : Nat → Int) (dats : Nat → ByteArray) {m k : Nat} (hk : k ≤ m) (x : D × Int) (h : (runD x (stepsP ats dats (upN m k))).2 ≠ 0) : runD x (stepsL ats dats m) = runD x (stepsP ats dats (upN m k)) := by
  have e : stepsL ats dats m = stepsP ats dats (upN m k) ++ ((List.range' k (m - k)).map fun t => Step.put (ats t) (dats t)) := by
    unfold stepsP stepsL
    have h2 := congrArg (List.map fun t => Step.put (ats t) (dats t)) (upN_vals m k hk)
    rw [List.map_map] at h2
    rw [show (upN m k).map (fun t : Fin m => Step.put (ats t.val) (dats t.val)) = (List.range k).map fun t => Step.put (ats t) (dats t) from h2, ← List.map_append]
    congr 1
    have h3 := List.range'_append (s := 0) (m := k) (n := m - k) (step := 1)
    simp only [Nat.zero_add, Nat.one_mul, show k + (m - k) = m by omega] at h3
    rw [List.range_eq_range', List.range_eq_range']
    exact h3.symm
  rw [e, runD_app, runD_err h]
theorem left_run : ∀ (l : List Step) {x : D × Int}, x.1.left ≤ 9223372036854775807 → (runD x l).1.left ≤ 9223372036854775807
  | [], _, h => h
  | s :: l, _, h => left_run l (left_step h s)

/-- Between two rounds. -/
structure WInv (w : World) (g : Nat) (v : WV) (d : D) (img bl : List ByteArray) (pl : List Nat) (S : List Step) (v' : WV) (r : Int) (W : World) : Prop where
  nd : Ndev v v'
  wk : Wk W g v' (runD (d, 0) S).1 img pl bl
  err : (runD (d, 0) S).2 = r
  bp : Boxed W w.heap.size 56 (.pointer (some ⟨g, 0, none⟩))
  br : Boxed W (w.heap.size + 1) 29 (.int .i64 r)
  gr : w.grownBy W (some g)
theorem WInv.kept {w X Y : World} {g : Nat} {v : WV} {d : D} {img bl : List ByteArray} {pl : List Nat} {S : List Step} {v' : WV} {r : Int} (h : WInv w g v d img bl pl S v' r X) {row : Option Nat} (hg : X.grownBy Y row) {B : Nat} (hB : w.heap.size + 2 ≤ B) (hr : ∀ q, row = some q → B ≤ q ∧ ∃ o : Obj, X.heap[q]? = some o ∧ o.isCells = false) : WInv w g v d img bl pl S v' r Y :=
  ⟨h.nd, h.wk.kept hg (fun q e => (hr q e).2), h.err, h.bp.kept hg (fun e => by have := (hr _ e.symm).1; omega), h.br.kept hg (fun e => by have := (hr _ e.symm).1; omega), grown_row h.gr hg (B := B) (by omega) (fun q e => (hr q e).1)⟩
def WriteInv (w : World) (g : Nat) (v : WV) (d : D) (img bl : List ByteArray) (pl : List Nat) (ats : Nat → Int) (dats : Nat → ByteArray) (m : Nat) (pre : List (Fin m)) (W : World) : Prop := ∃ v', WInv w g v d img bl pl (stepsP ats dats pre) v' 0 W
def WriteOut (w : World) (g : Nat) (v : WV) (d : D) (img bl : List ByteArray) (pl : List Nat) (ats : Nat → Int) (dats : Nat → ByteArray) (m : Nat) (c : Code) (pre : List (Fin m)) (W : World) : Prop := c = .ret ∧ ∃ v' r, r ≠ 0 ∧ WInv w g v d img bl pl (stepsP ats dats pre) v' r W

set_option maxRecDepth 100000 in
set_option maxHeartbeats 4000000 in
theorem write_it (w : World) (g : Nat) (v : WV) (d : D) (img bl : List ByteArray) (pl : List Nat) (h : Wk w g v d img pl bl) (hl : d.left ≤ 9223372036854775807) (gf : Nat) (lb : Array Value) (eg : ∀ args w, (callFunc gf args).run Try.prog w = .ok (.enter gf args) w) (m : Nat) (ats : Nat → Int) (dats : Nat → ByteArray)
    (hseq : SeqStopsK Fence.wide 2 Try.prog gf lb (fun t : Fin m => #[.int .i64 (ats t.val), .string (dats t.val)]) (KpG g w.heap.size) (fun ys => ys = upN m m) (fun pre => ∃ k, k ≤ m ∧ pre = upN m k) m w) :
    Calls Try.prog 55 #[.pointer (some ⟨g, 0, none⟩), .func (.func gf) #[] lb] w fun e w' => e = .returned (.int .i64 (runD (d, 0) (stepsL ats dats m)).2) ∧ ∃ v', Ndev v v' ∧ Wk w' g v' (runD (d, 0) (stepsL ats dats m)).1 img pl bl ∧ w.grownBy w' (some g) := by
  have hgl := h.blk.lt
  have H := Lib.hid h
  have HS := Lib.hid hseq
  clear h hseq
  refine (callsIn_wide (n := 3)).1 ?_
  refine callsIn_of_wp_marks Try.func55 rfl trivial ?_ rfl
  refine wpIn_wide.2 ?_
  simp only [Try.ntmps55, List.size_toArray, List.length_cons, List.length_nil, Nat.reduceAdd, Nat.reduceSub, Array.replicate_succ, Array.replicate_zero, List.push_toArray, List.append_toArray, List.nil_append, List.cons_append]
  go_wp2_with fail
  refine (wpIn_wide (n := 3)).1 ?_
  have bp := (Boxed.new w 56 (.pointer (some ⟨g, 0, none⟩))).alloc (.cells #[.int .i64 0] 29)
  have br := Boxed.new (w.alloc (.cells #[.pointer (some ⟨g, 0, none⟩)] 56)) 29 (.int .i64 0)
  simp only [World.size_alloc] at br
  have hB0 : Below w.heap.size w ((w.alloc (.cells #[.pointer (some ⟨g, 0, none⟩)] 56)).alloc (.cells #[.int .i64 0] 29)) := ((Below.refl _ w).alloc (Nat.le_refl _) _).alloc (by simp) _
  refine wpIn_rangeFunc_ownG rfl (by omega) (gf := gf) (lb := lb) rfl trivial eg HS.out KpG.trans (kpG_put (by simp; omega) (by simp; omega)) hB0 (fun _ => rfl)
    (WriteInv w g v d img bl pl ats dats m) (WriteOut w g v d img bl pl ats dats m)
    ?own ?ownx ⟨v, Ndev.refl v, H.out.step hB0, rfl, bp, br, grown_of_below hB0 _⟩
    (fun t => { tmps := #[.pointer (some ⟨g, 0, none⟩), .func (.func gf) #[] lb, .pointer (some ⟨w.heap.size, 0, none⟩), undef, .pointer (some ⟨w.heap.size + 1, 0, none⟩), .int .i64 (ats t.val), .string (dats t.val), undef, undef, .func (.func gf) #[] lb, .int .i64 (ats t.val), .string (dats t.val), undef, undef, undef, undef, undef, undef, undef, undef, undef, undef, undef, undef, undef, undef, undef, undef, undef], defers := [] }) ?assign ?body ?done ?stop
  case own =>
    rintro pre X Y row ⟨v', J⟩ hg hr
    exact ⟨v', J.kept hg (B := w.heap.size + 2) (Nat.le_refl _) (fun q e => by have := hr q e; simpa using this)⟩
  case ownx =>
    rintro c pre X Y row ⟨hc, v', r, h0, J⟩ hg hr
    exact ⟨hc, v', r, h0, J.kept hg (B := w.heap.size + 2) (Nat.le_refl _) (fun q e => by have := hr q e; simpa using this)⟩
  case assign =>
    intro l' t W K hK
    gi_wp2
    exact hK
  case body =>
    rintro l' pre t W ⟨v', J⟩ hlt
    clear hB0 bp br
    have hl2 : (runD (d, 0) (stepsP ats dats pre)).1.left ≤ 9223372036854775807 := left_run _ hl
    have HX : Hid (runD (d, 0) (stepsP ats dats (pre ++ [t])) = writeD (runD (d, 0) (stepsP ats dats pre)).1 (ats t.val) (dats t.val)) := Lib.hid (by rw [stepsP_snoc, stepD_W, if_pos J.err])
    have J0 := Lib.hid J
    obtain ⟨y0, y1, y2, y3⟩ := J.wk.blk.d
    rw [J.wk.hl] at y2
    rw [J.wk.hz] at y3
    have cb := J.bp.cell
    have cw := write_any v'.A v'.A' v'.n v'.c v'.m v'.c' (runD (d, 0) (stepsP ats dats pre)).1 (ats t.val) (dats t.val) W J.wk.dv hl2
    clear hl2 J
    generalize writeD (runD (d, 0) (stepsP ats dats pre)).1 (ats t.val) (dats t.val) = y at cw HX
    obtain ⟨dn, r⟩ := y
    dsimp only at cw
    gi_wp2_with fail
    refine ⟨trivial, (CallsIn.inRound l' (callsIn_wide.2 cw)).mono ?_⟩
    rintro e w1 ⟨A, n, c, A', m', c', rfl, hd1, hb1⟩
    have W1 := Lib.hid (J0.out.wk.step hb1)
    have HD := Lib.hid (And.intro hd1 hb1)
    have B1 : Boxed w1 w.heap.size 56 (.pointer (some ⟨g, 0, none⟩)) := (hb1.block _ J0.out.bp.lt).trans J0.out.bp
    have R1 : Boxed w1 (w.heap.size + 1) 29 (.int .i64 0) := (hb1.block _ J0.out.br.lt).trans J0.out.br
    have cb1 := B1.cell
    have cr1 := R1.cell
    have fr1 := R1.frozen
    have yf := W1.out.blk.f
    obtain ⟨z0, z1, z2, z3⟩ := W1.out.blk.d
    have hg1 : g < w1.heap.size := W1.out.blk.lt
    have hne : w1.heap.size ≠ g := by omega
    have hne2 : w.heap.size + 1 ≠ g := by omega
    have hbr : w.heap.size + 1 < w1.heap.size := R1.lt
    have hbp : w.heap.size < w1.heap.size := B1.lt
    have hbp2 : w1.heap.size ≠ w.heap.size := by omega
    have hbr2 : w1.heap.size ≠ w.heap.size + 1 := by omega
    have P1 := Lib.hid (W1.out.put (c := c) (c' := c') hd1)
    have G1 := Lib.hid (grown_trans (grown_of_below hb1 (some g)) (putW_grown w1 g (.slice A n c) (.slice A' m' c') (.int .i64 dn.left) (.bool dn.dead)))
    have K1 : Hid (KeepsOthers W (putW w1 g (.slice A n c) (.slice A' m' c') (.int .i64 dn.left) (.bool dn.dead))) :=
      Lib.hid (((((keeps_below hb1).trans (KeepsOthers.setCell _ _ _)).trans (KeepsOthers.setCell _ _ _)).trans (KeepsOthers.setCell _ _ _)).trans (KeepsOthers.setCell _ _ _))
    have N2 : Ndev v { v' with A := A, n := n, c := c, A' := A', m := m', c' := c', l := dn.left, z := dn.dead } := J0.out.nd.trans ⟨A, n, c, A', m', c', dn.left, dn.dead, rfl⟩
    have BP2 : Boxed (putW w1 g (.slice A n c) (.slice A' m' c') (.int .i64 dn.left) (.bool dn.dead)) w.heap.size 56 (.pointer (some ⟨g, 0, none⟩)) := B1.kept (putW_grown w1 g (.slice A n c) (.slice A' m' c') (.int .i64 dn.left) (.bool dn.dead)) (fun e => by injection e; omega)
    have BR2 : Boxed (putW w1 g (.slice A n c) (.slice A' m' c') (.int .i64 dn.left) (.bool dn.dead)) (w.heap.size + 1) 29 (.int .i64 0) := R1.kept (putW_grown w1 g (.slice A n c) (.slice A' m' c') (.int .i64 dn.left) (.bool dn.dead)) (fun e => by injection e; omega)
    have Z2 := Lib.hid (And.intro N2 (And.intro BP2 BR2))
    clear hd1 hb1 B1 R1 N2 BP2 BR2 cw y0 y1 y2 y3 cb
    by_cases hr : r = 0
    · subst hr
      have G2 := Lib.hid (grown_trans G1.out (World.grownBy_alloc _ (.cells #[.slice A n c, .slice A' m' c', .int .i64 dn.left, .bool dn.dead] 25) (some g)))
      have P2 := Lib.hid (P1.out.step (alloc_below0 _ (.cells #[.slice A n c, .slice A' m' c', .int .i64 dn.left, .bool dn.dead] 25)))
      have HK2 := Lib.hid (kpG_of G2.out J0.out.gr.size J0.out.wk.blk.lt J0.out.wk.blk P2.out.blk ⟨A, n, c, A', m', c', dn.left, dn.dead, rfl⟩)
      gi_wp2
      exact ⟨(K1.out.trans (KeepsOthers.alloc _ _)).from _, HK2.out, _, Z2.out.1, by rw [HX.out]; exact P2.out, by rw [HX.out], Z2.out.2.1.alloc _, Z2.out.2.2.alloc _, grown_trans J0.out.gr G2.out⟩
    · have hr' : (r != 0) = true := by simpa using hr
      have HR := Lib.hid hr
      clear hr
      have HQ := Lib.hid ((P1.out.setBox Z2.out.2.2 hne2 (WInv_pl H.out Z2.out.1) (.int .i64 r)).step (alloc_below0 _ (.cells #[.slice A n c, .slice A' m' c', .int .i64 dn.left, .bool dn.dead] 25)))
      have HG := Lib.hid (grown_row (grown_row (grown_trans J0.out.gr G1.out) (grown_set _ (w.heap.size + 1) 0 (.int .i64 r)) (B := w.heap.size) (Nat.le_refl _) (fun q e => by injection e; omega)) (World.grownBy_alloc _ (.cells #[.slice A n c, .slice A' m' c', .int .i64 dn.left, .bool dn.dead] 25) none) (B := w.heap.size) (Nat.le_refl _) (fun q e => by cases e))
      gi_wp2
      exact ⟨((K1.out.trans (KeepsOthers.setCell _ _ _)).trans (KeepsOthers.alloc _ _)).from _, rfl, _, r, HR.out, Z2.out.1, by rw [HX.out]; exact HQ.out, by rw [HX.out], (Z2.out.2.1.other (by omega) _).alloc _, (Z2.out.2.2.set _).alloc _, HG.out⟩
  case done =>
    rintro D ys W hD rfl ⟨v', J⟩ hK
    clear hB0 bp br
    have cr := J.br.cell
    have fr := J.br.frozen
    have HQ := Lib.hid (J.wk.setBox J.br (by omega) (WInv_pl H.out J.nd) (.int .i64 0))
    have HG := Lib.hid (grown_row J.gr (grown_set _ (w.heap.size + 1) 0 (.int .i64 0)) (B := w.heap.size) (Nat.le_refl _) (fun q e => by injection e; omega))
    have hB1 := J.br.set (.int .i64 0)
    have J0 := Lib.hid J
    go_wp2
    have hD2 : w.heap.size + 2 ≤ D := by simpa using hD
    have hK1 : (W.setCell ⟨w.heap.size + 1, 0, none⟩ (.int .i64 0)).heap[D]? = some (.deferred (some [])) := (KeepsOthers.setCell W ⟨w.heap.size + 1, 0, none⟩ (.int .i64 0)).same D _ hK rfl
    generalize W.setCell ⟨w.heap.size + 1, 0, none⟩ (.int .i64 0) = W1 at HQ HG hB1 hK1 ⊢
    have hrow : ∀ r, (some D : Option Nat) = some r → ∃ o : Obj, W1.heap[r]? = some o ∧ o.isCells = false := fun r e => by injection e with e; subst e; exact ⟨_, hK1, rfl⟩
    have hcell := cell_kept hB1.cell (grownBy_putObj' W1 D (.deferred none)) hrow
    refine ⟨by simp, .inl ⟨_, _, rfl, run_takeDeferred hK1, ?_⟩⟩
    refine ⟨.int .i64 0, by simp [results, Try.results55, go_sem, hcell], ?_⟩
    rw [← stepsP_all]
    exact ⟨by rw [J0.out.err], v', J0.out.nd, HQ.out.kept (grownBy_putObj' W1 D (.deferred none)) hrow, grown_row HG.out (grownBy_putObj' W1 D (.deferred none)) (B := w.heap.size) (Nat.le_refl _) (fun r e => by injection e; omega)⟩
  case stop =>
    rintro D c pre W hD ⟨k, hk, rfl⟩ ⟨rfl, v', r, h0, J⟩ hK
    clear hB0 bp br
    refine wpIn_wide.2 (wp_ret ?_)
    have hD2 : w.heap.size + 2 ≤ D := by simpa using hD
    have hrow : ∀ r, (some D : Option Nat) = some r → ∃ o : Obj, W.heap[r]? = some o ∧ o.isCells = false := fun r e => by injection e with e; subst e; exact ⟨_, hK, rfl⟩
    have hcell := cell_kept J.br.cell (grownBy_putObj' W D (.deferred none)) hrow
    have J0 := Lib.hid J
    clear J
    refine ⟨by simp, .inl ⟨_, _, rfl, run_takeDeferred (show W.heap[D]? = some (.deferred (some [])) from hK), ?_⟩⟩
    refine ⟨.int .i64 r, by simp [results, Try.results55, go_sem, hcell], ?_⟩
    rw [stepsP_stop ats dats hk (d, 0) (by rw [J0.out.err]; exact h0)]
    exact ⟨by rw [J0.out.err], v', J0.out.nd, J0.out.wk.kept (grownBy_putObj' W D (.deferred none)) hrow, grown_row J0.out.gr (grownBy_putObj' W D (.deferred none)) (B := w.heap.size) (Nat.le_refl _) (fun r e => by injection e; omega)⟩

end Go.Proofs.Ytlpijikhbjkmfaa

/-
  A region that draws its order, inside an iterator: a condition on the world that has to hold only till a given operation is carried out.
-/
namespace Go.Proofs.Ytlpijikhbjkmfaa

section
variable {P : Program} {ops : Array Oper} {Q : Exit → Act → World → Prop} {md : Region.Mode} {S : World → Prop} {k n : Nat}

theorem yields_in {i : Nat} {o : Oper} {v : Value} {a : Act} (hi : ops[i]? = some o) (hy : YieldsIf P ops S o v a) {K : Act → World → Prop} {w : World} (hS : S w) (h : K (a.put o.dst v) w) : wpOpIn Fence.wide n P ops Q i K a w := by
  unfold wpOpIn
  rw [hi]
  dsimp only
  rcases hy with ⟨hw, hv⟩ | ⟨hw, rfl⟩
  · rw [if_pos hw]
    refine ⟨fun _ _ => trivial, ?_⟩
    show Oper.uponIn _ _ _ _ _ _ _ ((execOp a.eval o).run P w)
    rw [hv w hS]
    exact h
  · rw [if_neg (by rw [hw]; decide)]
    exact ⟨fun _ _ => trivial, h⟩
/-- What an operation leaves, whether or not a value that it does not look at is already there. -/
theorem upon_put (o : Oper) (a : Act) (d : Option Tmp) (v : Value) (Y : Act → Prop) (K : Act → World → Prop) (hc : ∀ (b : Act) u, (b.put d v).put o.dst u = (b.put o.dst u).put d v) (hd : ∀ (x : Deferred), { (a.put d v) with defers := x :: (a.put d v).defers } = ({ a with defers := x :: a.defers } : Act).put d v)
    (hk : ∀ u, Y (a.put o.dst u)) (hkd : ∀ (x : Deferred) u, Y (({ a with defers := x :: a.defers } : Act).put o.dst u)) (hQ : ∀ c w, Q (.panic c) (a.put d v) w → Q (.panic c) a w) :
    ∀ r : Result Next, o.uponIn Fence.wide n P (a.put d v) K Q r → o.uponIn Fence.wide n P a (fun a' w' => Y a' ∧ K (a'.put d v) w') Q r
  | .ok x w', h => by
    cases x with
    | value u => exact ⟨hk u, by have h' : K ((a.put d v).put o.dst u) w' := h; rw [hc] at h'; exact h'⟩
    | skip => exact ⟨hk _, by have h' : K ((a.put d v).put o.dst undef) w' := h; rw [hc] at h'; exact h'⟩
    | defer x => exact ⟨hkd x _, by have h' : K ({ (a.put d v) with defers := x :: (a.put d v).defers }.put o.dst undef) w' := h; rw [hd, hc] at h'; exact h'⟩
    | enter f args =>
      refine ⟨h.1, CallsIn.mono h.2 fun e w'' he => ?_⟩
      cases e with
      | returned u => exact ⟨hk u, by have h' : K ((a.put d v).put o.dst u) w'' := he; rw [hc] at h'; exact h'⟩
      | panicked c => exact hQ _ _ he
      | outgrown => exact he
    | row r args => exact ⟨h.1, RowsIn.mono h.2 fun u w'' he => ⟨hk u, by have h' : K ((a.put d v).put o.dst u) w'' := he; rw [hc] at h'; exact h'⟩⟩
    | round l f tmps assign body =>
      refine ⟨h.1, RoundIn.mono h.2 fun e w'' he => ?_⟩
      cases e with
      | returned u => exact ⟨hk u, by have h' : K ((a.put d v).put o.dst u) w'' := he; rw [hc] at h'; exact h'⟩
      | panicked c => exact hQ _ _ he
      | outgrown => exact he
    | _ => exact h.elim
  | .halt x w', h => by
    cases x with
    | panic u => exact hQ _ _ h
    | _ => exact h
theorem opIn_putIf {j : Nat} {oi oj : Oper} {v : Value} (hj : ops[j]? = some oj) (hap : oi.apart ops oj = true) (hsi : ∀ cs b, oi.op ≠ .select cs b) (hsj : ∀ cs b, oj.op ≠ .select cs b)
    (hQ : ∀ c a w, Q (.panic c) (a.put oi.dst v) w → Q (.panic c) a w) {K : Act → World → Prop} {a : Act} {w : World} (hy : YieldsIf P ops S oi v a) (h : wpOpIn Fence.wide n P ops Q j K (a.put oi.dst v) w) :
    wpOpIn Fence.wide n P ops Q j (fun a' w' => YieldsIf P ops S oi v a' ∧ K (a'.put oi.dst v) w') a w := by
  obtain ⟨h1, h2, h3⟩ := Oper.apart_spec hap
  have hk : ∀ (b : Act), YieldsIf P ops S oi v b → ∀ u, YieldsIf P ops S oi v (b.put oj.dst u) := fun b hb u => hb.of_same (execOp_put oi hsi b oj.dst u h3) (wanted_put oi b oj.dst u h3)
  have hc : ∀ (b : Act) u, (b.put oi.dst v).put oj.dst u = (b.put oj.dst u).put oi.dst v := fun b u => by rw [← Act.put_comm b v u h2]
  unfold wpOpIn at h ⊢
  rw [hj] at h ⊢
  dsimp only at h ⊢
  rw [wanted_put oj a oi.dst v h1] at h
  by_cases hw : Region.wanted oj (yielded ops a.tmps) = true
  · rw [if_pos hw] at h ⊢
    refine ⟨fun _ _ => trivial, ?_⟩
    have h' : oj.uponIn Fence.wide n P (a.put oi.dst v) K Q ((execOp (a.put oi.dst v).eval oj).run P w) := h.2
    rw [execOp_put oj hsj a oi.dst v h1] at h'
    exact upon_put oj a oi.dst v _ K hc (fun x => by rw [← Act.put_defers]) (hk a hy) (fun x u => hk { a with defers := x :: a.defers } (YieldsIf.of_same hy rfl rfl) u) (fun c w => hQ c a w) _ h'
  · rw [if_neg hw] at h ⊢
    exact ⟨fun _ _ => trivial, hk a hy _, by rw [← hc]; exact h.2⟩

/-- Whatever order is picked from here on; S holds behind each operation, till k is carried out. -/
def wpTillIn (n : Nat) (P : Program) (md : Region.Mode) (ops : Array Oper) (Q : Exit → Act → World → Prop) (S : World → Prop) (k : Nat) : Nat → Array Bool → Act → World → Prop
  | 0, listed, a, w => Region.ready md ops listed = [] ∧ Q .normal a w
  | f + 1, listed, a, w => (Region.ready md ops listed = [] → Q .normal a w) ∧
    ∀ i ∈ Region.ready md ops listed, wpOpIn Fence.wide n P ops Q i (fun a' w' => (i ≠ k → listed.getD k true = false → S w') ∧ wpTillIn n P md ops Q S k f (listed.setIfInBounds i true) a' w') a w
theorem anyIn_of_till : ∀ (f : Nat) (listed : Array Bool) (a : Act) (w : World), wpTillIn n P md ops Q S k f listed a w → wpAnyIn Fence.wide n P md ops Q f listed a w
  | 0, _, _, _, h => h
  | f + 1, _, _, _, h => ⟨h.1, fun i hi => wpOpIn_mono (fun a' w' h' => anyIn_of_till f _ a' w' h'.2) (h.2 i hi)⟩
theorem tillIn_first {i : Nat} {oi : Oper} {v : Value} {p : List Nat} (hi : ops[i]? = some oi) (hsel : ∀ (j : Nat) (o : Oper) cs b, ops[j]? = some o → o.op ≠ .select cs b)
    (hQ : ∀ c a w, Q (.panic c) (a.put oi.dst v) w → Q (.panic c) a w) (hik : i ≠ k) (hp : waitsPath md ops (k :: p) = true) (hpl : (k :: p).getLast? = some i) (hpn : p ≠ []) :
    ∀ (f : Nat) (listed : Array Bool) (a : Act) (w : World), Closed md ops listed → listed.getD k true = false →
      (∀ j oj, ops[j]? = some oj → j ≠ i → listed.getD j true = false → (∀ e ∈ oj.after, Region.binds md e = true → e.on ≠ i) → oi.apart ops oj = true) →
      i ∈ Region.ready md ops listed → YieldsIf P ops S oi v a → S w →
      wpTillIn n P md ops Q S k f (listed.setIfInBounds i true) (a.put oi.dst v) w → wpTillIn n P md ops Q S k (f + 1) listed a w := by
  intro f
  induction f with
  | zero =>
    intro listed a w _ _ _ hr hy hS H
    refine ⟨fun h => (by rw [h] at hr; cases hr), fun j hj => ?_⟩
    by_cases hji : j = i
    · subst hji
      exact yields_in hi hy hS ⟨fun _ _ => hS, H⟩
    · have := ready_mono hj hji
      rw [H.1] at this
      cases this
  | succ f ih =>
    intro listed a w hc hk hfree hr hy hS H
    have hun := (mem_ready.1 hr).1
    refine ⟨fun h => (by rw [h] at hr; cases hr), fun j hj => ?_⟩
    by_cases hji : j = i
    · subst hji
      exact yields_in hi hy hS ⟨fun _ _ => hS, H⟩
    have hjk : j ≠ k := fun e => not_yet hc hp hpl hpn hun (e ▸ hj)
    obtain ⟨hjun, oj, hoj, hall⟩ := mem_ready.1 hj
    have hnot : ∀ e ∈ oj.after, Region.binds md e = true → e.on ≠ i := fun e he hb heq => by
      have h1 := hall e he hb
      rw [heq, getD_both hun] at h1
      cases h1
    refine wpOpIn_mono (fun a' w' h3 => ?_) (opIn_putIf hoj (hfree j oj hoj hji hjun hnot) (fun cs b => hsel i oi cs b hi) (fun cs b => hsel j oj cs b hoj) hQ hy (H.2 j (ready_mono hj hji)))
    have hS' : S w' := h3.2.1 hjk (by rw [getD_set_ne true hik]; exact hk)
    refine ⟨fun _ _ => hS', ih (listed.setIfInBounds j true) a' w' (closed_set hc hj) (by rw [getD_set_ne true hjk]; exact hk) (fun q oq hq hqi hqun hno => ?_) (ready_mono hr (Ne.symm hji)) h3.1 hS' ?_⟩
    · by_cases hjq : j = q
      · subst hjq
        exact hfree j oq hq hqi hjun hno
      · rw [getD_set_ne true hjq] at hqun
        exact hfree q oq hq hqi hqun hno
    · rw [Array.setIfInBounds_comm _ _ hji]
      exact h3.2.2

/-- The same, where what is carried out is closed. -/
def TillInC (n : Nat) (P : Program) (md : Region.Mode) (ops : Array Oper) (Q : Exit → Act → World → Prop) (S : World → Prop) (k f : Nat) (listed : Array Bool) (a : Act) (w : World) : Prop :=
  Closed md ops listed → wpTillIn n P md ops Q S k f listed a w
/-- Taken first: what yields its value in every world that meets S. -/
theorem tillIn_take {i : Nat} (oi : Oper) (v : Value) (p : List Nat) {f : Nat} {listed : Array Bool} {a : Act} {w : World} (hi : ops[i]? = some oi) (hs : Region.noSelect ops = true) (hf : Region.free md ops listed i = true)
    (hr : (Region.ready md ops listed).contains i = true) (hp : (waitsPath md ops (k :: p) && decide ((k :: p).getLast? = some i) && !p.isEmpty && decide (i ≠ k) && !listed.getD k true) = true)
    (hQ : ∀ c a w, Q (.panic c) (a.put oi.dst v) w → Q (.panic c) a w) (hy : YieldsIf P ops S oi v a) (hS : S w)
    (h : TillInC n P md ops Q S k f (listed.setIfInBounds i true) (a.put oi.dst v) w) : TillInC n P md ops Q S k (f + 1) listed a w := fun hc => by
  simp only [Bool.and_eq_true, decide_eq_true_eq, Bool.not_eq_true', List.isEmpty_eq_false_iff] at hp
  have hr' : i ∈ Region.ready md ops listed := by simpa using hr
  exact tillIn_first hi (Region.noSelect_spec hs) hQ hp.1.2 hp.1.1.1.1 hp.1.1.1.2 hp.1.1.2 f listed a w hc hp.2 (Region.free_spec hi hf) hr' hy hS (h (closed_set hc hr'))
/-- One alone comes up. -/
theorem tillIn_one {i : Nat} (o : Oper) {f : Nat} {listed : Array Bool} {a : Act} {w : World} (hr : Region.ready md ops listed = [i]) (ho : ops[i]? = some o) (hg : o.guard = none)
    (h : ∀ K : Act → World → Prop, Shut (∀ a' w', (i ≠ k → listed.getD k true = false → S w') → TillInC n P md ops Q S k f (listed.setIfInBounds i true) a' w' → K a' w') → Oper.wpIn Fence.wide n P o a w K Q) : TillInC n P md ops Q S k (f + 1) listed a w := fun hc => by
  refine ⟨fun h0 => (by rw [hr] at h0; cases h0), fun j hj => ?_⟩
  have hj' := hj
  rw [hr] at hj'
  obtain rfl : j = i := by simpa using hj'
  unfold wpOpIn
  simp only [ho]
  have hw : Region.wanted o (yielded ops a.tmps) = true := by simp [Region.wanted, hg]
  rw [if_pos hw]
  exact h _ fun a' w' hS hT => ⟨hS, hT (closed_set hc hj)⟩
theorem tillIn_done {f : Nat} {listed : Array Bool} {a : Act} {w : World} (hr : Region.ready md ops listed = []) (h : Q .normal a w) : TillInC n P md ops Q S k f listed a w := fun _ => by
  cases f with
  | zero => exact ⟨hr, h⟩
  | succ f => exact ⟨fun _ => h, by rw [hr]; simp⟩
theorem wpIn_region_hold (S : World → Prop) (k q : Nat) {id : Nat} {a : Act} {w : World} (hm : P.follows .mixedOrders = true) (hn : ops.size = q)
    (h : TillInC n P .any ops Q S k q (Array.replicate q false) a w.drew) : (Code.region id ops true).wpIn Fence.wide n P Q a w := by
  subst hn
  exact wpIn_region_any hm (anyIn_of_till _ _ _ _ (h (closed_none _)))
end

end Go.Proofs.Ytlpijikhbjkmfaa

/-
  The home blocks to write, handed out with their places: the program's iterator over a work.
-/
namespace Go.Proofs.Ytlpijikhbjkmfaa
open Go.RowKit Go.Shelf
attribute [local go_sem] Oper.semAt_some

abbrev encsHome (a : Nat) (pl : List Nat) (bs : List ByteArray) {m : Nat} (t : Fin m) : Array Value := #[.int .i64 ((a + pl.getD t.val 0 : Nat) : Int), .string (blk bs t.val)]

set_option maxRecDepth 100000 in
set_option maxHeartbeats 2000000 in
theorem homed1_in (n : Nat) (hn : 1 ≤ n) (l Bw g n₁ a : Nat) (pl : List Nat) (bs : List ByteArray) (m c c' : Nat) (P L : Option Addr) (hm : m ≤ 4096) (ha : a ≤ 4096) (hBw : Bw < n₁ ∧ Bw ≠ g) (hpl : ∀ k, k < m → pl.getD k 0 < 65536) (J Jx : List (Fin m) → World → Prop)
    (hY : ∀ (pre : List (Fin m)) (t : Fin m) (W : World), J pre W → pre.length < m → YieldAt Fence.wide (n - 1) Try.prog l (encsHome a pl bs t) W fun e W' =>
      (e = .returned (.bool true) ∧ J (pre ++ [t]) W' ∧ KpG g n₁ W W') ∨ (e = .returned (.bool false) ∧ Jx (pre ++ [t]) W'))
    (W : World) (hcw : W.cell? ⟨Bw, 0, none⟩ = some (.pointer (some ⟨g, 0, none⟩))) (hc2 : W.cell? ⟨g, 2, none⟩ = some (.int .i64 a)) (hcp : W.cell? ⟨g, 10, none⟩ = some (.slice P m c)) (hcl : W.cell? ⟨g, 11, none⟩ = some (.slice L m c'))
    (hRp : Reads W n₁ 1 P m (encN pl)) (hfp : 0 < m → ∀ ad, P = some ad → ad.block ≠ g) (hRl : Reads W n₁ 1 L m (encS bs)) (hfl : 0 < m → ∀ ad, L = some ad → ad.block ≠ g) (hJd : ∀ pre A, J pre A → J pre A.drew) (h0 : J [] W) :
    CallsIn Fence.wide n Try.prog 80 #[.func (.yield l) #[] #[], .pointer (some ⟨Bw, 0, none⟩)] W fun e W' => (∃ v, e = .returned v) ∧
      ((∃ ys, ys = upN m m ∧ J ys W') ∨ (∃ pre, (∃ k, k ≤ m ∧ pre = upN m k) ∧ Jx pre W')) := by
  have hmx : Try.prog.follows .mixedOrders = true := by kernel_rfl
  have HF := Lib.hid (And.intro hfp hfl)
  have HP := Lib.hid hpl
  clear hfp hfl hpl
  refine callsIn_of_wp Try.func80 rfl trivial ?_ rfl
  simp only [Try.ntmps80, List.size_toArray, List.length_cons, List.length_nil, Nat.reduceAdd, Nat.reduceSub, Array.replicate_succ, Array.replicate_zero, List.push_toArray, List.append_toArray, List.nil_append, List.cons_append]
  gi_wp2
  gi_loopw [10] (fun p wr => ∃ k : Nat, p = .int .i64 (k : Int) ∧ k ≤ m ∧ J (upN m k) wr ∧ (wr.cell? ⟨Bw, 0, none⟩ = some (.pointer (some ⟨g, 0, none⟩)) ∧ wr.cell? ⟨g, 2, none⟩ = some (.int .i64 a) ∧ wr.cell? ⟨g, 11, none⟩ = some (.slice L m c')) ∧ Reads wr n₁ 1 P m (encN pl) ∧ Reads wr n₁ 1 L m (encS bs)) (fun p _ => ((m : Int) - intOf p).toNat)
  case atStart => exact ⟨0, by simp, by omega, by simpa [upN] using h0, ⟨hcw, hc2, hcl⟩, hRp, hRl⟩
  case round =>
    obtain ⟨k, rfl, hk, hJ, ⟨kw, k2, kl⟩, hRp, hRl⟩ := hrel
    by_cases h : k < m
    · have hlt : (k : Int) < (m : Int) := by omega
      obtain ⟨b1, o1, rfl, _, g1⟩ := hRp.nat h
      obtain ⟨b2, o2, rfl, _, g2⟩ := hRl.str h
      obtain ⟨fn, tmps, assign, body, hy, hRR⟩ := hY (upN m k) ⟨k, h⟩ wr.drew (hJd _ _ hJ) (by rw [upN_length m k (by omega)]; exact h)
      dsimp only [encsHome] at hy
      have hx := HP.out k h
      have HR := Lib.hid (And.intro hRp hRl); clear hRp hRl
      generalize blk bs k = s at g2 hy
      generalize pl.getD k 0 = x at g1 hy hx
      have hak : (a : Int) + (x : Int) = ((a + x : Nat) : Int) := by omega
      obtain ⟨q, hq⟩ : ∃ q : Nat, q = a + x := ⟨_, rfl⟩
      rw [← hq] at hak hy
      have hq2 : q ≤ 131072 := by omega
      have hwq : IntKind.i64.wrap (q : Int) = (q : Int) := IntWalk.i64_in _ (by omega)
      have hJ0 := Lib.hid hJ
      clear hq hJ hcw hc2 hcp hcl
      gi_wp2_with fail
      have hRR2 : RoundIn Fence.wide (n - 1) Try.prog l fn tmps assign body wr.drew fun e W' => ∃ t : Bool, e = .returned (.bool t) ∧ Hid ((t = true ∧ J (upN m k ++ [⟨k, h⟩]) W' ∧ KpG g n₁ wr.drew W') ∨ (t = false ∧ Jx (upN m k ++ [⟨k, h⟩]) W')) :=
        RoundIn.mono hRR (by rintro e W' (⟨rfl, h1, h2⟩ | ⟨rfl, h1⟩); exact ⟨true, rfl, Lib.hid (.inl ⟨rfl, h1, h2⟩)⟩; exact ⟨false, rfl, Lib.hid (.inr ⟨rfl, h1⟩)⟩)
      clear hRR
      refine wpIn_mono (Q := fun e a' w' => e = .normal ∧ ∃ t : Bool, Hid ((t = true ∧ J (upN m k ++ [⟨k, h⟩]) w' ∧ KpG g n₁ wr.drew w') ∨ (t = false ∧ Jx (upN m k ++ [⟨k, h⟩]) w')) ∧ a' = { tmps := #[.func (.yield l) #[] #[], .pointer (some ⟨Bw, 0, none⟩), undef, .int .i64 (k : Int), .int .i64 (x : Int), .pointer (some ⟨g, 0, none⟩), .pointer (some ⟨g, 0, none⟩), .pointer (some ⟨g, 10, none⟩), .slice (some ⟨b1, o1, none⟩) m c, .int .i64 (m : Int), .int .i64 (k : Int), .bool true, .int .i64 (k : Int), .pointer (some ⟨b1, o1 + k, none⟩), .int .i64 (x : Int), .func (.yield l) #[] #[], .pointer (some ⟨g, 0, none⟩), .pointer (some ⟨g, 0, none⟩), .pointer (some ⟨g, 0, none⟩), .pointer (some ⟨g, 2, none⟩), .int .i64 (a : Int), .int .i64 (x : Int), .int .i64 (q : Int), .pointer (some ⟨g, 0, none⟩), .pointer (some ⟨g, 0, none⟩), .pointer (some ⟨g, 11, none⟩), .slice (some ⟨b2, o2, none⟩) m c', .int .i64 (k : Int), .pointer (some ⟨b2, o2 + k, none⟩), .string s, .bool t, .bool (!t), u32], defers := [] }) ?_ ?_
      · clear HP HF HR hJ0 hY h0 hRp hRl hJd hx hm ha hBw hk
        repeat (rename_i hh; clear hh)
        refine wpIn_region_hold (fun w' => w'.cell? ⟨Bw, 0, none⟩ = some (.pointer (some ⟨g, 0, none⟩)) ∧ w'.cell? ⟨g, 2, none⟩ = some (.int .i64 a) ∧ w'.cell? ⟨g, 11, none⟩ = some (.slice (some ⟨b2, o2, none⟩) m c') ∧ w'.cell? ⟨b2, o2 + k, none⟩ = some (.string s)) 15 17 hmx (by kernel_rfl) ?_
        have HS0 : (wr.drew).cell? ⟨Bw, 0, none⟩ = some (.pointer (some ⟨g, 0, none⟩)) ∧ (wr.drew).cell? ⟨g, 2, none⟩ = some (.int .i64 a) ∧ (wr.drew).cell? ⟨g, 11, none⟩ = some (.slice (some ⟨b2, o2, none⟩) m c') ∧ (wr.drew).cell? ⟨b2, o2 + k, none⟩ = some (.string s) := ⟨kw, k2, kl, g2⟩
        clear kw k2 kl g2
        refine tillIn_take (i := 0) _ (.func (.yield l) #[] #[]) [0] rfl (by kernel_rfl) (by kernel_rfl) (by kernel_rfl) (by kernel_rfl) (fun _ _ _ h => by cases h.1) (.inl ⟨by rfl, fun w' hS => ?_⟩) HS0 ?_
        · obtain ⟨x0, x1, x2, x3⟩ := hS; go_simp
        try simp only [Act.put, List.setIfInBounds_toArray]
        refine tillIn_take (i := 1) _ (.pointer (some ⟨g, 0, none⟩)) [7, 5, 4, 3, 2, 1] rfl (by kernel_rfl) (by kernel_rfl) (by kernel_rfl) (by kernel_rfl) (fun _ _ _ h => by cases h.1) (.inl ⟨by rfl, fun w' hS => ?_⟩) HS0 ?_
        · obtain ⟨x0, x1, x2, x3⟩ := hS; go_simp
        try simp only [Act.put]
        refine tillIn_take (i := 2) _ (.pointer (some ⟨g, 0, none⟩)) [7, 5, 4, 3, 2] rfl (by kernel_rfl) (by kernel_rfl) (by kernel_rfl) (by kernel_rfl) (fun _ _ _ h => by cases h.1) (.inl ⟨by rfl, fun w' hS => ?_⟩) HS0 ?_
        · obtain ⟨x0, x1, x2, x3⟩ := hS; go_simp
        try simp only [Act.put]
        refine tillIn_take (i := 3) _ (.pointer (some ⟨g, 0, none⟩)) [7, 5, 4, 3] rfl (by kernel_rfl) (by kernel_rfl) (by kernel_rfl) (by kernel_rfl) (fun _ _ _ h => by cases h.1) (.inl ⟨by rfl, fun w' hS => ?_⟩) HS0 ?_
        · obtain ⟨x0, x1, x2, x3⟩ := hS; go_simp
        try simp only [Act.put]
        refine tillIn_take (i := 4) _ (.pointer (some ⟨g, 2, none⟩)) [7, 5, 4] rfl (by kernel_rfl) (by kernel_rfl) (by kernel_rfl) (by kernel_rfl) (fun _ _ _ h => by cases h.1) (.inl ⟨by rfl, fun w' hS => ?_⟩) HS0 ?_
        · obtain ⟨x0, x1, x2, x3⟩ := hS; go_simp
        try simp only [Act.put]
        refine tillIn_take (i := 5) _ (.int .i64 (a : Int)) [7, 5] rfl (by kernel_rfl) (by kernel_rfl) (by kernel_rfl) (by kernel_rfl) (fun _ _ _ h => by cases h.1) (.inl ⟨by rfl, fun w' hS => ?_⟩) HS0 ?_
        · obtain ⟨x0, x1, x2, x3⟩ := hS; go_simp
        try simp only [Act.put]
        refine tillIn_take (i := 6) _ (.int .i64 (x : Int)) [7, 6] rfl (by kernel_rfl) (by kernel_rfl) (by kernel_rfl) (by kernel_rfl) (fun _ _ _ h => by cases h.1) (.inl ⟨by rfl, fun w' hS => ?_⟩) HS0 ?_
        · obtain ⟨x0, x1, x2, x3⟩ := hS; go_simp
        try simp only [Act.put]
        refine tillIn_take (i := 7) _ (.int .i64 (q : Int)) [7] rfl (by kernel_rfl) (by kernel_rfl) (by kernel_rfl) (by kernel_rfl) (fun _ _ _ h => by cases h.1) (.inl ⟨by rfl, fun w' hS => ?_⟩) HS0 ?_
        · obtain ⟨x0, x1, x2, x3⟩ := hS; go_simp
        try simp only [Act.put]
        refine tillIn_take (i := 8) _ (.pointer (some ⟨g, 0, none⟩)) [14, 13, 11, 10, 9, 8] rfl (by kernel_rfl) (by kernel_rfl) (by kernel_rfl) (by kernel_rfl) (fun _ _ _ h => by cases h.1) (.inl ⟨by rfl, fun w' hS => ?_⟩) HS0 ?_
        · obtain ⟨x0, x1, x2, x3⟩ := hS; go_simp
        try simp only [Act.put]
        refine tillIn_take (i := 9) _ (.pointer (some ⟨g, 0, none⟩)) [14, 13, 11, 10, 9] rfl (by kernel_rfl) (by kernel_rfl) (by kernel_rfl) (by kernel_rfl) (fun _ _ _ h => by cases h.1) (.inl ⟨by rfl, fun w' hS => ?_⟩) HS0 ?_
        · obtain ⟨x0, x1, x2, x3⟩ := hS; go_simp
        try simp only [Act.put]
        refine tillIn_take (i := 10) _ (.pointer (some ⟨g, 11, none⟩)) [14, 13, 11, 10] rfl (by kernel_rfl) (by kernel_rfl) (by kernel_rfl) (by kernel_rfl) (fun _ _ _ h => by cases h.1) (.inl ⟨by rfl, fun w' hS => ?_⟩) HS0 ?_
        · obtain ⟨x0, x1, x2, x3⟩ := hS; go_simp
        try simp only [Act.put]
        refine tillIn_take (i := 11) _ (.slice (some ⟨b2, o2, none⟩) m c') [14, 13, 11] rfl (by kernel_rfl) (by kernel_rfl) (by kernel_rfl) (by kernel_rfl) (fun _ _ _ h => by cases h.1) (.inl ⟨by rfl, fun w' hS => ?_⟩) HS0 ?_
        · obtain ⟨x0, x1, x2, x3⟩ := hS; go_simp
        try simp only [Act.put]
        refine tillIn_take (i := 12) _ (.int .i64 (k : Int)) [14, 13, 12] rfl (by kernel_rfl) (by kernel_rfl) (by kernel_rfl) (by kernel_rfl) (fun _ _ _ h => by cases h.1) (.inl ⟨by rfl, fun w' hS => ?_⟩) HS0 ?_
        · obtain ⟨x0, x1, x2, x3⟩ := hS; go_simp
        try simp only [Act.put]
        refine tillIn_take (i := 13) _ (.pointer (some ⟨b2, o2 + k, none⟩)) [14, 13] rfl (by kernel_rfl) (by kernel_rfl) (by kernel_rfl) (by kernel_rfl) (fun _ _ _ h => by cases h.1) (.inl ⟨by rfl, fun w' hS => ?_⟩) HS0 ?_
        · obtain ⟨x0, x1, x2, x3⟩ := hS; go_simp
        try simp only [Act.put]
        refine tillIn_take (i := 14) _ (.string s) [14] rfl (by kernel_rfl) (by kernel_rfl) (by kernel_rfl) (by kernel_rfl) (fun _ _ _ h => by cases h.1) (.inl ⟨by rfl, fun w' hS => ?_⟩) HS0 ?_
        · obtain ⟨x0, x1, x2, x3⟩ := hS; go_simp
        try simp only [Act.put]
        refine tillIn_one (i := 15) _ (by kernel_rfl) rfl rfl (fun K hK => ?_)
        go_simp
        refine hRR2.mono ?_
        rintro e W3 ⟨t, rfl, hT⟩
        refine hK.out _ _ (fun h => absurd rfl h) ?_
        try simp only [Act.put, List.setIfInBounds_toArray, List.set_cons_zero, List.set_cons_succ]
        clear hK K
        refine tillIn_one (i := 16) _ (by kernel_rfl) rfl rfl (fun K hK => ?_)
        go_simp
        refine hK.out _ _ (fun _ h => by cases h) ?_
        try simp only [Act.put, List.setIfInBounds_toArray, List.set_cons_zero, List.set_cons_succ]
        clear hK K
        exact tillIn_done (by kernel_rfl) ⟨rfl, t, hT, rfl⟩
      rintro e a' w' ⟨rfl, t, hT, hact⟩
      subst hact
      rcases hT.out with ⟨rfl, hJ3, hk3⟩ | ⟨rfl, hJx3⟩
      · have kw3 := (World.cell?_of_block (a := ⟨Bw, 0, none⟩) (hk3.block hBw.1 hBw.2)).trans kw
        have k23 := (hk3.own 2 (by omega)).trans k2
        have kl3 := (hk3.own 11 (by omega)).trans kl
        have HJ := Lib.hid hJ3; clear hJ3
        have HR3 := Lib.hid (And.intro (hk3.reads (A := wr.drew) HR.out.1 HF.out.1) (hk3.reads (A := wr.drew) HR.out.2 HF.out.2))
        clear hT
        gi_wp2
        go_roundw
        case rel => exact ⟨k + 1, congrArg (Value.int .i64) (by omega), by omega, by rw [upN_succ m k h]; exact HJ.out, ⟨kw3, k23, kl3⟩, HR3.out.1, HR3.out.2⟩
        case measure => simp [intOf]; omega
      · gi_wp2
        refine bodyPost_ret (results_none rfl _ _ _) rfl ?_
        exact ⟨⟨_, rfl⟩, .inr ⟨_, ⟨k + 1, by omega, (upN_succ m k h).symm⟩, hJx3⟩⟩
    · have hmk : k = m := by omega
      subst hmk
      gi_wp2
      go_end0
      exact ⟨⟨_, rfl⟩, .inl (by first | exact hJ | exact ⟨_, rfl, hJ⟩)⟩

end Go.Proofs.Ytlpijikhbjkmfaa

/-
  Blocks in a row, and home blocks, written: the program's writing over its two iterators.
-/
namespace Go.Proofs.Ytlpijikhbjkmfaa
open Go.RowKit Go.Shelf

set_option maxHeartbeats 1000000 in
theorem inRow_any (a : Int) (L : Option Addr) (m c : Nat) (w : World) :
    Calls Try.prog 56 #[.int .i64 a, .slice L m c] w fun e w' => e = .returned (.func (.func 73) #[] #[.pointer (some ⟨w.heap.size + 1, 0, none⟩), .pointer (some ⟨w.heap.size, 0, none⟩)]) ∧ w' = (w.alloc (.cells #[.int .i64 a] 3)).alloc (.cells #[.slice L m c] 22) := by
  have hmf : ∀ (fn : Fn) (first cap : Array Value) (w : World), (Instr.makeFunc fn first cap).run Try.prog w = .ok (.func fn first cap) w := fun _ _ _ _ => rfl
  go_enter Try.func56, Try.ntmps56
  go_wp2
  go_ret
  exact ⟨rfl, rfl⟩
set_option maxHeartbeats 1000000 in
theorem homed_any (g : Nat) (w : World) :
    Calls Try.prog 60 #[.pointer (some ⟨g, 0, none⟩)] w fun e w' => e = .returned (.func (.func 80) #[] #[.pointer (some ⟨w.heap.size, 0, none⟩)]) ∧ w' = w.alloc (.cells #[.pointer (some ⟨g, 0, none⟩)] 56) := by
  have hmf : ∀ (fn : Fn) (first cap : Array Value) (w : World), (Instr.makeFunc fn first cap).run Try.prog w = .ok (.func fn first cap) w := fun _ _ _ _ => rfl
  go_enter Try.func60, Try.ntmps60
  go_wp2
  go_ret
  exact ⟨rfl, rfl⟩

def rowSteps (a : Nat) (bs : List ByteArray) : List Step := stepsL (fun t => ((a + t : Nat) : Int)) (blk bs) bs.length
def homeSteps (a : Nat) (pl : List Nat) (bs : List ByteArray) : List Step := stepsL (fun t => ((a + pl.getD t 0 : Nat) : Int)) (blk bs) pl.length

theorem row_write (w : World) (g : Nat) (v : WV) (d : D) (img bl : List ByteArray) (pl : List Nat) (h : Wk w g v d img pl bl) (hl : d.left ≤ 9223372036854775807) (a : Nat) (ha : a ≤ 4096) (x : Int) (hx : x = (a : Int)) (L : Option Addr) (m c : Nat) (bs : List ByteArray) (hm : m ≤ 4096) (hR : Reads w w.heap.size 1 L m (encS bs)) :
    Calls Try.prog 55 #[.pointer (some ⟨g, 0, none⟩), .func (.func 73) #[] #[.pointer (some ⟨w.heap.size + 1, 0, none⟩), .pointer (some ⟨w.heap.size, 0, none⟩)]] ((w.alloc (.cells #[.int .i64 x] 3)).alloc (.cells #[.slice L m c] 22)) fun e w' =>
      e = .returned (.int .i64 (runD (d, 0) (rowSteps a bs)).2) ∧ ∃ v', Ndev v v' ∧ Wk w' g v' (runD (d, 0) (rowSteps a bs)).1 img pl bl ∧ w.grownBy w' (some g) := by
  subst hx
  have hb : Below w.heap.size w ((w.alloc (.cells #[.int .i64 a] 3)).alloc (.cells #[.slice L m c] 22)) := ((Below.refl _ w).alloc (Nat.le_refl _) _).alloc (by simp) _
  have bf := (Boxed.new w 3 (.int .i64 a)).alloc (.cells #[.slice L m c] 22)
  have bs' := Boxed.new (w.alloc (.cells #[.int .i64 a] 3)) 22 (.slice L m c)
  simp only [World.size_alloc] at bs'
  have hgl := h.blk.lt
  have hfar := fun hn => far_str h.blk hR hn
  have hR2 := hR.step hb
  have h2 := h.step hb
  have hz : ((w.alloc (.cells #[.int .i64 a] 3)).alloc (.cells #[.slice L m c] 22)).heap.size = w.heap.size + 2 := by simp
  have hml : bs.length = m := hR.lenS
  generalize (w.alloc (.cells #[.int .i64 a] 3)).alloc (.cells #[.slice L m c] 22) = W at hb bf bs' hR2 h2 hz ⊢
  have hw := write_it W g v d img bl pl h2 hl 73 #[.pointer (some ⟨w.heap.size + 1, 0, none⟩), .pointer (some ⟨w.heap.size, 0, none⟩)] (enters_of Try.func73 (by kernel_rfl) rfl) m (fun t => ((a + t : Nat) : Int)) (blk bs)
    (fun l J Jx W' hW hJ _ hY h0 => inRow1_in Fence.wide 2 trivial rfl (by omega) l (w.heap.size + 1) w.heap.size g W.heap.size a bs m c L hm ha ⟨by omega, by omega⟩ J Jx hY W' ((hW.cell (p := ⟨w.heap.size + 1, 0, none⟩) (by show w.heap.size + 1 < W.heap.size; omega)).trans bs'.cell) ((hW.cell (p := ⟨w.heap.size, 0, none⟩) (by show w.heap.size < W.heap.size; omega)).trans bf.cell) (hR2.below hW) hfar h0)
  refine hw.mono fun e w' hh => ?_
  unfold rowSteps
  rw [hml]
  obtain ⟨h1, v', h3, h4, h5⟩ := hh
  exact ⟨h1, v', h3, h4, grown_trans (grown_of_below hb (some g)) h5⟩

theorem home_write (w : World) (g : Nat) (v : WV) (d : D) (img bl : List ByteArray) (pl : List Nat) (h : Wk w g v d img pl bl) (hl : d.left ≤ 9223372036854775807) (a : Nat) (ha : a ≤ 4096) (hp : v.p2 = a) (hj : v.j = v.k) (hk : v.k ≤ 4096) (hpl : ∀ k, k < v.k → pl.getD k 0 < 65536) :
    Calls Try.prog 55 #[.pointer (some ⟨g, 0, none⟩), .func (.func 80) #[] #[.pointer (some ⟨w.heap.size, 0, none⟩)]] (w.alloc (.cells #[.pointer (some ⟨g, 0, none⟩)] 56)) fun e w' =>
      e = .returned (.int .i64 (runD (d, 0) (homeSteps a pl bl)).2) ∧ ∃ v', Ndev v v' ∧ Wk w' g v' (runD (d, 0) (homeSteps a pl bl)).1 img pl bl ∧ w.grownBy w' (some g) := by
  have hb : Below w.heap.size w (w.alloc (.cells #[.pointer (some ⟨g, 0, none⟩)] 56)) := alloc_below0 w _
  have bw := Boxed.new w 56 (.pointer (some ⟨g, 0, none⟩))
  have hgl := h.blk.lt
  have h2 := h.step hb
  have hz : (w.alloc (.cells #[.pointer (some ⟨g, 0, none⟩)] 56)).heap.size = w.heap.size + 1 := by simp
  have hml : pl.length = v.k := h.pl.lenN
  generalize w.alloc (.cells #[.pointer (some ⟨g, 0, none⟩)] 56) = W at hb bw h2 hz ⊢
  have hgW := h2.blk.lt
  obtain ⟨_, _, q2, _⟩ := h2.blk.p
  have q10 := h2.blk.pl
  have q11 := h2.blk.bl
  rw [hp] at q2
  rw [hj] at q11
  have hbl := h2.bl
  rw [hj] at hbl
  have hw := write_it W g v d img bl pl h2 hl 80 #[.pointer (some ⟨w.heap.size, 0, none⟩)] (enters_of Try.func80 (by kernel_rfl) rfl) v.k (fun t => ((a + pl.getD t 0 : Nat) : Int)) (blk bl)
    (fun l J Jx W' hW hJ _ hY h0 => homed1_in 2 (by omega) l w.heap.size g W.heap.size a pl bl v.k v.kc v.jc v.P v.L hk ha ⟨by omega, by omega⟩ hpl J Jx hY W' ((hW.cell (p := ⟨w.heap.size, 0, none⟩) (by show w.heap.size < W.heap.size; omega)).trans bw.cell) ((hW.cell (p := ⟨g, 2, none⟩) hgW).trans q2) ((hW.cell (p := ⟨g, 10, none⟩) hgW).trans q10) ((hW.cell (p := ⟨g, 11, none⟩) hgW).trans q11) (h2.pl.below hW) h2.far (hbl.below hW) (fun hn => far_str h2.blk hbl hn) (fun pre A h => hJ pre A A.drew none h ⟨rfl, rfl, rfl, Nat.le_refl _, fun _ _ _ => rfl⟩ (fun r e => by cases e)) h0)
  refine hw.mono fun e w' hh => ?_
  unfold homeSteps
  rw [hml]
  obtain ⟨h1, v', h3, h4, h5⟩ := hh
  exact ⟨h1, v', h3, h4, grown_trans (grown_of_below hb (some g)) h5⟩

end Go.Proofs.Ytlpijikhbjkmfaa
