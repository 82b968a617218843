/-
  The program's work in memory: thirteen cells; what its slices hold; what a step leaves alone.
-/
import Derived.Test.YtlpijikhbjkmfaaG19
import Derived.Test.YtlpijikhbjkmfaaG09
import Derived.Test.YtlpijikhbjkmfaaG14
import Derived.Test.YtlpijikhbjkmfaaG13
namespace Go.Proofs.Ytlpijikhbjkmfaa
open Go.RowKit

structure WV where
  p0 : Int
  p1 : Int
  p2 : Int
  p3 : Int
  A : Option Addr
  n : Nat
  c : Nat
  A' : Option Addr
  m : Nat
  c' : Nat
  l : Int
  z : Bool
  I : Option Addr
  i : Nat
  ic : Nat
  sq : Nat
  P : Option Addr
  k : Nat
  kc : Nat
  L : Option Addr
  j : Nat
  jc : Nat
  dn : Bool
def WV.cells (v : WV) : Array Value := #[.int .i64 v.p0, .int .i64 v.p1, .int .i64 v.p2, .int .i64 v.p3, .slice v.A v.n v.c, .slice v.A' v.m v.c', .int .i64 v.l, .bool v.z, .slice v.I v.i v.ic, .int .u64 v.sq, .slice v.P v.k v.kc, .slice v.L v.j v.jc, .bool v.dn]
/-- The block g is a work's variable. -/
def W13 (w : World) (g : Nat) (v : WV) : Prop := w.heap[g]? = some (.cells v.cells 61 (0, 0))
section
variable {w w' : World} {g : Nat} {v : WV}
theorem W13.lt (h : W13 w g v) : g < w.heap.size := (Array.getElem?_eq_some_iff.1 h).1
theorem W13.get (h : W13 w g v) (o : Nat) : w.cell? ⟨g, o, none⟩ = v.cells[o]? := by
  unfold W13 at h
  simp [World.cell?, h]
theorem W13.p (h : W13 w g v) : w.cell? ⟨g, 0, none⟩ = some (.int .i64 v.p0) ∧ w.cell? ⟨g, 1, none⟩ = some (.int .i64 v.p1) ∧ w.cell? ⟨g, 2, none⟩ = some (.int .i64 v.p2) ∧ w.cell? ⟨g, 3, none⟩ = some (.int .i64 v.p3) := ⟨h.get 0, h.get 1, h.get 2, h.get 3⟩
theorem W13.d (h : W13 w g v) : w.cell? ⟨g, 4, none⟩ = some (.slice v.A v.n v.c) ∧ w.cell? ⟨g, 5, none⟩ = some (.slice v.A' v.m v.c') ∧ w.cell? ⟨g, 6, none⟩ = some (.int .i64 v.l) ∧ w.cell? ⟨g, 7, none⟩ = some (.bool v.z) := ⟨h.get 4, h.get 5, h.get 6, h.get 7⟩
theorem W13.im (h : W13 w g v) : w.cell? ⟨g, 8, none⟩ = some (.slice v.I v.i v.ic) := h.get 8
theorem W13.sq (h : W13 w g v) : w.cell? ⟨g, 9, none⟩ = some (.int .u64 v.sq) := h.get 9
theorem W13.pl (h : W13 w g v) : w.cell? ⟨g, 10, none⟩ = some (.slice v.P v.k v.kc) := h.get 10
theorem W13.bl (h : W13 w g v) : w.cell? ⟨g, 11, none⟩ = some (.slice v.L v.j v.jc) := h.get 11
theorem W13.dn (h : W13 w g v) : w.cell? ⟨g, 12, none⟩ = some (.bool v.dn) := h.get 12
theorem W13.f (h : W13 w g v) (o : Nat) : w.frozen? ⟨g, o, none⟩ = false := by
  unfold W13 at h
  simp [World.frozen?, h]
theorem W13.step (h : W13 w g v) (hb : Below w.heap.size w w') : W13 w' g v := (hb.block g h.lt).trans h
theorem W13.kept {row : Option Nat} (h : W13 w g v) (hg : w.grownBy w' row) (hr : some g ≠ row) : W13 w' g v := (hg.block g h.lt hr).trans h
theorem W13.set_ (h : W13 w g v) (i : Nat) (u : Value) {v' : WV} (hv : v.cells.setIfInBounds i u = v'.cells) : W13 (w.setCell ⟨g, i, none⟩ u) g v' := by
  unfold W13 at h ⊢
  simp [World.setCell, Array.getElem?_modify, h, hv]
theorem W13.far (h : W13 w g v) {p : Addr} (hp : g ≠ p.block) (u : Value) : W13 (w.setCell p u) g v := (Below.heap_setCell w p u g hp).trans h
theorem no_string (v : WV) : ∀ (o : Nat) (s : ByteArray), v.cells[o]? ≠ some (Value.string s) := by
  intro o s h
  have := Array.mem_of_getElem? h
  simp [WV.cells] at this
/-- Texts don't lie in a work's variable. -/
theorem far_str {B n : Nat} {A : Option Addr} {bs : List ByteArray} (h : W13 w g v) (hr : Reads w B 1 A n (encS bs)) (hn : 0 < n) : ∀ ad, A = some ad → ad.block ≠ g := by
  intro ad e hg
  obtain ⟨b, o, e2, _, hc⟩ := hr.str hn
  rw [e2] at e
  injection e with e
  subst e
  dsimp only at hg
  subst hg
  rw [h.get] at hc
  exact no_string v _ _ hc
theorem far_wr {B n : Nat} {A : Option Addr} {cs : List (Int × ByteArray)} (h : W13 w g v) (hr : Reads w B 2 A n (encW cs)) (hn : 0 < n) : ∀ ad, A = some ad → ad.block ≠ g := by
  intro ad e hg
  obtain ⟨b, o, e2, _, _, hc⟩ := hr.wr hn
  rw [e2] at e
  injection e with e
  subst e
  dsimp only at hg
  subst hg
  rw [h.get] at hc
  exact no_string v _ _ hc
end

/-- Over what leaves all blocks alone but g. -/
theorem Reads.grown {w w' : World} {_B size n g : Nat} {A : Option Addr} {xs : List Value} (h : Reads w w.heap.size size A n xs) (hf : 0 < n → ∀ ad, A = some ad → ad.block ≠ g) (hg : w.grownBy w' (some g)) : Reads w' w'.heap.size size A n xs :=
  ⟨h.1, fun hn => by
    obtain ⟨b, o, e, hb, hc⟩ := h.2 hn
    refine ⟨b, o, e, Nat.lt_of_lt_of_le hb hg.size, fun j u hu => ?_⟩
    rw [World.cell?_of_block (a := ⟨b, o + j, none⟩) (hg.block b hb (fun e2 => hf hn _ e (by injection e2)))]
    exact hc j u hu⟩

/-- A work: its device, its image, its places and blocks. -/
structure Wk (w : World) (g : Nat) (v : WV) (d : D) (img : List ByteArray) (pl : List Nat) (bl : List ByteArray) : Prop where
  blk : W13 w g v
  dv : Dv w w.heap.size v.A v.n v.A' v.m d
  hl : v.l = d.left
  hz : v.z = d.dead
  im : Reads w w.heap.size 1 v.I v.i (encS img)
  hi : v.i * 16 ≤ 140737488355328
  pl : Reads w w.heap.size 1 v.P v.k (encN pl)
  far : 0 < v.k → ∀ ad, v.P = some ad → ad.block ≠ g
  hk : v.k ≤ v.kc ∧ v.kc ≤ 9223372036854775807
  bl : Reads w w.heap.size 1 v.L v.j (encS bl)
  hj : v.j ≤ v.jc ∧ v.j * 16 ≤ 140737488355328
section
variable {w w' : World} {g : Nat} {v v' : WV} {d : D} {img bl : List ByteArray} {pl : List Nat}
theorem Wk.step (h : Wk w g v d img pl bl) (hb : Below w.heap.size w w') : Wk w' g v d img pl bl :=
  ⟨h.blk.step hb, h.dv.step hb, h.hl, h.hz, h.im.step hb, h.hi, h.pl.step hb, h.far, h.hk, h.bl.step hb, h.hj⟩
theorem Wk.drewN (h : Wk w g v d img pl bl) (q : Nat) : Wk (w.drewN q) g v d img pl bl := ⟨h.blk, ⟨h.dv.bs, h.dv.cs, h.dv.hn, h.dv.hm⟩, h.hl, h.hz, h.im, h.hi, h.pl, h.far, h.hk, h.bl, h.hj⟩
theorem Wk.imgr (h : Wk w g v d img pl bl) (hg : w.grownBy w' (some g)) : Reads w' w'.heap.size 1 v.I v.i (encS img) := h.im.grown (_B := 0) (far_str h.blk h.im) hg
theorem Wk.blgr (h : Wk w g v d img pl bl) (hg : w.grownBy w' (some g)) : Reads w' w'.heap.size 1 v.L v.j (encS bl) := h.bl.grown (_B := 0) (far_str h.blk h.bl) hg
theorem Wk.plgr (h : Wk w g v d img pl bl) (hg : w.grownBy w' (some g)) : Reads w' w'.heap.size 1 v.P v.k (encN pl) := h.pl.grown (_B := 0) h.far hg
theorem Wk.dvgr (h : Wk w g v d img pl bl) (hg : w.grownBy w' (some g)) : Dv w' w'.heap.size v.A v.n v.A' v.m d := ⟨h.dv.bs.grown (_B := 0) (far_str h.blk h.dv.bs) hg, h.dv.cs.grown (_B := 0) (far_wr h.blk h.dv.cs) hg, h.dv.hn, h.dv.hm⟩
end
theorem grown_of_below {w w' : World} (h : Below w.heap.size w w') (r : Option Nat) : w.grownBy w' r := ⟨h.os, h.tape, h.output, h.size, fun k hk _ => h.block k hk⟩
theorem grown_trans {w w' w'' : World} {g : Nat} (h : w.grownBy w' (some g)) (h2 : w'.grownBy w'' (some g)) : w.grownBy w'' (some g) :=
  ⟨h2.os.trans h.os, h2.tape.trans h.tape, h2.output.trans h.output, Nat.le_trans h.size h2.size, fun k hk hne => (h2.block k (Nat.lt_of_lt_of_le hk h.size) hne).trans (h.block k hk hne)⟩
theorem grown_set (w : World) (g i : Nat) (u : Value) : w.grownBy (w.setCell ⟨g, i, none⟩ u) (some g) :=
  ⟨rfl, rfl, rfl, by simp, fun k _ hk => Below.heap_setCell w ⟨g, i, none⟩ u k (fun e => hk (by rw [e]))⟩
theorem grown_drewN (w : World) (q : Nat) (r : Option Nat) : w.grownBy (w.drewN q) r := ⟨rfl, rfl, rfl, Nat.le_refl _, fun _ _ _ => rfl⟩

/-- The device stored into the work. -/
def putW (w : World) (g : Nat) (a b c d : Value) : World := (((w.setCell ⟨g, 4, none⟩ a).setCell ⟨g, 5, none⟩ b).setCell ⟨g, 6, none⟩ c).setCell ⟨g, 7, none⟩ d
theorem putW_grown (w : World) (g : Nat) (a b c d : Value) : w.grownBy (putW w g a b c d) (some g) :=
  grown_trans (grown_trans (grown_trans (grown_set _ _ _ _) (grown_set _ _ _ _)) (grown_set _ _ _ _)) (grown_set _ _ _ _)
theorem putW_w13 {w : World} {g : Nat} {v : WV} (h : W13 w g v) (A : Option Addr) (n c : Nat) (A' : Option Addr) (m c' : Nat) (l : Int) (z : Bool) :
    W13 (putW w g (.slice A n c) (.slice A' m c') (.int .i64 l) (.bool z)) g { v with A := A, n := n, c := c, A' := A', m := m, c' := c', l := l, z := z } := by
  have h1 := h.set_ 4 (.slice A n c) (v' := { v with A := A, n := n, c := c }) rfl
  have h2 := h1.set_ 5 (.slice A' m c') (v' := { v with A := A, n := n, c := c, A' := A', m := m, c' := c' }) rfl
  have h3 := h2.set_ 6 (.int .i64 l) (v' := { v with A := A, n := n, c := c, A' := A', m := m, c' := c', l := l }) rfl
  exact h3.set_ 7 (.bool z) (v' := { v with A := A, n := n, c := c, A' := A', m := m, c' := c', l := l, z := z }) rfl
theorem Wk.put {w : World} {g : Nat} {v : WV} {d d2 : D} {img bl : List ByteArray} {pl : List Nat} (h : Wk w g v d img pl bl) {A : Option Addr} {n c : Nat} {A' : Option Addr} {m c' : Nat} (hd : Dv w w.heap.size A n A' m d2) :
    Wk (putW w g (.slice A n c) (.slice A' m c') (.int .i64 d2.left) (.bool d2.dead)) g { v with A := A, n := n, c := c, A' := A', m := m, c' := c', l := d2.left, z := d2.dead } d2 img pl bl := by
  have hg := putW_grown w g (.slice A n c) (.slice A' m c') (.int .i64 d2.left) (.bool d2.dead)
  exact ⟨putW_w13 h.blk A n c A' m c' d2.left d2.dead, ⟨hd.bs.grown (_B := 0) (far_str h.blk hd.bs) hg, hd.cs.grown (_B := 0) (far_wr h.blk hd.cs) hg, hd.hn, hd.hm⟩, rfl, rfl, h.imgr hg, h.hi, h.plgr hg, h.far, h.hk, h.blgr hg, h.hj⟩

end Go.Proofs.Ytlpijikhbjkmfaa

/-
  The work's questions and its flush: the program's methods.
-/
namespace Go.Proofs.Ytlpijikhbjkmfaa
open Go.RowKit

def fitsE (p3 : Int) (n : Nat) : Int := if p3 = 0 then 13 else if (n : Int) ≠ p3 then 14 else 0
set_option maxRecDepth 100000 in
set_option maxHeartbeats 1000000 in
theorem fits_wk (w : World) (g : Nat) (v : WV) (h : W13 w g v) :
    Calls Try.prog 21 #[.pointer (some ⟨g, 0, none⟩)] w fun e w' => e = .returned (.int .i64 (fitsE v.p3 v.n)) ∧ ∃ q, w' = w.drewN q := by
  obtain ⟨q0, q1, q2, q3⟩ := h.p
  obtain ⟨d0, d1, d2, d3⟩ := h.d
  by_cases h0 : v.p3 = 0
  · have h0' : (v.p3 == 0) = true := by rw [h0]; rfl
    have HE : Hid (fitsE v.p3 v.n = 13) := Lib.hid (if_pos h0)
    rw [HE.out]
    clear h0
    go_enter Try.func21, Try.ntmps21
    go_wp2
    go_ret
    exact ⟨rfl, 0, rfl⟩
  · have h0' : (v.p3 == 0) = false := by simpa using h0
    by_cases h1 : (v.n : Int) = v.p3
    · have h1' : ((v.n : Int) != v.p3) = false := by simpa using h1
      have HE : Hid (fitsE v.p3 v.n = 0) := Lib.hid (by unfold fitsE; rw [if_neg h0, if_neg (fun e => e h1)])
      rw [HE.out]
      clear h0 h1
      go_enter Try.func21, Try.ntmps21
      go_wp2_with fail
      go_quiet (fail)
      go_wp2
      go_ret
      exact ⟨rfl, nq, rfl⟩
    · have h1' : ((v.n : Int) != v.p3) = true := by simpa using h1
      have HE : Hid (fitsE v.p3 v.n = 14) := Lib.hid (by unfold fitsE; rw [if_neg h0, if_pos h1])
      rw [HE.out]
      clear h0 h1
      go_enter Try.func21, Try.ntmps21
      go_wp2_with fail
      go_quiet (fail)
      go_wp2
      go_ret
      exact ⟨rfl, nq, rfl⟩

set_option maxRecDepth 100000 in
set_option maxHeartbeats 2000000 in
theorem hasImage_wk (w : World) (g : Nat) (v : WV) (img : List ByteArray) (h : W13 w g v) (hi : Reads w w.heap.size 1 v.I v.i (encS img)) (h63 : v.i ≤ 9223372036854775807) (hp : 0 ≤ v.p2 ∧ v.p2 ≤ 4096 ∧ 0 ≤ v.p3 ∧ v.p3 ≤ 4096) :
    Calls Try.prog 22 #[.pointer (some ⟨g, 0, none⟩)] w fun e w' => e = .returned (.int .i64 (if ImageP img (v.p3 - v.p2) then 0 else 14)) ∧ ∃ q, w' = w.drewN q := by
  obtain ⟨q0, q1, q2, q3⟩ := h.p
  have q8 := h.im
  have HI := Lib.hid hi
  have HL := Lib.hid hi.lenS
  obtain ⟨hp1, hp2, hp3, hp4⟩ := hp
  clear hi
  obtain ⟨r, hr⟩ : ∃ r : Int, r = if ImageP img (v.p3 - v.p2) then 0 else 14 := ⟨_, rfl⟩
  rw [← hr]
  have HR := Lib.hid hr
  clear hr
  by_cases h1 : (v.i : Int) = v.p3 - v.p2
  · have h1' : ((v.i : Int) != v.p3 - v.p2) = false := by simpa using h1
    have HV := Lib.hid h1
    clear h1
    obtain ⟨n, hn⟩ : ∃ n, n = v.i := ⟨_, rfl⟩
    have hn63 : (n : Int) ≤ 9223372036854775807 := by omega
    generalize v.I = I at q8 HI
    generalize v.ic = ic at q8
    rw [← hn] at HI HL HV h1' q8
    go_enter Try.func22, Try.ntmps22
    go_wp2_with fail
    go_quiet (fail)
    have HI2 : Hid (Reads (w.drewN nq) w.heap.size 1 I n (encS img)) := Lib.hid HI.out
    go_wp2
    go_loopg [27] n (fun g' s27 wr => ∃ i : Nat, i ≤ n ∧ n - i ≤ g' ∧ s27 = .int .i64 i ∧ w.drewN nq = wr ∧ Hid (∀ k, k < i → (blk img k).size = 128))
    case atStart => exact ⟨0, Nat.zero_le _, by omega, rfl, rfl, Lib.hid fun k hk => absurd hk (Nat.not_lt_zero _)⟩
    case round =>
      obtain ⟨i, hi, hg, rfl, rfl, J⟩ := hrel
      by_cases hlt : i < n
      · have hin : (i : Int) < (n : Int) := by omega
        obtain ⟨b1, o1, rfl, _, g1⟩ := HI2.out.str hlt
        by_cases hs : (blk img i).size = 128
        · have f1 : (((blk img i).size : Int) != 128) = false := by rw [hs]; rfl
          have JN : Hid (∀ k, k < i + 1 → (blk img k).size = 128) := Lib.hid fun k hk => by
            by_cases e : k = i
            · rw [e]; exact hs
            · exact J.out k (by omega)
          clear hs
          go_wp2
          go_roundg (n - (i + 1))
          case measure => omega
          case rel => exact ⟨i + 1, by omega, by omega, by go_num, rfl, JN⟩
        · have f1 : (((blk img i).size : Int) != 128) = true := by simp; omega
          have hno : r = 14 := HR.out.trans (if_neg fun hP => hs (hP.1 _ (List.mem_of_getElem? (blk_get (by rw [HL.out]; exact hlt)))))
          clear hs
          go_wp2
          go_ret
          rw [hno]
          exact ⟨rfl, nq, rfl⟩
      · have : i = n := by omega
        subst this
        have hyes : r = 0 := HR.out.trans (if_pos ⟨fun s hs => by
          obtain ⟨k, hk, e⟩ := List.mem_iff_getElem.1 hs
          have h2 := blk_get hk
          rw [List.getElem?_eq_getElem hk, e] at h2
          injection h2 with h2
          rw [h2]
          exact J.out k (by rw [← HL.out]; exact hk), by rw [HL.out]; exact HV.out⟩)
        go_wp2
        go_ret
        rw [hyes]
        exact ⟨rfl, nq, rfl⟩
  · have h1' : ((v.i : Int) != v.p3 - v.p2) = true := by simpa using h1
    have hno : Hid (r = 14) := Lib.hid (HR.out.trans (if_neg fun hP => h1 (by rw [← HL.out]; exact hP.2)))
    clear h1
    go_enter Try.func22, Try.ntmps22
    go_wp2_with fail
    go_quiet (fail)
    go_wp2
    go_ret
    rw [hno.out]
    exact ⟨rfl, nq, rfl⟩

def clearE (d : D) : Int := if (readD d 0).2 = 0 ∧ (readD d 0).1 ≠ zeroB then 14 else (readD d 0).2
theorem pad_none : padL [] = zeroB := by decide +kernel
set_option maxRecDepth 100000 in
set_option maxHeartbeats 2000000 in
theorem isClear_wk (w : World) (g : Nat) (v : WV) (d : D) (img bl : List ByteArray) (pl : List Nat) (h : Wk w g v d img pl bl) :
    Calls Try.prog 23 #[.pointer (some ⟨g, 0, none⟩)] w fun e w' => e = .returned (.int .i64 (clearE d)) ∧ Below w.heap.size w w' := by
  obtain ⟨d0, d1, d2, d3⟩ := h.blk.d
  rw [h.hl] at d2
  rw [h.hz] at d3
  have cr := read_any v.A v.A' v.n v.c v.m v.c' d 0 w h.dv
  have cp := fun W => padded_any ⟨#[]⟩ W (by decide)
  rw [show padL (⟨#[]⟩ : ByteArray).data.toList = zeroB from pad_none] at cp
  unfold clearE
  generalize (readD d 0).1 = s at cr ⊢
  generalize (readD d 0).2 = x at cr ⊢
  by_cases hx : x = 0
  · subst hx
    by_cases hs : s = zeroB
    · have ht := bytes_same hs
      have HE : Hid ((if (0 : Int) = 0 ∧ s ≠ zeroB then (14 : Int) else 0) = 0) := Lib.hid (if_neg fun hh => hh.2 hs)
      rw [HE.out]
      clear hs
      go_enter Try.func23, Try.ntmps23
      go_wp2_with (first | (go_at_call 53; refine cr.mono ?_; rintro e w1 ⟨rfl, hb1⟩) | (go_at_call 54; refine (cp _).mono ?_; rintro e w2 ⟨rfl, hb2⟩))
      go_ret
      exact ⟨rfl, bstep hb1 hb2⟩
    · have ht := bytes_other hs
      have HE : Hid ((if (0 : Int) = 0 ∧ s ≠ zeroB then (14 : Int) else 0) = 14) := Lib.hid (if_pos ⟨rfl, hs⟩)
      rw [HE.out]
      clear hs
      go_enter Try.func23, Try.ntmps23
      go_wp2_with (first | (go_at_call 53; refine cr.mono ?_; rintro e w1 ⟨rfl, hb1⟩) | (go_at_call 54; refine (cp _).mono ?_; rintro e w2 ⟨rfl, hb2⟩))
      go_ret
      exact ⟨rfl, bstep hb1 hb2⟩
  · have hx' : (x == 0) = false := by simpa using hx
    have HE : Hid ((if x = 0 ∧ s ≠ zeroB then (14 : Int) else x) = x) := Lib.hid (if_neg fun hh => hx hh.1)
    rw [HE.out]
    clear hx
    go_enter Try.func23, Try.ntmps23
    go_wp2_with (first | (go_at_call 53; refine cr.mono ?_; rintro e w1 ⟨rfl, hb1⟩) | (go_at_call 54; refine (cp _).mono ?_; rintro e w2 ⟨rfl, hb2⟩))
    go_ret
    exact ⟨rfl, hb1⟩

set_option maxRecDepth 100000 in
set_option maxHeartbeats 1000000 in
theorem setDone_wk (w : World) (g : Nat) (v : WV) (h : W13 w g v) :
    Calls Try.prog 29 #[.pointer (some ⟨g, 0, none⟩)] w fun e w' => e = .returned (.int .i64 0) ∧ w' = w.setCell ⟨g, 12, none⟩ (.bool true) := by
  have q := h.dn
  have qf := h.f 12
  go_enter Try.func29, Try.ntmps29
  go_wp2
  go_ret
  exact ⟨rfl, rfl⟩

end Go.Proofs.Ytlpijikhbjkmfaa

/-
  The work's flush, and what it reads of the device: the program's methods.
-/
namespace Go.Proofs.Ytlpijikhbjkmfaa
open Go.RowKit

/-- The same but for the device. -/
def Ndev (v v' : WV) : Prop := ∃ (A : Option Addr) (n c : Nat) (A' : Option Addr) (m c' : Nat) (l : Int) (z : Bool), v' = { v with A := A, n := n, c := c, A' := A', m := m, c' := c', l := l, z := z }
theorem Ndev.refl (v : WV) : Ndev v v := ⟨v.A, v.n, v.c, v.A', v.m, v.c', v.l, v.z, rfl⟩
theorem Ndev.trans {a b c : WV} (h : Ndev a b) (k : Ndev b c) : Ndev a c := by
  obtain ⟨A, n, c1, A', m, c', l, z, rfl⟩ := h
  obtain ⟨A, n, c1, A', m, c', l, z, rfl⟩ := k
  exact ⟨A, n, c1, A', m, c', l, z, rfl⟩
/-- A block made, and a device stored into it. -/
theorem box_below (w : World) (a b c d a2 b2 c2 d2 : Value) : Below w.heap.size w (putD (w.alloc (.cells #[a, b, c, d] 25)) w.heap.size a2 b2 c2 d2) :=
  putD_below (alloc_below0 w _) (Nat.le_refl _)

set_option maxRecDepth 100000 in
set_option maxHeartbeats 2000000 in
theorem flush_wk (w : World) (g : Nat) (v : WV) (d : D) (img bl : List ByteArray) (pl : List Nat) (h : Wk w g v d img pl bl) (hl : d.left ≤ 9223372036854775807) (hm : d.cs.length ≤ 4096) :
    Calls Try.prog 27 #[.pointer (some ⟨g, 0, none⟩)] w fun e w' => e = .returned (.int .i64 (flushD d).2) ∧ ∃ v', Ndev v v' ∧ Wk w' g v' (flushD d).1 img pl bl ∧ w.grownBy w' (some g) := by
  obtain ⟨d0, d1, d2, d3⟩ := h.blk.d
  rw [h.hl] at d2
  rw [h.hz] at d3
  have H := Lib.hid h
  have hgl := h.blk.lt
  have cf := flush_any v.A v.A' v.n v.c v.m v.c' d w h.dv hl (by rw [← h.dv.cs.lenW]; exact hm)
  clear h
  generalize (flushD d).1 = dn at cf ⊢
  generalize (flushD d).2 = x at cf ⊢
  go_enter Try.func27, Try.ntmps27
  go_wp2_with fail
  refine cf.mono ?_
  rintro e w1 ⟨A, n, c, A', m, c', rfl, hd1, hb1⟩
  have H1 := Lib.hid (H.out.step hb1)
  have HD := Lib.hid (And.intro hd1 hb1)
  obtain ⟨y0, y1, y2, y3⟩ := H1.out.blk.d
  have yf := H1.out.blk.f
  have hg1 : g < w1.heap.size := H1.out.blk.lt
  have hne : w1.heap.size ≠ g := by omega
  clear d0 d1 d2 d3 hd1 hb1 cf
  go_wp2
  go_ret
  have P2 := (H1.out.put (c := c) (c' := c') HD.out.1).step (alloc_below0 _ (.cells #[.slice A n c, .slice A' m c', .int .i64 dn.left, .bool dn.dead] 25))
  have G2 := grown_trans (grown_trans (grown_of_below HD.out.2 (some g)) (putW_grown w1 g (.slice A n c) (.slice A' m c') (.int .i64 dn.left) (.bool dn.dead))) (World.grownBy_alloc _ (.cells #[.slice A n c, .slice A' m c', .int .i64 dn.left, .bool dn.dead] 25) (some g))
  exact ⟨rfl, _, ⟨A, n, c, A', m, c', dn.left, dn.dead, rfl⟩, P2, G2⟩

/-- What is read of the blocks from a first one on. -/
def readL (d : D) (a k : Nat) : List ByteArray := (List.range k).map fun i => (readD d ((a + i : Nat) : Int)).1
theorem readL_succ (d : D) (a k : Nat) : readL d a (k + 1) = readL d a k ++ [(readD d ((a + k : Nat) : Int)).1] := by simp [readL, List.range_succ]
theorem readL_length (d : D) (a k : Nat) : (readL d a k).length = k := by simp [readL]

set_option maxRecDepth 100000 in
set_option maxHeartbeats 2000000 in
theorem read_dead_wk (w : World) (g : Nat) (v : WV) (d : D) (img bl : List ByteArray) (pl : List Nat) (h : Wk w g v d img pl bl) (a k : Nat) (hk : k ≤ 1024) (_ha : a ≤ 4096) (hk0 : 0 < k) (x : Int) (hx : x ≠ 0) (hbad : (readD d (a : Int)).2 = x) :
    Calls Try.prog 46 #[.pointer (some ⟨g, 0, none⟩), .int .i64 a, .int .i64 ((a + k : Nat) : Int)] w fun e w' => e = .returned (.tuple #[.slice none 0 0, .int .i64 x]) ∧ Below w.heap.size w w' := by
  obtain ⟨i0, hi0, hz0, hz1, hz2⟩ := info_parts infoS
  have H := Lib.hid h
  have HB := Lib.hid hbad
  clear h hbad
  have hx' : (x != 0) = true := by simpa using hx
  obtain ⟨b, hb⟩ : ∃ b : Nat, b = a + k := ⟨_, rfl⟩
  have hbi : (b : Int) - (a : Int) = (k : Int) := by omega
  have hlt : (a : Int) < (b : Int) := by omega
  rw [← hb]
  clear hb
  go_enter Try.func46, Try.ntmps46
  go_wp2_with (at_make; refine wpList_make_own _ rfl _ _ 22 rfl w.heap.size 9 i0 _ 1 Try.underlying22 hi0 hz0 hz1 .i64 .i64 _ k rfl rfl (by omega) (by rw [hz2]; omega) (by simp only [maxLen]; omega) (Nat.le_refl _) ?_; intro w1 ho1 hg1)
  have hb1 : Below w.heap.size w w1 := (Below.refl _ _).grown hg1 (Nat.le_refl _) (by intro k hk; cases hk)
  have H1 := Lib.hid (H.out.step hb1)
  have HB1 := Lib.hid hb1
  clear hb1 ho1 hg1
  go_loopg [8, 9] 1 (fun g' s8 s9 wr => s9 = .int .i64 a ∧ w1 = wr)
  case atStart => exact ⟨rfl, rfl⟩
  case round =>
    obtain ⟨rfl, rfl⟩ := hrel
    obtain ⟨d0, d1, d2, d3⟩ := H1.out.blk.d
    rw [H1.out.hl] at d2
    rw [H1.out.hz] at d3
    have cr := read_any v.A v.A' v.n v.c v.m v.c' d (a : Int) w1 H1.out.dv
    rw [HB.out] at cr
    generalize (readD d (a : Int)).1 = s at cr
    go_wp2_with (go_at_call 53; refine cr.mono ?_; rintro e w2 ⟨rfl, hb2⟩)
    go_ret2
    exact ⟨rfl, bstep HB1.out hb2⟩

set_option maxRecDepth 100000 in
set_option maxHeartbeats 2000000 in
theorem read_wk (w : World) (g : Nat) (v : WV) (d : D) (img bl : List ByteArray) (pl : List Nat) (h : Wk w g v d img pl bl) (a k : Nat) (hk : k ≤ 1024) (ha : a ≤ 4096) (hok : ∀ i, i < k → (readD d ((a + i : Nat) : Int)).2 = 0) :
    Calls Try.prog 46 #[.pointer (some ⟨g, 0, none⟩), .int .i64 a, .int .i64 ((a + k : Nat) : Int)] w fun e w' => ∃ A2 c2, e = .returned (.tuple #[.slice A2 k c2, .int .i64 0]) ∧ k ≤ c2 ∧ c2 ≤ maxLen ∧ w'.ownsRow w.heap.size 9 1 (.slice A2 k c2) k (encS (readL d a k)) ∧ Below w.heap.size w w' := by
  obtain ⟨i0, hi0, hz0, hz1, hz2⟩ := info_parts infoS
  have H := Lib.hid h
  have HO := Lib.hid hok
  clear h hok
  obtain ⟨b, hb⟩ : ∃ b : Nat, b = a + k := ⟨_, rfl⟩
  have hbi : (b : Int) - (a : Int) = (k : Int) := by omega
  have HBB := Lib.hid hb
  rw [← hb]
  clear hb
  go_enter Try.func46, Try.ntmps46
  go_wp2_with (at_make; refine wpList_make_own _ rfl _ _ 22 rfl w.heap.size 9 i0 _ 1 Try.underlying22 hi0 hz0 hz1 .i64 .i64 _ k rfl rfl (by omega) (by rw [hz2]; omega) (by simp only [maxLen]; omega) (Nat.le_refl _) ?_; intro w1 ho1 hg1)
  have hb1 : Below w.heap.size w w1 := (Below.refl _ _).grown hg1 (Nat.le_refl _) (by intro k hk; cases hk)
  have J1 : Hid (w1.ownsRow w.heap.size 9 1 (.slice (some ⟨w.heap.size, 0, none⟩) 0 k) 0 (encS (readL d a 0)) ∧ Below w.heap.size w w1) := Lib.hid ⟨ho1, hb1⟩
  clear hb1 ho1 hg1
  go_loopg [8, 9] k (fun g' s8 s9 wr => ∃ (i : Nat) (A2 : Option Addr) (c2 : Nat), i ≤ k ∧ k - i ≤ g' ∧ s9 = .int .i64 ((a + i : Nat) : Int) ∧ s8 = .slice A2 i c2 ∧ Hid (wr.ownsRow w.heap.size 9 1 (.slice A2 i c2) i (encS (readL d a i)) ∧ Below w.heap.size w wr))
  case atStart => exact ⟨0, _, _, Nat.zero_le _, by omega, by simp, rfl, J1⟩
  case round =>
    obtain ⟨i, A2, c2, hi, hg, rfl, rfl, J⟩ := hrel
    by_cases hlt : i < k
    · have hin : ((a + i : Nat) : Int) < (b : Int) := by have := HBB.out; omega
      have H1 := Lib.hid (H.out.step J.out.2)
      obtain ⟨d0, d1, d2, d3⟩ := H1.out.blk.d
      rw [H1.out.hl] at d2
      rw [H1.out.hz] at d3
      have cr := read_any v.A v.A' v.n v.c v.m v.c' d ((a + i : Nat) : Int) wr H1.out.dv
      rw [HO.out i hlt] at cr
      have HN := Lib.hid (readL_succ d a i)
      generalize (readD d ((a + i : Nat) : Int)).1 = s at cr HN
      obtain ⟨q, hq⟩ : ∃ q : Nat, q = a + i := ⟨_, rfl⟩
      rw [← hq] at hin cr ⊢
      have HQ := Lib.hid hq
      have hq2 : q ≤ 5120 := by omega
      clear hq
      go_wp2_with fail
      refine cr.mono ?_
      rintro e w2 ⟨rfl, hb2⟩
      have J2 : Hid (w2.ownsRow w.heap.size 9 1 (.slice A2 i c2) i (encS (readL d a i)) ∧ Below w.heap.size w w2) := Lib.hid ⟨own_below J.out.1 hb2, bstep J.out.2 hb2⟩
      clear hb2 d0 d1 d2 d3 cr
      go_wp2_with (at_builtin; refine wpList_append_reads _ rfl (.tmp 34) (.tmp 36) 22 rfl w.heap.size 9 i0 _ 1 16 Try.underlying22 hi0 hz0 hz1 hz2 rfl (by omega) (.slice A2 i c2) i (encS (readL d a i)) rfl (own_alloc J2.out.1 _) _ (some ⟨w2.heap.size, 0, none⟩) 1 1 [.string s] rfl (reads_new w2 #[.string s] 9 1 1 rfl) (by simp [Value.oneCell']) (by simp only [maxLen]; omega) (by omega) (by have := J2.out.2.size; simp; omega) ?_; intro A6 c6 w6 ho6 hg6 _)
      have JN : Hid (w6.ownsRow w.heap.size 9 1 (.slice A6 (i + 1) c6) (i + 1) (encS (readL d a (i + 1))) ∧ Below w.heap.size w w6) :=
        Lib.hid ⟨own_eq_vals ho6 (by rw [HN.out]; simp [encS]), (J2.out.2.alloc J2.out.2.size _).grown hg6 (by have := J2.out.2.size; simp; omega) (fun q hq => by have := own_row_ge J2.out.1 _ hq; omega)⟩
      clear ho6 hg6 J2
      go_roundg (k - (i + 1))
      case measure => omega
      case rel => exact ⟨i + 1, A6, c6, by omega, by omega, by rw [HQ.out]; go_num, rfl, JN⟩
    · have : i = k := by omega
      subst this
      have hnlt : ¬ ((a + i : Nat) : Int) < (b : Int) := by have := HBB.out; omega
      obtain ⟨q, hq⟩ : ∃ q : Nat, q = a + i := ⟨_, rfl⟩
      rw [← hq] at hnlt ⊢
      clear hq
      go_wp2
      go_ret2
      obtain ⟨A3, c3, he, hc3, hc4⟩ := own_slice J.out.1
      simp only [Value.slice.injEq, true_and] at he
      obtain ⟨rfl, rfl⟩ := he
      exact ⟨A2, c2, rfl, hc3, hc4, J.out.1, J.out.2⟩

end Go.Proofs.Ytlpijikhbjkmfaa

/-
  The blocks to write, handed out with their places: the program's two iterators.
-/
namespace Go.Proofs.Ytlpijikhbjkmfaa
open Go.RowKit Go.Shelf
attribute [local go_sem] Oper.semAt_some

/-- What a round keeps: all that lay ahead of n₁ but g; of g all but the device. -/
structure KpG (g n₁ : Nat) (A B : World) : Prop where
  below : Below g A B
  far : ∀ k, g < k → k < n₁ → B.heap[k]? = A.heap[k]?
  own : ∀ i, i < 4 ∨ 7 < i → B.cell? ⟨g, i, none⟩ = A.cell? ⟨g, i, none⟩
section
variable {g n₁ : Nat} {A B C : World}
theorem KpG.refl (A : World) : KpG g n₁ A A := ⟨Below.refl _ _, fun _ _ _ => rfl, fun _ _ => rfl⟩
theorem KpG.trans (h : KpG g n₁ A B) (k : KpG g n₁ B C) : KpG g n₁ A C := ⟨h.below.trans k.below, fun i h1 h2 => (k.far i h1 h2).trans (h.far i h1 h2), fun i hi => (k.own i hi).trans (h.own i hi)⟩
theorem KpG.block (h : KpG g n₁ A B) {k : Nat} (h1 : k < n₁) (h2 : k ≠ g) : B.heap[k]? = A.heap[k]? := by
  rcases Nat.lt_or_ge k g with h3 | h3
  · exact h.below.block k h3
  · exact h.far k (by omega) h1
theorem KpG.reads {size m : Nat} {P : Option Addr} {xs : List Value} (h : KpG g n₁ A B) (hr : Reads A n₁ size P m xs) (hf : 0 < m → ∀ ad, P = some ad → ad.block ≠ g) : Reads B n₁ size P m xs :=
  ⟨hr.1, fun hm => by
    obtain ⟨b, o, e, hb, hc⟩ := hr.2 hm
    exact ⟨b, o, e, hb, fun j u hu => (World.cell?_of_block (a := ⟨b, o + j, none⟩) (h.block hb (show b ≠ g from hf hm _ e))).trans (hc j u hu)⟩⟩
theorem kpG_put {z : Nat} (hg : g < z) (hz : n₁ ≤ z) (W : World) (l : Nat) (o o' : Obj) (hl : z ≤ l) (ho : W.heap[l]? = some o) (_hc : o.isCells = false) (_hw : o.isWalk = false) : KpG g n₁ W (W.putObj l o') :=
  ⟨(Below.refl g W).trans (putB_below (by omega) hl W o o' ho), fun k _ h2 => World.putObj_heap_other (by omega), fun i _ => World.cell?_of_block (a := ⟨g, i, none⟩) (World.putObj_heap_other (by show g ≠ l; omega))⟩
end

abbrev encsRow (a : Nat) (bs : List ByteArray) {m : Nat} (t : Fin m) : Array Value := #[.int .i64 ((a + t.val : Nat) : Int), .string (blk bs t.val)]

set_option maxRecDepth 100000 in
set_option maxHeartbeats 2000000 in
theorem inRow1_in (F : Fence) (n : Nat) (h6 : F.fn 73) (hro : F.round = none) (hn : 1 ≤ n) (l Bs Bf g n₁ a : Nat) (bs : List ByteArray) (m c : Nat) (L : Option Addr) (hm : m ≤ 4096) (ha : a ≤ 4096) (hBf : Bf < n₁ ∧ Bf ≠ g) (J Jx : List (Fin m) → World → Prop)
    (hY : ∀ (pre : List (Fin m)) (t : Fin m) (W : World), J pre W → pre.length < m → YieldAt F (n - 1) Try.prog l (encsRow a bs t) W fun e W' =>
      (e = .returned (.bool true) ∧ J (pre ++ [t]) W' ∧ KpG g n₁ W W') ∨ (e = .returned (.bool false) ∧ Jx (pre ++ [t]) W'))
    (W : World) (hcs : W.cell? ⟨Bs, 0, none⟩ = some (.slice L m c)) (hcf : W.cell? ⟨Bf, 0, none⟩ = some (.int .i64 a)) (hR : Reads W n₁ 1 L m (encS bs)) (hfar : 0 < m → ∀ ad, L = some ad → ad.block ≠ g) (h0 : J [] W) :
    CallsIn F n Try.prog 73 #[.func (.yield l) #[] #[], .pointer (some ⟨Bs, 0, none⟩), .pointer (some ⟨Bf, 0, none⟩)] W fun e W' => (∃ v, e = .returned v) ∧
      ((∃ ys, ys = upN m m ∧ J ys W') ∨ (∃ pre, (∃ k, k ≤ m ∧ pre = upN m k) ∧ Jx pre W')) := by
  have HF := Lib.hid hfar
  clear hfar
  refine callsIn_of_wp Try.func73 rfl h6 ?_ hro
  simp only [Try.ntmps73, List.size_toArray, List.length_cons, List.length_nil, Nat.reduceAdd, Nat.reduceSub, Array.replicate_succ, Array.replicate_zero, List.push_toArray, List.append_toArray, List.nil_append, List.cons_append]
  gi_wp2
  gi_loopw [8] (fun p wr => ∃ k : Nat, p = .int .i64 (k : Int) ∧ k ≤ m ∧ J (upN m k) wr ∧ wr.cell? ⟨Bf, 0, none⟩ = some (.int .i64 a) ∧ Reads wr n₁ 1 L m (encS bs)) (fun p _ => ((m : Int) - intOf p).toNat)
  case atStart => exact ⟨0, by simp, by omega, by simpa [upN] using h0, hcf, hR⟩
  case round =>
    obtain ⟨k, rfl, hk, hJ, hcf, hR⟩ := hrel
    by_cases h : k < m
    · have hlt : (k : Int) < (m : Int) := by omega
      obtain ⟨b1, o1, rfl, _, g1⟩ := hR.str h
      obtain ⟨fn, tmps, assign, body, hy, hRR⟩ := hY (upN m k) ⟨k, h⟩ wr hJ (by rw [upN_length m k (by omega)]; exact h)
      dsimp only [encsRow] at hy
      have hak : (a : Int) + (k : Int) = ((a + k : Nat) : Int) := by omega
      have HR := Lib.hid hR; clear hR
      generalize blk bs k = s at g1 hy
      obtain ⟨q, hq⟩ : ∃ q : Nat, q = a + k := ⟨_, rfl⟩
      rw [← hq] at hak hy
      have hq2 : q ≤ 8192 := by omega
      clear hq
      gi_wp2
      refine hRR.mono ?_
      rintro e W3 (⟨rfl, hJ3, hk3⟩ | ⟨rfl, hJx3⟩)
      · have hcf3 := (World.cell?_of_block (a := ⟨Bf, 0, none⟩) (hk3.block hBf.1 hBf.2)).trans hcf
        have HJ := Lib.hid hJ3; clear hJ3
        have HR3 := Lib.hid (hk3.reads HR.out HF.out)
        gi_wp2
        go_roundw
        case rel => exact ⟨k + 1, congrArg (Value.int .i64) (by omega), by omega, by rw [upN_succ m k h]; exact HJ.out, hcf3, HR3.out⟩
        case measure => simp [intOf]; omega
      · gi_wp2
        refine bodyPost_ret (results_none rfl _ _ _) rfl ?_
        exact ⟨⟨_, rfl⟩, .inr ⟨_, ⟨k + 1, by omega, (upN_succ m k h).symm⟩, hJx3⟩⟩
    · have hmk : k = m := by omega
      subst hmk
      gi_wp2
      go_end0
      exact ⟨⟨_, rfl⟩, .inl (by first | exact hJ | exact ⟨_, rfl, hJ⟩)⟩

end Go.Proofs.Ytlpijikhbjkmfaa
