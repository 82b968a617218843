/-
  What a recovery reads of the log: plain lists, and what of them reads in memory.
-/
import Derived.Test.YtlpijikhbjkmfaaG24
import Derived.Test.YtlpijikhbjkmfaaG25
import Derived.Test.YtlpijikhbjkmfaaG17
import Derived.Test.YtlpijikhbjkmfaaG22
namespace Go.Proofs.Ytlpijikhbjkmfaa
open Go.RowKit

theorem Reads.cut {w : World} {B b o k : Nat} {l : List ByteArray} (h : Reads w B 1 (some ⟨b, o, none⟩) k (encS l)) (j n : Nat) (hj : j + n ≤ k) : Reads w B 1 (some ⟨b, o + j, none⟩) n (encS ((l.drop j).take n)) := by
  have hl := h.lenS
  refine ⟨by rw [encS_length, List.length_take, List.length_drop]; omega, fun hn => ?_⟩
  obtain ⟨b', o', e, hb, hc⟩ := h.2 (by omega)
  simp only [Option.some.injEq, Addr.mk.injEq, and_true] at e
  obtain ⟨rfl, rfl⟩ := e
  refine ⟨b, o + j, rfl, hb, fun i u hu => ?_⟩
  rw [show o + j + i = o + (j + i) by omega]
  refine hc _ u ?_
  unfold encS at hu ⊢
  rw [List.getElem?_map, List.getElem?_take] at hu
  rw [List.getElem?_map]
  split at hu
  · rwa [List.getElem?_drop] at hu
  · cases hu
theorem readL_cut (d : D) (a k j n : Nat) (hj : j + n ≤ k) : ((readL d a k).drop j).take n = readL d (a + j) n := by
  unfold readL
  rw [← List.map_drop, ← List.map_take]
  have e : ((List.range k).drop j).take n = (List.range n).map (j + ·) := by
    refine List.ext_getElem (by simp; omega) fun i h1 h2 => ?_
    simp
  rw [e, List.map_map]
  refine List.map_congr_left fun i _ => ?_
  show (readD d ((a + (j + i) : Nat) : Int)).1 = (readD d ((a + j + i : Nat) : Int)).1
  rw [Nat.add_assoc]
theorem lastTo_size : ∀ (cs : List (Int × ByteArray)) (i : Int) (s : ByteArray), s.size = 128 → (∀ p ∈ cs, p.2.size = 128) → (lastTo cs i s).size = 128
  | [], _, _, h, _ => h
  | p :: cs, i, s, h, hc => by
    show (lastTo cs i (if p.1 = i then p.2 else s)).size = 128
    refine lastTo_size cs i _ ?_ fun q hq => hc q (List.mem_cons_of_mem _ hq)
    split
    · exact hc p (List.mem_cons_self ..)
    · exact h
theorem readD_size {d : D} (hf : FitP d) (hd : d.dead = false) {i : Nat} (hi : i < d.bs.length) : (readD d (i : Int)).1.size = 128 := by
  have e : (readD d (i : Int)).1 = lastTo d.cs i (d.bs.getD i ⟨#[]⟩) := by
    unfold readD
    rw [hd, if_neg (by decide), if_pos ⟨by omega, by omega⟩]
    rfl
  rw [e]
  refine lastTo_size _ _ _ ?_ fun p hp => (hf.2.2 p hp).2.2
  rw [List.getD_eq_getElem?_getD, List.getElem?_eq_getElem hi]
  exact hf.2.1 _ (List.getElem_mem hi)
theorem readL_size {d : D} (hf : FitP d) (hd : d.dead = false) {a k : Nat} (hi : a + k ≤ d.bs.length) : ∀ s ∈ readL d a k, s.size = 128 := by
  intro s hs
  unfold readL at hs
  obtain ⟨i, hi2, rfl⟩ := List.mem_map.1 hs
  have := List.mem_range.1 hi2
  exact readD_size hf hd (by omega)

def headB (d : D) : ByteArray := (readD d 0).1
def seqN (d : D) : Nat := neL ((headB d).extract 4 12).data.toList
def cntN (d : D) : Nat := neL ((headB d).extract 12 14).data.toList
def plR (d : D) (h : Nat) : List Nat := (List.range (cntN d)).map (num2 (mkB (flatL (readL d 1 (listsN h)))))
def blR (d : D) (h : Nat) : List ByteArray := readL d (1 + listsN h) (cntN d)
def highI (pl : List Nat) : Int := Lib.maxOf ((pl.map fun (p : Nat) => (p : Int)).take pl.length)
/-- What the log asks for, or why not. -/
def loadE (d : D) (h g : Nat) : Int :=
  if d.dead = true then 17 else if headB d = zeroB then 0
  else if cntN d < 1 ∨ g < cntN d ∨ h < cntN d then 10
  else if (h : Int) ≤ highI (plR d h) ∨ headB d ≠ sealB (seqN d) (plR d h) (blR d h) then 10 else 0
theorem neL_take_lt (s : ByteArray) (i k : Nat) (_h : i ≤ k) (n : Nat) (hn : k - i ≤ n) (_hn8 : n ≤ 8) : neL (s.extract i k).data.toList < 256 ^ n := by
  have h1 := neL_lt (s.extract i k).data.toList
  refine Nat.lt_of_lt_of_le h1 (Nat.pow_le_pow_right (by decide) ?_)
  rw [ByteArray.data_extract, Array.toList_extract, List.extract_eq_take_drop, List.length_take]
  omega
theorem seqN_lt (d : D) : seqN d < 18446744073709551616 := neL_take_lt _ 4 12 (by decide) 8 (by decide) (by decide)
theorem cntN_lt (d : D) : cntN d < 65536 := neL_take_lt _ 12 14 (by decide) 2 (by decide) (by decide)
/-- The same but for what a log says. -/
def Nld (v v' : WV) : Prop := ∃ (sq : Nat) (P : Option Addr) (k kc : Nat) (L : Option Addr) (j jc : Nat), v' = { v with sq := sq, P := P, k := k, kc := kc, L := L, j := j, jc := jc }
/-- Where a load begins. -/
structure Ld (w : World) (g : Nat) (v : WV) (d : D) (h gg : Nat) : Prop where
  wk : Wk w g v d [] [] []
  p0 : v.p0 = ((1 : Nat) : Int)
  p1 : v.p1 = ((1 + listsN h : Nat) : Int)
  p2 : v.p2 = ((1 + listsN h + gg : Nat) : Int)
  p3 : v.p3 = ((1 + listsN h + gg + h : Nat) : Int)
  fit : FitP d
  len : d.bs.length = 1 + listsN h + gg + h
  hh : 1 ≤ h ∧ h ≤ 512
  hg : 1 ≤ gg ∧ gg ≤ 256
theorem Wk.sqs {w : World} {g : Nat} {v : WV} {d : D} {img bl : List ByteArray} {pl : List Nat} (h : Wk w g v d img pl bl) (n : Nat) : Wk (w.setCell ⟨g, 9, none⟩ (.int .u64 n)) g { v with sq := n } d img pl bl := by
  have hg := grown_set w g 9 (.int .u64 n)
  exact ⟨h.blk.set_ 9 _ rfl, h.dvgr hg, h.hl, h.hz, h.imgr hg, h.hi, h.plgr hg, h.far, h.hk, h.blgr hg, h.hj⟩
theorem Wk.bls {w : World} {g : Nat} {v : WV} {d : D} {img bl bl2 : List ByteArray} {pl : List Nat} (h : Wk w g v d img pl bl) {L : Option Addr} {j jc : Nat} (hr : Reads w w.heap.size 1 L j (encS bl2)) (hj : j ≤ jc ∧ j * 16 ≤ 140737488355328) : Wk (w.setCell ⟨g, 11, none⟩ (.slice L j jc)) g { v with L := L, j := j, jc := jc } d img pl bl2 := by
  have hg := grown_set w g 11 (.slice L j jc)
  exact ⟨h.blk.bls L j jc, h.dvgr hg, h.hl, h.hz, h.imgr hg, h.hi, h.plgr hg, h.far, h.hk, hr.grown (_B := 0) (far_str h.blk hr) hg, hj⟩
theorem Wk.pls {w : World} {g : Nat} {v : WV} {d : D} {img bl : List ByteArray} {pl pl2 : List Nat} (h : Wk w g v d img pl bl) {P : Option Addr} {k kc : Nat} (hr : Reads w w.heap.size 1 P k (encN pl2)) (hf : 0 < k → ∀ ad, P = some ad → ad.block ≠ g) (hk : k ≤ kc ∧ kc ≤ 9223372036854775807) : Wk (w.setCell ⟨g, 10, none⟩ (.slice P k kc)) g { v with P := P, k := k, kc := kc } d img pl2 bl := by
  have hg := grown_set w g 10 (.slice P k kc)
  exact ⟨h.blk.pls P k kc, h.dvgr hg, h.hl, h.hz, h.imgr hg, h.hi, hr.grown (_B := 0) hf hg, hf, hk, h.blgr hg, h.hj⟩

end Go.Proofs.Ytlpijikhbjkmfaa

/-
  The program's load: the early answers.
-/
namespace Go.Proofs.Ytlpijikhbjkmfaa
open Go.RowKit

set_option maxRecDepth 100000 in
set_option maxHeartbeats 1000000 in
theorem load_dead (w : World) (g : Nat) (v : WV) (d : D) (h gg : Nat) (H0 : Ld w g v d h gg) (hd : d.dead = true) :
    Calls Try.prog 49 #[.pointer (some ⟨g, 0, none⟩)] w fun e w' => e = .returned (.int .i64 17) ∧ Below w.heap.size w w' := by
  obtain ⟨d0, d1, d2, d3⟩ := H0.wk.blk.d
  rw [H0.wk.hl] at d2
  rw [H0.wk.hz] at d3
  have cr := read_any v.A v.A' v.n v.c v.m v.c' d 0 w H0.wk.dv
  have e1 : (readD d 0).2 = 17 := readD_dead hd 0
  rw [e1] at cr
  clear e1 H0 hd
  generalize (readD d 0).1 = s at cr
  go_enter Try.func49, Try.ntmps49
  go_wp2_with (first | (go_at_call 53; refine cr.mono ?_; rintro e w1 ⟨rfl, hb1⟩) | fail)
  go_ret
  exact ⟨rfl, hb1⟩

set_option maxRecDepth 100000 in
set_option maxHeartbeats 1000000 in
theorem load_clear (w : World) (g : Nat) (v : WV) (d : D) (h gg : Nat) (H0 : Ld w g v d h gg) (hd : d.dead = false) (hz : headB d = zeroB) :
    Calls Try.prog 49 #[.pointer (some ⟨g, 0, none⟩)] w fun e w' => e = .returned (.int .i64 0) ∧ Below w.heap.size w w' := by
  obtain ⟨d0, d1, d2, d3⟩ := H0.wk.blk.d
  rw [H0.wk.hl] at d2
  rw [H0.wk.hz] at d3
  have cr := read_any v.A v.A' v.n v.c v.m v.c' d 0 w H0.wk.dv
  have e1 : (readD d 0).2 = 0 := readD_ok hd (i := 0) (by rw [H0.len]; have := H0.hg; omega)
  rw [e1] at cr
  have cp := fun W => padded_any ⟨#[]⟩ W (by decide)
  rw [show padL (⟨#[]⟩ : ByteArray).data.toList = zeroB from pad_none] at cp
  have ht := bytes_same hz
  unfold headB at ht
  clear e1 H0 hz hd
  generalize (readD d 0).1 = s at cr ht
  go_enter Try.func49, Try.ntmps49
  go_wp2_with (first | (go_at_call 53; refine cr.mono ?_; rintro e w1 ⟨rfl, hb1⟩) | (go_at_call 54; refine (cp _).mono ?_; rintro e w2 ⟨rfl, hb2⟩))
  go_ret
  exact ⟨rfl, bstep hb1 hb2⟩

set_option maxRecDepth 100000 in
set_option maxHeartbeats 1500000 in
theorem load_form (w : World) (g : Nat) (v : WV) (d : D) (h gg : Nat) (H0 : Ld w g v d h gg) (hd : d.dead = false) (hz : headB d ≠ zeroB) (hc : cntN d < 1 ∨ gg < cntN d ∨ h < cntN d) :
    Calls Try.prog 49 #[.pointer (some ⟨g, 0, none⟩)] w fun e w' => e = .returned (.int .i64 10) ∧ w.grownBy w' (some g) ∧ Wk w' g { v with sq := seqN d } d [] [] [] := by
  obtain ⟨d0, d1, d2, d3⟩ := H0.wk.blk.d
  rw [H0.wk.hl] at d2
  rw [H0.wk.hz] at d3
  have cr := read_any v.A v.A' v.n v.c v.m v.c' d 0 w H0.wk.dv
  have hl0 : 0 < d.bs.length := by rw [H0.len]; have := H0.hg; omega
  have e1 : (readD d 0).2 = 0 := readD_ok hd (i := 0) hl0
  rw [e1] at cr
  have cp := fun W => padded_any ⟨#[]⟩ W (by decide)
  rw [show padL (⟨#[]⟩ : ByteArray).data.toList = zeroB from pad_none] at cp
  have ht := bytes_other hz
  have hs : (headB d).size = 128 := readD_size H0.fit hd (i := 0) hl0
  have n1 := fun W => number_any ((headB d).extract 4 12) W (by simp; omega)
  have n2 := fun W => number_any ((headB d).extract 12 14) W (by simp; omega)
  have hsq := seqN_lt d
  have hcn := cntN_lt d
  change ∀ W, Calls Try.prog 67 #[.string ((headB d).extract 4 12)] W fun e w' => e = .returned (.int .u64 (seqN d : Int)) ∧ W = w' at n1
  change ∀ W, Calls Try.prog 67 #[.string ((headB d).extract 12 14)] W fun e w' => e = .returned (.int .u64 (cntN d : Int)) ∧ W = w' at n2
  change Calls Try.prog 53 _ w fun e w' => e = .returned (.tuple #[.string (headB d), .int .i64 0]) ∧ Below w.heap.size w w' at cr
  generalize headB d = s at cr ht n1 n2 hs
  generalize seqN d = sq at n1 hsq ⊢
  generalize cntN d = cn at n2 hcn hc
  have hwi : IntKind.i64.wrap (cn : Int) = (cn : Int) := IntWalk.i64_in _ (by omega)
  have H := Lib.hid H0
  have hs1 : ((1 + listsN h + gg : Nat) : Int) - ((1 + listsN h : Nat) : Int) = (gg : Int) := by omega
  have hs2 : ((1 + listsN h + gg + h : Nat) : Int) - ((1 + listsN h + gg : Nat) : Int) = (h : Int) := by omega
  have hb3 : 1 + listsN h + gg + h ≤ 4096 := by have := H0.hh; have := H0.hg; have : listsN h ≤ 8 := by unfold listsN; omega
                                                omega
  obtain ⟨q1, hq1⟩ : ∃ q1, q1 = 1 + listsN h := ⟨_, rfl⟩
  obtain ⟨q2, hq2⟩ : ∃ q2, q2 = 1 + listsN h + gg := ⟨_, rfl⟩
  obtain ⟨q3, hq3⟩ : ∃ q3, q3 = 1 + listsN h + gg + h := ⟨_, rfl⟩
  rw [← hq2, ← hq1] at hs1
  rw [← hq3, ← hq2] at hs2
  rw [← hq3] at hb3
  have HQ := Lib.hid (And.intro hq1 (And.intro hq2 hq3))
  have hq12 : q1 ≤ 4096 ∧ q2 ≤ 4096 := by omega
  clear hq1 hq2 hq3 e1 H0 hz hl0 hd
  have qf := H.out.wk.blk.f
  go_enter Try.func49, Try.ntmps49
  go_wp2_with (first | (go_at_call 53; refine cr.mono ?_; rintro e w1 ⟨rfl, hb1⟩) | (go_at_call 54; refine (cp _).mono ?_; rintro e w2 ⟨rfl, hb2⟩; have hB := Lib.hid (bstep hb1 hb2); have g9 := (H.out.wk.blk.step hB.out).sq; have gf := (H.out.wk.blk.step hB.out).f) | (go_at_call 67; (with_reducible refine (n1 _).mono ?_); rintro e w3 ⟨rfl, rfl⟩) | (go_at_call 67; (with_reducible refine (n2 _).mono ?_); rintro e w4 ⟨rfl, rfl⟩))
  have C3 := Lib.hid (And.intro ((H.out.wk.step hB.out).sqs sq) (grown_trans (grown_of_below hB.out (some g)) (grown_set w2 g 9 (.int .u64 sq))))
  clear g9 gf qf hb1 hb2 d0 d1 d2 d3
  generalize w2.setCell ⟨g, 9, none⟩ (.int .u64 (sq : Int)) = W3 at C3 ⊢
  obtain ⟨y0, y1, y2, y3⟩ := C3.out.1.blk.p
  replace y0 : W3.cell? ⟨g, 0, none⟩ = some (.int .i64 1) := y0.trans (congrArg (fun z => some (Value.int .i64 z)) H.out.p0)
  replace y1 : W3.cell? ⟨g, 1, none⟩ = some (.int .i64 (q1 : Int)) := y1.trans (congrArg (fun z => some (Value.int .i64 z)) (H.out.p1.trans (by rw [HQ.out.1])))
  replace y2 : W3.cell? ⟨g, 2, none⟩ = some (.int .i64 (q2 : Int)) := y2.trans (congrArg (fun z => some (Value.int .i64 z)) (H.out.p2.trans (by rw [HQ.out.2.1])))
  replace y3 : W3.cell? ⟨g, 3, none⟩ = some (.int .i64 (q3 : Int)) := y3.trans (congrArg (fun z => some (Value.int .i64 z)) (H.out.p3.trans (by rw [HQ.out.2.2])))
  by_cases h0 : cn < 1
  · have h0' : (cn : Int) < 1 := by omega
    clear h0 hc
    go_quiet (fail)
    go_wp2
    go_ret
    exact ⟨rfl, grown_trans C3.out.2 (grown_drewN _ _ _), C3.out.1.drewN _⟩
  · have h0' : ¬ (cn : Int) < 1 := by omega
    obtain ⟨mn, hmn⟩ : ∃ mn : Nat, mn = min gg h := ⟨_, rfl⟩
    have hm : min (gg : Int) (h : Int) = (mn : Int) := by omega
    have hm2 : (mn : Int) < (cn : Int) := by omega
    clear h0 hc hmn
    go_quiet (fail)
    go_wp2
    go_ret
    exact ⟨rfl, grown_trans C3.out.2 (grown_drewN _ _ _), C3.out.1.drewN _⟩

end Go.Proofs.Ytlpijikhbjkmfaa
