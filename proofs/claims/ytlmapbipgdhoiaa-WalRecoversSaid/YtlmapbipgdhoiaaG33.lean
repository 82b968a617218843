/-
  Five arguments at once; texts and devices that stay as they were.
-/
import Derived.Test.YtlmapbipgdhoiaaG05
import Derived.Test.YtlmapbipgdhoiaaG09
import Derived.Carry
import Derived.Test.YtlmapbipgdhoiaaG32
import Derived.Test.YtlmapbipgdhoiaaG31
import Derived.Test.YtlmapbipgdhoiaaG15
import Derived.Test.YtlmapbipgdhoiaaG06
namespace Go.Proofs.Ytlmapbipgdhoiaa
open Go.ChangeShapes Go.WideShapes Go.ChangeAt Go.RowKit Go.ChangeMaps

section
variable {H : Type} {enc : TypeId × Value → H} {P : Program} {w : World} {base : Nat} {spare : Nat → Bool} {held : Bool}
theorem trodAll_five {t0 t1 t2 t3 t4 : TypeId} {args : Array Value} {ds : List (DataW H)} {ps : List MemPlace} (h : DataW.TrodAll enc P w base spare held [t0, t1, t2, t3, t4] args.toList ds ps) :
    ∃ v0 v1 v2 v3 v4 d0 d1 d2 d3 d4 p0 p1 p2 p3 p4, args = #[v0, v1, v2, v3, v4] ∧ ds = [d0, d1, d2, d3, d4] ∧ ps = p0 ++ p1 ++ p2 ++ p3 ++ p4 ∧ DataW.Trod enc P w base spare held t0 v0 d0 p0 ∧ DataW.Trod enc P w base spare held t1 v1 d1 p1 ∧ DataW.Trod enc P w base spare held t2 v2 d2 p2 ∧ DataW.Trod enc P w base spare held t3 v3 d3 p3 ∧ DataW.Trod enc P w base spare held t4 v4 d4 p4 := by
  obtain ⟨v0, vs0, d0, ds0, p0, q0, hargs, rfl, rfl, h0, r0⟩ := trodAll_cons h
  obtain ⟨v1, vs1, d1, ds1, p1, q1, rfl, rfl, rfl, h1, r1⟩ := trodAll_cons r0
  obtain ⟨v2, vs2, d2, ds2, p2, q2, rfl, rfl, rfl, h2, r2⟩ := trodAll_cons r1
  obtain ⟨v3, vs3, d3, ds3, p3, q3, rfl, rfl, rfl, h3, r3⟩ := trodAll_cons r2
  obtain ⟨v4, vs4, d4, ds4, p4, q4, rfl, rfl, rfl, h4, r4⟩ := trodAll_cons r3
  obtain ⟨rfl, rfl, rfl⟩ := trodAll_nil r4
  exact ⟨v0, v1, v2, v3, v4, d0, d1, d2, d3, d4, p0, p1, p2, p3, p4, by cases args; simp_all, rfl, by simp, h0, h1, h2, h3, h4⟩
theorem trodAll_mk5 {t0 t1 t2 t3 t4 : TypeId} {v0 v1 v2 v3 v4 : Value} {d0 d1 d2 d3 d4 : DataW H} {p0 p1 p2 p3 p4 : List MemPlace} (h0 : DataW.Trod enc P w base spare held t0 v0 d0 p0) (h1 : DataW.Trod enc P w base spare held t1 v1 d1 p1)
    (h2 : DataW.Trod enc P w base spare held t2 v2 d2 p2) (h3 : DataW.Trod enc P w base spare held t3 v3 d3 p3) (h4 : DataW.Trod enc P w base spare held t4 v4 d4 p4) : DataW.TrodAll enc P w base spare held [t0, t1, t2, t3, t4] [v0, v1, v2, v3, v4] [d0, d1, d2, d3, d4] (p0 ++ (p1 ++ (p2 ++ (p3 ++ p4)))) :=
  ⟨p0, p1 ++ (p2 ++ (p3 ++ p4)), h0, trodAll_mk4 h1 h2 h3 h4, rfl⟩
end

end Go.Proofs.Ytlmapbipgdhoiaa

/-
  WalMakes is true of every two numbers, every device and every two lists of texts.
-/
namespace Go.Proofs.Ytlmapbipgdhoiaa
open Go.RowKit

theorem changedL_max (a b : List ByteArray) : (changedL a b).length ≤ max a.length b.length := by
  unfold changedL
  exact Nat.le_trans (List.length_filter_le ..) (by simp)
theorem dv_of_reads' {w : World} {A : Option Addr} {n : Nat} {l : List ByteArray} (h : Reads w w.heap.size 1 A n (encS l)) (hn : n * 16 ≤ 140737488355328) : Dv w w.heap.size A n none 0 ⟨l, [], 0, false⟩ := ⟨h, Reads.nil, hn, by omega⟩
theorem reads_own_encN {w : World} {base n : Nat} {A : Option Addr} {c : Nat} {l : List Nat} {e : TypeId} (h : w.ownsRow base e 1 (.slice A n c) n (encN l)) : Reads w w.heap.size 1 A n (encN l) := Reads.of_own h

set_option maxRecDepth 100000 in
set_option maxHeartbeats 2000000 in
theorem makes_any (x y : Int) (A A' : Option Addr) (n c m c' : Nat) (d : D) (P Q : Option Addr) (p pc q qc : Nat) (a b : List ByteArray) (w : World) (h : Dv w w.heap.size A n A' m d) (hP : Reads w w.heap.size 1 P p (encS a)) (hp : p * 16 ≤ 140737488355328) (hQ : Reads w w.heap.size 1 Q q (encS b)) (hq : q * 16 ≤ 140737488355328) :
    Calls Try.prog 3 #[.int .i64 x, .int .i64 y, .agg #[.slice A n c, .slice A' m c', .int .i64 d.left, .bool d.dead], .slice P p pc, .slice Q q qc] w fun e w' => e = .returned (.bool true) ∧ Below w.heap.size w w' := by
  have K0 := Lib.hid (B4.new w (.slice A n c) (.slice A' m c') (.int .i64 d.left) (.bool d.dead))
  have D0 := Lib.hid (h.alloc (.cells #[.slice A n c, .slice A' m c', .int .i64 d.left, .bool d.dead] 25))
  have B0 := Lib.hid (alloc_below0 w (.cells #[.slice A n c, .slice A' m c', .int .i64 d.left, .bool d.dead] 25))
  have I0 := Lib.hid (And.intro ((dv_of_reads' hP hp).alloc (.cells #[.slice A n c, .slice A' m c', .int .i64 d.left, .bool d.dead] 25)) ((dv_of_reads' hQ hq).alloc (.cells #[.slice A n c, .slice A' m c', .int .i64 d.left, .bool d.dead] 25)))
  have HLN := Lib.hid (And.intro hP.lenS hQ.lenS)
  have cM := fun W => makeP_any x y W
  have cR := fun W => refMake_any x y W
  have cH := fun (A A' : Option Addr) (n c m c' : Nat) (W : World) hh => homeP_any A A' n c m c' d x y W hh
  have cG := fun (A A' : Option Addr) (n c m c' : Nat) (W : World) hh => refHome_any A A' n c m c' d x y W hh
  have cB := fun W => blocksP_any x y W
  have cC := fun W => refBlocks_any x y W
  generalize makeD x y = md at cM cR
  generalize homeD d x y = hd at cH cG
  generalize blocksI x y = bi at cB cC
  obtain ⟨md, me⟩ := md
  obtain ⟨hd, he⟩ := hd
  dsimp only at cM cR cH cG
  clear h hP hQ
  obtain ⟨x0, x1, x2, x3, xf⟩ := K0.out.cells
  by_cases hf : FitP d
  · go_enter Try.func3, Try.ntmps3
    go_wp2_with fail
    refine (refFit_any _ _ _ _ _ _ d _ D0.out).mono ?_
    rintro e w1 ⟨rfl, hb1⟩
    rw [fitD_true hf]
    have K1 := Lib.hid (K0.out.step hb1)
    have D1 := Lib.hid (D0.out.step hb1)
    have B1 := Lib.hid (B0.out.trans (hb1.mono B0.out.size))
    have I1 := Lib.hid (And.intro (I0.out.1.step hb1) (I0.out.2.step hb1))
    clear x0 x1 x2 x3 xf K0 D0 B0 I0 hb1 hf
    go_wp2_with fail
    refine (cM _).mono ?_
    rintro e w2 ⟨A2, n2, c2, A2', m2, c2', rfl, hd2, hb2⟩
    have K2 := Lib.hid (K1.out.step hb2)
    have D2 := Lib.hid (And.intro (D1.out.step hb2) hd2)
    have B2 := Lib.hid (bstep B1.out hb2)
    have I2 := Lib.hid (And.intro (I1.out.1.step hb2) (I1.out.2.step hb2))
    clear K1 D1 B1 I1 hb2 hd2
    go_wp2_with fail
    refine (cR _).mono ?_
    rintro e w3 ⟨A3, n3, c3, A3', m3, c3', rfl, hd3, hb3⟩
    have hb23 : Below w2.heap.size w2 w3 := bstep (alloc_below0 w2 (.cells #[.slice A2 n2 c2, .slice A2' m2 c2', .int .i64 md.left, .bool md.dead] 25)) hb3
    have K3 := Lib.hid (And.intro ((K2.out.step hb23).alloc (.cells #[.slice A3 n3 c3, .slice A3' m3 c3', .int .i64 md.left, .bool md.dead] 25)) (And.intro (((B4.new w2 (.slice A2 n2 c2) (.slice A2' m2 c2') (.int .i64 md.left) (.bool md.dead)).step hb3).alloc (.cells #[.slice A3 n3 c3, .slice A3' m3 c3', .int .i64 md.left, .bool md.dead] 25)) (B4.new w3 (.slice A3 n3 c3) (.slice A3' m3 c3') (.int .i64 md.left) (.bool md.dead))))
    have D3 := Lib.hid (And.intro ((D2.out.1.step hb23).alloc (.cells #[.slice A3 n3 c3, .slice A3' m3 c3', .int .i64 md.left, .bool md.dead] 25)) (And.intro ((D2.out.2.step hb23).alloc (.cells #[.slice A3 n3 c3, .slice A3' m3 c3', .int .i64 md.left, .bool md.dead] 25)) (Dv.alloc hd3 (.cells #[.slice A3 n3 c3, .slice A3' m3 c3', .int .i64 md.left, .bool md.dead] 25))))
    have B3 := Lib.hid ((bstep B2.out hb23).alloc ((bstep B2.out hb23).size) (.cells #[.slice A3 n3 c3, .slice A3' m3 c3', .int .i64 md.left, .bool md.dead] 25))
    have I3 := Lib.hid (And.intro ((I2.out.1.step hb23).alloc (.cells #[.slice A3 n3 c3, .slice A3' m3 c3', .int .i64 md.left, .bool md.dead] 25)) ((I2.out.2.step hb23).alloc (.cells #[.slice A3 n3 c3, .slice A3' m3 c3', .int .i64 md.left, .bool md.dead] 25)))
    generalize hw3 : w3.alloc (.cells #[.slice A3 n3 c3, .slice A3' m3 c3', .int .i64 md.left, .bool md.dead] 25) = W3 at K3 D3 B3 I3
    clear K2 D2 B2 I2 hb3 hd3 hb23
    obtain ⟨x0, x1, x2, x3, xf⟩ := K3.out.1.cells
    go_wp2_with fail
    refine (cH _ _ _ _ _ _ _ D3.out.1).mono ?_
    rintro e w4 ⟨A4, n4, c4, rfl, hr4, h512, _, _, hb4⟩
    have K4 := Lib.hid (And.intro (K3.out.1.step hb4) (And.intro (K3.out.2.1.step hb4) (K3.out.2.2.step hb4)))
    have D4 := Lib.hid (And.intro (D3.out.1.step hb4) (And.intro (D3.out.2.1.step hb4) (D3.out.2.2.step hb4)))
    have B4' := Lib.hid (bstep B3.out hb4)
    have I4 := Lib.hid (And.intro (I3.out.1.step hb4) (And.intro (I3.out.2.step hb4) (dv_of_reads' hr4 (by omega))))
    clear x0 x1 x2 x3 xf hw3 K3 D3 B3 I3 hr4 hb4
    obtain ⟨x0, x1, x2, x3, xf⟩ := K4.out.1.cells
    go_wp2_with fail
    refine (cG _ _ _ _ _ _ _ D4.out.1).mono ?_
    rintro e w5 ⟨A5, n5, c5, rfl, hr5, h512b, hb5⟩
    have K5 := Lib.hid (And.intro (K4.out.2.1.step hb5) (K4.out.2.2.step hb5))
    have D5 := Lib.hid (And.intro (D4.out.2.1.step hb5) (D4.out.2.2.step hb5))
    have B5 := Lib.hid (bstep B4'.out hb5)
    have I5 := Lib.hid (And.intro (I4.out.1.step hb5) (And.intro (I4.out.2.1.step hb5) (And.intro (I4.out.2.2.step hb5) (dv_of_reads' hr5 (by omega)))))
    clear x0 x1 x2 x3 xf K4 D4 B4' I4 hr5 hb5
    go_wp2_with fail
    refine (cB _).mono ?_
    rintro e w6 ⟨rfl, hb6⟩
    have K6 := Lib.hid (And.intro (K5.out.1.step hb6) (K5.out.2.step hb6))
    have D6 := Lib.hid (And.intro (D5.out.1.step hb6) (D5.out.2.step hb6))
    have B6 := Lib.hid (bstep B5.out hb6)
    have I6 := Lib.hid (And.intro (I5.out.1.step hb6) (And.intro (I5.out.2.1.step hb6) (And.intro (I5.out.2.2.1.step hb6) (I5.out.2.2.2.step hb6))))
    clear K5 D5 B5 I5 hb6
    go_wp2_with fail
    refine (cC _).mono ?_
    rintro e w7 ⟨rfl, rfl⟩
    obtain ⟨x0, x1, x2, x3, xf⟩ := K6.out.1.cells
    obtain ⟨y0, y1, y2, y3, yf⟩ := K6.out.2.cells
    have e1 : (bi == bi) = true := by simp
    have e2 : (me == me) = true := by simp
    have e3 : (he == he) = true := by simp
    have f1 : decide (md = md) = true := decide_eq_true rfl
    have f2 : decide (hd = hd) = true := decide_eq_true rfl
    have f3 : decide (changedL a b = changedL a b) = true := decide_eq_true rfl
    go_wp2_with fail
    refine (refSame_any _ _ _ _ _ _ md _ _ _ _ _ _ md _ D6.out.1 D6.out.2).mono ?_
    rintro e w7 ⟨rfl, hb7⟩
    have B7 := Lib.hid (bstep B6.out hb7)
    have I7 := Lib.hid (And.intro (I6.out.1.step hb7) (And.intro (I6.out.2.1.step hb7) (And.intro (I6.out.2.2.1.step hb7) (I6.out.2.2.2.step hb7))))
    clear x0 x1 x2 x3 xf y0 y1 y2 y3 yf K6 D6 B6 I6 hb7
    go_wp2_with fail
    refine (refTexts_any _ _ _ _ _ _ hd hd _ I7.out.2.2.1.bs I7.out.2.2.2.bs (by omega) (by omega)).mono ?_
    rintro e w8 ⟨rfl, hb8⟩
    have B8 := Lib.hid (bstep B7.out hb8)
    have I8 := Lib.hid (And.intro (I7.out.1.step hb8) (I7.out.2.1.step hb8))
    clear B7 I7 hb8
    go_wp2_with fail
    refine (changed_any _ _ _ _ _ _ a b _ I8.out.1.bs I8.out.2.bs hp hq).mono ?_
    rintro e w9 ⟨A9, c9, rfl, ho9, hb9⟩
    have B9 := Lib.hid (bstep B8.out hb9)
    have I9 := Lib.hid (And.intro (I8.out.1.step hb9) (I8.out.2.step hb9))
    have O9 := Lib.hid (reads_own_encN ho9)
    clear B8 I8 hb9 ho9
    go_wp2_with fail
    refine (refChanged_any _ _ _ _ _ _ a b _ I9.out.1.bs I9.out.2.bs hp hq).mono ?_
    rintro e w10 ⟨A10, c10, rfl, ho10, hb10⟩
    have B10 := Lib.hid (bstep B9.out hb10)
    have O10 := Lib.hid (And.intro (O9.out.step hb10) (reads_own_encN ho10))
    have hln : (changedL a b).length ≤ 17592186044416 := by
      have h1 := changedL_max a b
      have h2 := HLN.out.1
      have h3 := HLN.out.2
      omega
    clear B9 I9 O9 hb10 ho10
    go_wp2_with fail
    refine (refInts_any _ _ _ _ _ _ (changedL a b) (changedL a b) _ O10.out.1 O10.out.2 hln hln).mono ?_
    rintro e w11 ⟨rfl, nq, rfl⟩
    have B11 := Lib.hid (below_drewN B10.out nq)
    clear B10 O10
    go_wp2_with fail
    refine (awake3_any _).mono ?_
    rintro e w12 ⟨rfl, hb12⟩
    have B12 := Lib.hid (bstep B11.out hb12)
    clear B11 hb12
    go_wp2
    go_ret
    exact ⟨rfl, B12.out⟩
  · go_enter Try.func3, Try.ntmps3
    go_wp2_with fail
    refine (refFit_any _ _ _ _ _ _ d _ D0.out).mono ?_
    rintro e w1 ⟨rfl, hb1⟩
    rw [fitD_false hf]
    have B1 := Lib.hid (B0.out.trans (hb1.mono B0.out.size))
    clear x0 x1 x2 x3 xf K0 D0 B0 I0 hb1 hf
    go_wp2_with fail
    refine (awake3_any _).mono ?_
    rintro e w2 ⟨rfl, hb2⟩
    have B2 := Lib.hid (bstep B1.out hb2)
    clear B1 hb2
    go_wp2
    go_ret
    exact ⟨rfl, B2.out⟩

end Go.Proofs.Ytlmapbipgdhoiaa
