/-
  An inode made shorter.
-/
import Derived.Test.YtpdfkakhahfcjaaGreatG17
namespace Go.Proofs.YtpdfkakhahfcjaaGreat
open Go.RowKit


def shrV1 (base g k : Nat) (r : RecI) : Nat → Value → World → Prop
 | 0 => eqV (.int .i64 (k : Int))
 | 1 => eqV (.int .i64 (needN k : Nat))
 | 2 => eqV (.agg (cellsR r).toArray)
 | 3 => ownV base (dataR r)
 | 4 => eqV (.pointer (some ⟨g, 1, none⟩))
 | 5 => eqV (.pointer (some ⟨g, 7, none⟩))
 | 6 => eqV (.int .i64 (r.ind : Int))
 | 7 => eqV (.int .i64 (needN k : Nat))
 | 8 => ownV base (dataR r)
 | 9 => eqV (.int .i64 (r.ind : Int))
 | _ => fun _ _ => True
theorem shrV1_stable (base g k : Nat) (r : RecI) (j : Nat) (v : Value) (w w' : World) (hs : Below w.heap.size w w') (h : shrV1 base g k r j v w) : shrV1 base g k r j v w' := by
 match j, h with
 | 0, h => exact h
 | 1, h => exact h
 | 2, h => exact h
 | 3, h => exact h.step hs
 | 4, h => exact h
 | 5, h => exact h
 | 6, h => exact h
 | 7, h => exact h
 | 8, h => exact h.step hs
 | 9, h => exact h
 | _ + 10, _ => trivial
def shrV2 (A3 : Option Addr) (L c3 q : Nat) : Nat → Value → World → Prop
 | 0 => eqV (.slice A3 L c3)
 | 1 => eqV (.int .i64 (q : Int))
 | 2 => eqV (.slice A3 q c3)
 | 3 => eqV (.slice A3 L c3)
 | 4 => eqV (.int .i64 (q : Int))
 | 5 => eqV (.slice (restA A3 q c3) (L - q) (c3 - q))
 | 6 => eqV (.slice A3 q c3)
 | 7 => eqV (.slice (restA A3 q c3) (L - q) (c3 - q))
 | _ => fun _ _ => True
theorem shrV2_stable (A3 : Option Addr) (L c3 q : Nat) (j : Nat) (v : Value) (w w' : World) (h : shrV2 A3 L c3 q j v w) : shrV2 A3 L c3 q j v w' := by
 match j, h with
 | 0, h => exact h
 | 1, h => exact h
 | 2, h => exact h
 | 3, h => exact h
 | 4, h => exact h
 | 5, h => exact h
 | 6, h => exact h
 | 7, h => exact h
 | _ + 8, _ => trivial
def shrV3 (g5 n5 c5 b o q c3 p E v : Nat) : Nat → Value → World → Prop
 | 0 => eqV (.slice (some ⟨g5, 0, none⟩) n5 c5)
 | 1 => eqV (.slice (some ⟨b, o, none⟩) q c3)
 | 2 => eqV (.int .i64 (q : Int))
 | 3 => eqV (.int .i64 (p : Int))
 | 4 => eqV (.pointer (some ⟨b, o + p, none⟩))
 | 5 => eqV (.int .i64 (v : Int))
 | 6 => eqV (.int .i64 (E : Int))
 | 7 => eqV (.int .i64 (E : Int))
 | 8 => eqV (.int .i64 (128 - E : Nat))
 | 9 => eqV (.string (zeroN (128 - E)))
 | 10 => eqV (.tuple #[])
 | _ => fun _ _ => True
theorem shrV3_stable (g5 n5 c5 b o q c3 p E v : Nat) (j : Nat) (u : Value) (w w' : World) (h : shrV3 g5 n5 c5 b o q c3 p E v j u w) : shrV3 g5 n5 c5 b o q c3 p E v j u w' := by
 match j, h with
 | 0, h => exact h
 | 1, h => exact h
 | 2, h => exact h
 | 3, h => exact h
 | 4, h => exact h
 | 5, h => exact h
 | 6, h => exact h
 | 7, h => exact h
 | 8, h => exact h
 | 9, h => exact h
 | 10, h => exact h
 | _ + 11, _ => trivial
theorem zeroN_size (k : Nat) : (zeroN k).size = k := by
 have : ∀ k, (Lib.repeatL ([0] : List UInt8) k).length = k := fun k => by
  induction k with
  | zero => rfl
  | succ k ih => simp [Lib.repeatL, ih]; try omega
 show (Lib.repeatL _ k).toArray.size = k
 rw [List.size_toArray, this]

set_option maxRecDepth 100000 in
set_option maxHeartbeats 8000000 in
theorem shrinkI_any (A : Option Addr) (n c : Nat) (img : List ByteArray) (r : RecI) (k : Nat) (w : World) (hr : OkR r) (hk : k ≤ r.size) (hkl : k ≤ 8704) (hf : MapP img) (h : Reads w w.heap.size 1 A n (encS img)) :
  Calls Tryz.prog 47 #[.agg (cellsR r).toArray, .slice A n c, .int .i64 (k : Int)] w fun e w' => ImgsO w w' (shrinkI img r k).1 (shrinkI img r k).2 e := by
 have hmx : Tryz.prog.follows .mixedOrders = true := by kernel_rfl
 have HR := Lib.hid hr
 have H := Lib.hid h
 have HM := Lib.hid hf
 have HK := Lib.hid (And.intro hk hkl)
 have hB1 := BR.new w r
 have hb1 := (Below.refl w.heap.size w).alloc (Nat.le_refl _) (.cells (cellsR r).toArray 62)
 have hg1 : w.heap.size < (w.alloc (.cells (cellsR r).toArray 62)).heap.size := by simp
 have cn := fun W => needsI_any k (by omega) W
 have cd : ∀ W, Calls Tryz.prog 74 #[.agg (cellsR r).toArray] W (RowP W (dataR r)) := fun W => data_any r hr W
 clear h hf hr hk hkl
 go_enter Tryz.func47, Tryz.ntmps47
 go_upto_region 1 with fail
 generalize w.alloc (.cells (cellsR r).toArray 62) = w1 at hB1 hb1 hg1 ⊢
 obtain ⟨g, hg⟩ : ∃ g, g = w.heap.size := ⟨_, rfl⟩
 have HG := Lib.hid hg
 rw [← hg] at hB1 hg1 ⊢
 have HB1 := Lib.hid (And.intro hB1 hg1)
 have HBB := Lib.hid hb1
 clear hB1 hb1 hg1 hg
 refine wp_region_rel (fun w' => Below w1.heap.size w1 w') (fun _ w w' => Below w.heap.size w w') (shrV1 w1.heap.size g k r) hmx (by kernel_rfl) ((Below.refl _ _).drew) (fun i w w' hC hs => bstep hC hs) (fun i j v w w' _ hs h => shrV1_stable w1.heap.size g k r j v w w' hs h) ?_ ?_
 ·refine ⟨?_, ?_, ?_, ?_, ?_, ?_, ?_, ?_, ?_, ?_, trivial⟩
  ·intro V W hC hd K hK
   clear hd
   simp only [laidL, Act.put, List.setIfInBounds_toArray, List.set_cons_zero, List.set_cons_succ] at hK ⊢
   go_simp
   exact hK _ _ ⟨Below.refl _ _, rfl⟩
  ·intro V W hC hd K hK
   have q0 : shrV1 w1.heap.size g k r 0 (V 0) W := hd.1
   have e0 : V 0 = .int .i64 (k : Int) := q0
   clear q0
   clear hd
   simp only [laidL, Act.put, List.setIfInBounds_toArray, List.set_cons_zero, List.set_cons_succ] at hK ⊢
   generalize V 0 = v0 at e0 hK ⊢
   subst e0
   go_simp
   go_at_call 78
   refine (cn _).mono ?_
   rintro e w3 ⟨rfl, rfl⟩
   exact hK _ _ ⟨Below.refl _ _, rfl⟩
  ·intro V W hC hd K hK
   clear hd
   simp only [laidL, Act.put, List.setIfInBounds_toArray, List.set_cons_zero, List.set_cons_succ] at hK ⊢
   refine wp_load_mid 62 (.tmp 3) rfl _ 0 rfl (cellsR _) _ (HB1.out.1.below hC HB1.out.2).range Tryz.underlying62 rfl (by rw [cellsR_length HR.out]; exact sizeR) ?_
   exact hK _ _ ⟨Below.refl _ _, rfl⟩
  ·intro V W hC hd K hK
   have q2 : shrV1 w1.heap.size g k r 2 (V 2) W := hd.1
   have e2 : V 2 = .agg (cellsR r).toArray := q2
   clear q2
   clear hd
   simp only [laidL, Act.put, List.setIfInBounds_toArray, List.set_cons_zero, List.set_cons_succ] at hK ⊢
   generalize V 2 = v2 at e2 hK ⊢
   subst e2
   go_simp
   go_at_call 74
   refine (cd _).mono ?_
   rintro e w3 ⟨A3, c3, rfl, ho3, hb3⟩
   exact hK _ _ ⟨hb3, A3, c3, rfl, own_base ho3 hC.size⟩
  ·intro V W hC hd K hK
   clear hd
   simp only [laidL, Act.put, List.setIfInBounds_toArray, List.set_cons_zero, List.set_cons_succ] at hK ⊢
   go_simp
   exact hK _ _ ⟨Below.refl _ _, rfl⟩
  ·intro V W hC hd K hK
   have q4 : shrV1 w1.heap.size g k r 4 (V 4) W := hd.1
   have e4 : V 4 = .pointer (some ⟨g, 1, none⟩) := q4
   clear q4
   clear hd
   simp only [laidL, Act.put, List.setIfInBounds_toArray, List.set_cons_zero, List.set_cons_succ] at hK ⊢
   generalize V 4 = v4 at e4 hK ⊢
   subst e4
   go_simp
   exact hK _ _ ⟨Below.refl _ _, rfl⟩
  ·intro V W hC hd K hK
   have q5 : shrV1 w1.heap.size g k r 5 (V 5) W := hd.1
   have e5 : V 5 = .pointer (some ⟨g, 7, none⟩) := q5
   clear q5
   clear hd
   simp only [laidL, Act.put, List.setIfInBounds_toArray, List.set_cons_zero, List.set_cons_succ] at hK ⊢
   generalize V 5 = v5 at e5 hK ⊢
   subst e5
   have hq := (HB1.out.1.below hC HB1.out.2).ind HR.out
   go_simp
   exact hK _ _ ⟨Below.refl _ _, rfl⟩
  ·intro V W hC hd K hK
   have q1 : shrV1 w1.heap.size g k r 1 (V 1) W := hd.1
   have e1 : V 1 = .int .i64 (needN k : Nat) := q1
   clear q1
   clear hd
   simp only [laidL, Act.put, List.setIfInBounds_toArray, List.set_cons_zero, List.set_cons_succ] at hK ⊢
   generalize V 1 = v1 at e1 hK ⊢
   subst e1
   go_simp
   exact hK _ _ ⟨Below.refl _ _, rfl⟩
  ·intro V W hC hd K hK
   have q3 : shrV1 w1.heap.size g k r 3 (V 3) W := hd.1
   have q3 : ownV w1.heap.size (dataR r) (V 3) W := q3
   have p3 := ownV_out q3
   clear q3
   cases p3
   rename_i b3 hh
   have e3 := hh.1
   have h3 := hh.2
   clear hh
   clear hd
   simp only [laidL, Act.put, List.setIfInBounds_toArray, List.set_cons_zero, List.set_cons_succ] at hK ⊢
   generalize V 3 = v3 at e3 hK ⊢
   subst e3
   go_simp
   exact hK _ _ ⟨Below.refl _ _, b3.1, b3.2, rfl, h3⟩
  ·intro V W hC hd K hK
   have q6 : shrV1 w1.heap.size g k r 6 (V 6) W := hd.1
   have e6 : V 6 = .int .i64 (r.ind : Int) := q6
   clear q6
   clear hd
   simp only [laidL, Act.put, List.setIfInBounds_toArray, List.set_cons_zero, List.set_cons_succ] at hK ⊢
   generalize V 6 = v6 at e6 hK ⊢
   subst e6
   go_simp
   exact hK _ _ ⟨Below.refl _ _, rfl⟩
 ·intro V W2 hC2 hV
  have e7 : V 7 = .int .i64 (needN k : Nat) := hV 7 (show 7 < 10 by decide)
  have e8 : ownV w1.heap.size (dataR r) (V 8) W2 := hV 8 (show 8 < 10 by decide)
  have e9 : V 9 = .int .i64 (r.ind : Int) := hV 9 (show 9 < 10 by decide)
  obtain ⟨A3, c3, e8, ho⟩ := e8
  have hA := own_nil_or ho
  have hlc := own_le ho
  have hqL : needN k ≤ (dataR r).length := by rw [dataR_length HR.out]; have := HK.out; unfold needN; omega
  have HO := Lib.hid (And.intro hC2 ho)
  clear hV hC2 ho
  obtain ⟨L, hL⟩ : ∃ L, L = (dataR r).length := ⟨_, rfl⟩
  obtain ⟨q, hq⟩ : ∃ q, q = needN k := ⟨_, rfl⟩
  rw [← hL] at e8 hA hlc hqL HO
  rw [← hq] at e7 hqL
  have HQ := Lib.hid (And.intro hL hq)
  have HA := Lib.hid hA
  clear hL hq cn cd hA
  simp only [laidL, Act.put, List.setIfInBounds_toArray, List.set_cons_zero, List.set_cons_succ]
  generalize V 7 = v7 at e7 ⊢
  generalize V 8 = v8 at e8 ⊢
  generalize V 9 = v9 at e9 ⊢
  subst e7
  subst e8
  subst e9
  have hqc : (q : Int) ≤ (c3 : Int) := by omega
  have hqL2 : (q : Int) ≤ (L : Int) := by omega
  have hLc2 : (L : Int) ≤ (c3 : Int) := by omega
  have hq0 : (0 : Int) ≤ (q : Int) := by omega
  go_wp2
  refine wp_region_rel (fun w' => w' = W2.drew) (fun _ a b => b = a) (shrV2 A3 L c3 q) hmx (by kernel_rfl) rfl (fun i a b h1 h2 => by rw [h2]; exact h1) (fun i j v a b _ _ h => shrV2_stable A3 L c3 q j v a b h) ?_ ?_
  ·refine ⟨?_, ?_, ?_, ?_, ?_, ?_, ?_, ?_, trivial⟩
   ·intro V W hC hd K hK
    clear hd
    simp only [laidL, Act.put, List.setIfInBounds_toArray, List.set_cons_zero, List.set_cons_succ] at hK ⊢
    subst hC
    go_simp
    exact hK _ _ ⟨rfl, rfl⟩
   ·intro V W hC hd K hK
    clear hd
    simp only [laidL, Act.put, List.setIfInBounds_toArray, List.set_cons_zero, List.set_cons_succ] at hK ⊢
    subst hC
    go_simp
    exact hK _ _ ⟨rfl, rfl⟩
   ·intro V W hC hd K hK
    have q0 : shrV2 A3 L c3 q 0 (V 0) W := hd.1
    have e0 : V 0 = .slice A3 L c3 := q0
    clear q0
    have q1 : shrV2 A3 L c3 q 1 (V 1) W := hd.2.1
    have e1 : V 1 = .int .i64 (q : Int) := q1
    clear q1
    clear hd
    simp only [laidL, Act.put, List.setIfInBounds_toArray, List.set_cons_zero, List.set_cons_succ] at hK ⊢
    generalize V 0 = v0 at e0 hK ⊢
    subst e0
    generalize V 1 = v1 at e1 hK ⊢
    subst e1
    subst hC
    rcases HA.out with ⟨eA, ec, eL⟩ | ⟨b, eA⟩
    ·subst eA
     subst ec
     subst eL
     obtain rfl : q = 0 := by omega
     go_simp
     exact hK _ _ ⟨rfl, rfl⟩
    ·subst eA
     go_simp
     exact hK _ _ ⟨rfl, rfl⟩
   ·intro V W hC hd K hK
    clear hd
    simp only [laidL, Act.put, List.setIfInBounds_toArray, List.set_cons_zero, List.set_cons_succ] at hK ⊢
    subst hC
    go_simp
    exact hK _ _ ⟨rfl, rfl⟩
   ·intro V W hC hd K hK
    clear hd
    simp only [laidL, Act.put, List.setIfInBounds_toArray, List.set_cons_zero, List.set_cons_succ] at hK ⊢
    subst hC
    go_simp
    exact hK _ _ ⟨rfl, rfl⟩
   ·intro V W hC hd K hK
    have q3 : shrV2 A3 L c3 q 3 (V 3) W := hd.1
    have e3 : V 3 = .slice A3 L c3 := q3
    clear q3
    have q4 : shrV2 A3 L c3 q 4 (V 4) W := hd.2.1
    have e4 : V 4 = .int .i64 (q : Int) := q4
    clear q4
    clear hd
    simp only [laidL, Act.put, List.setIfInBounds_toArray, List.set_cons_zero, List.set_cons_succ] at hK ⊢
    generalize V 3 = v3 at e3 hK ⊢
    subst e3
    generalize V 4 = v4 at e4 hK ⊢
    subst e4
    subst hC
    rcases HA.out with ⟨eA, ec, eL⟩ | ⟨b, eA⟩
    ·subst eA
     subst ec
     subst eL
     obtain rfl : q = 0 := by omega
     go_simp
     exact hK _ _ ⟨rfl, rfl⟩
    ·subst eA
     by_cases hck : c3 = q
     ·subst hck
      obtain rfl : L = c3 := by omega
      go_simp
      exact hK _ _ ⟨rfl, by simp [restA, shrV2, eqV]⟩
     ·have hck2 : (q : Int) ≠ (c3 : Int) := by omega
      have hck3 : ¬ (c3 : Int) - (q : Int) = 0 := by omega
      go_simp
      exact hK _ _ ⟨rfl, by simp [restA, shrV2, eqV, hck]⟩
   ·intro V W hC hd K hK
    have q2 : shrV2 A3 L c3 q 2 (V 2) W := hd.1
    have e2 : V 2 = .slice A3 q c3 := q2
    clear q2
    clear hd
    simp only [laidL, Act.put, List.setIfInBounds_toArray, List.set_cons_zero, List.set_cons_succ] at hK ⊢
    generalize V 2 = v2 at e2 hK ⊢
    subst e2
    subst hC
    go_simp
    exact hK _ _ ⟨rfl, rfl⟩
   ·intro V W hC hd K hK
    have q5 : shrV2 A3 L c3 q 5 (V 5) W := hd.1
    have e5 : V 5 = .slice (restA A3 q c3) (L - q) (c3 - q) := q5
    clear q5
    clear hd
    simp only [laidL, Act.put, List.setIfInBounds_toArray, List.set_cons_zero, List.set_cons_succ] at hK ⊢
    generalize V 5 = v5 at e5 hK ⊢
    subst e5
    subst hC
    go_simp
    exact hK _ _ ⟨rfl, rfl⟩
  ·intro V W hC hV
   have e6 : V 6 = .slice A3 q c3 := hV 6 (show 6 < 8 by decide)
   have e7 : V 7 = .slice (restA A3 q c3) (L - q) (c3 - q) := hV 7 (show 7 < 8 by decide)
   clear hV
   subst hC
   simp only [laidL, Act.put, List.setIfInBounds_toArray, List.set_cons_zero, List.set_cons_succ]
   generalize V 6 = v6 at e6 ⊢
   generalize V 7 = v7 at e7 ⊢
   subst e6
   subst e7
   have hbW : Below w.heap.size w W2.drew := (bstep HBB.out HO.out.1).drew
   have hBW : BR W2.drew g r := HB1.out.1.below HO.out.1.drew HB1.out.2
   have hoW : W2.drew.ownsRow w1.heap.size 3 1 (.slice A3 L c3) L (encN (dataR r)) := HO.out.2.drew
   have hszW : w1.heap.size ≤ W2.drew.heap.size := HO.out.1.size
   have hA2 : (A3 = none ∧ c3 = 0) ∨ ∃ b o, A3 = some ⟨b, o, none⟩ ∧ b < W2.drew.heap.size := by
    rcases HA.out with ⟨e1, e2, _⟩ | ⟨b, e1⟩
    ·exact .inl ⟨e1, e2⟩
    ·subst e1
     exact .inr ⟨b, 0, rfl, (own_block HO.out.2).2.1⟩
   generalize W2.drew = W at hbW hBW hoW hszW hA2 ⊢
   have HW := Lib.hid (And.intro hbW (And.intro hBW (And.intro hoW (And.intro hszW hA2))))
   have hL68 : L ≤ 68 := by rw [HQ.out.1, dataR_length HR.out]; omega
   have HLL := Lib.hid hL68
   clear hbW hBW hoW hszW hA2
   by_cases hb : q ≤ 4 ∧ r.ind ≠ 0
   ·have hq4 : (q : Int) ≤ 4 := by omega
    have hq4d : decide ((q : Int) ≤ 4) = true := decide_eq_true hq4
    have hi0 : ((r.ind : Int) != 0) = true := by rw [bne_iff_ne]; omega
    have HEB : Hid (backI r k = (dataR r).drop q ++ [r.ind]) := Lib.hid (by unfold backI; rw [← HQ.out.2, if_pos hb])
    have HE0 : Hid (shrinkI img r k = if (giveA img (castN (backI r k))).2 ≠ 0 then giveA img (castN (backI r k)) else (saveR (if 0 < k % 128 then putI (giveA img (castN (backI r k))).1 (((dataR r).take q).getD (q - 1) 0) (k % 128) (zeroN (128 - k % 128)) else (giveA img (castN (backI r k))).1) (nameR r k ((dataR r).take q) 0), 0)) := Lib.hid (by unfold shrinkI; rw [← HQ.out.2, if_pos hb])
    clear hb
    go_wp2_with (at_builtin; refine wpList_append_rest _ rfl (.tmp 35) (.tmp 37) rfl (own_alloc HW.out.2.2.1 _) hqL (by omega) (by simp; have := HW.out.2.2.2.1; omega) ⟨W.heap.size, 0, none⟩ 1 (cell_new1 _ _ _) rfl rfl rfl ?_; intro A4 c4 W4 hb4 hle4 hr4 hs4 hk4)
    have hb5 : Below w1.heap.size W W4 := (((Below.refl _ W).alloc HW.out.2.2.2.1 _)).trans hb4
    have J := Lib.hid (show Below w.heap.size w W4 ∧ BR W4 g r ∧ Reads W4 W4.heap.size 1 A3 q (encN ((dataR r).take q)) ∧ Reads W4 W4.heap.size 1 A4 (L - q + 1) (encI (castN (backI r k))) ∧ ((A3 = none ∧ c3 = 0) ∨ ∃ b o, A3 = some ⟨b, o, none⟩ ∧ b < W4.heap.size) from
     ⟨HW.out.1.trans (hb5.mono HBB.out.size), HW.out.2.1.below hb5 HB1.out.2, hs4, by rw [HEB.out, show encI (castN ((dataR r).drop q ++ [r.ind])) = encN ((dataR r).drop q ++ [r.ind]) from encI_nat _]; exact hr4,
      HW.out.2.2.2.2.imp id fun ⟨b, o, e, h⟩ => ⟨b, o, e, Nat.lt_of_lt_of_le h hb5.size⟩⟩)
    have hm4 : L - q + 1 ≤ 17592186044416 := by omega
    clear hb4 hle4 hr4 hs4 hk4 hb5
    generalize L - q + 1 = m4 at J hm4 ⊢
    have cv := giveO_any A A4 n c m4 c4 img (castN (backI r k)) W4 (H.out.step J.out.1) HM.out J.out.2.2.2.1 hm4
    generalize giveA img (castN (backI r k)) = y at cv HE0
    obtain ⟨yi, ye⟩ := y
    dsimp only at cv HE0
    go_wp2_with fail
    refine cv.mono ?_
    rintro e w5 ⟨g5, n5, c5, rfl, hO5, hn5, hb5⟩
    have HZ := Lib.hid (show OwI w5 W4.heap.size g5 n5 c5 yi ∧ Below w.heap.size w w5 ∧ BR w5 g r ∧ Reads w5 W4.heap.size 1 A3 q (encN ((dataR r).take q)) ∧ W4.heap.size ≤ w5.heap.size ∧ g < W4.heap.size from ⟨hO5, bstep J.out.1 hb5, J.out.2.1.step hb5, J.out.2.2.1.below hb5, hb5.size, J.out.2.1.lt⟩)
    clear hO5 hb5 cv
    by_cases hy : ye = 0
    ·subst hy
     have hkt : (k : Int).tmod 128 = ((k % 128 : Nat) : Int) := by rw [Int.tmod_eq_emod_of_nonneg (by omega)]; omega
     have hkm : (k : Int) % 128 = ((k % 128 : Nat) : Int) := by omega
     have hE128 : k % 128 < 128 := Nat.mod_lt _ (by omega)
     have hEq : 0 < k % 128 → 0 < q := fun h => by have := HQ.out.2; unfold needN at this; omega
     have HKK := Lib.hid (show k ≤ 8704 from HK.out.2)
     by_cases hE : k % 128 = 0
     ·have HE : Hid (shrinkI img r k = (saveR yi (nameR r k ((dataR r).take q) 0), 0)) := Lib.hid (by rw [HE0.out, if_neg (by decide), if_neg (by omega)])
      rw [hE] at hkt hkm
      clear hE hE128 hEq
      have SV := HZ
      have cs := naming_any r HR.out k (by have := HKK.out; omega) 0 (by have := HR.out.ind; omega) A3 q c3 ((dataR r).take q)
      go_wp2_with (refine wpList_load_mid rfl _ _ rfl g 0 rfl (cellsR r) _ SV.out.2.2.1.range Tryz.underlying62 rfl (by rw [cellsR_length HR.out]; exact sizeR) ?_)
      refine (cs _ (SV.out.2.2.2.1.more SV.out.2.2.2.2.1) (by have := HLL.out; omega) (by omega) (J.out.2.2.2.2.imp id fun ⟨b, o, e, h⟩ => ⟨b, o, e, Nat.lt_of_lt_of_le h SV.out.2.2.2.2.1⟩)).mono ?_
      rintro e w7 ⟨rfl, hb7⟩
      have hO7 := SV.out.1.step hb7
      have cv2 := saveR_any (nameR r k ((dataR r).take q) 0) (nameR_ok HR.out (by have := HKK.out; omega) (by have := HR.out.ind; omega)) W4.heap.size g5 n5 c5 yi w7 hO7
      unfold valR at cv2
      have HV := Lib.hid (bstep SV.out.2.1 hb7)
      clear hO7 hb7 cs
      unfold valR
      go_wp2_with fail
      refine cv2.mono ?_
      rintro e w8 ⟨rfl, hO8, hbt⟩
      have HU := Lib.hid (And.intro hO8 (HV.out.trans (hbt.to_below (B := w.heap.size) (Nat.le_trans J.out.1.size hO8.ge) HV.out.size)))
      clear hO8 hbt cv2
      go_wp2
      go_ret2
      rw [HE.out]
      exact ⟨g5, n5, c5, rfl, ⟨own_base HU.out.1.own J.out.1.size, HU.out.1.pos⟩, hn5, HU.out.2⟩
     ·have hE0' := hE
      have hE0 : 0 < k % 128 := by omega
      have hq1 := hEq hE0
      obtain ⟨p, hp⟩ : ∃ p, p = q - 1 := ⟨_, rfl⟩
      have HE : Hid (shrinkI img r k = (saveR (putI yi (((dataR r).take q).getD p 0) (k % 128) (zeroN (128 - k % 128))) (nameR r k ((dataR r).take q) 0), 0)) := Lib.hid (by rw [HE0.out, if_neg (by decide), if_pos hE0, hp])
      clear hEq hE
      generalize k % 128 = E at hkt hkm hE128 hE0 HE
      obtain ⟨b, o, hA3, hbX, hcell⟩ := HZ.out.2.2.2.1.2 hq1
      have hcv := hcell p _ (encN_get (by rw [List.length_take]; have := HQ.out.1; omega))
      clear hcell
      subst hA3
      obtain ⟨v, hv⟩ : ∃ v, v = ((dataR r).take q).getD p 0 := ⟨_, rfl⟩
      rw [← hv] at hcv HE
      obtain ⟨img2, hi2⟩ : ∃ x, x = putI yi v E (zeroN (128 - E)) := ⟨_, rfl⟩
      rw [← hi2] at HE
      have HI2 := Lib.hid hi2
      have hwp : IntKind.i64.wrap ((q : Int) - 1) = (p : Int) := by rw [IntKind.wrap_i64]; omega
      have hwE : IntKind.i64.wrap (128 - (E : Int)) = ((128 - E : Nat) : Int) := by rw [IntKind.wrap_i64]; omega
      have hpq : (p : Int) < (q : Int) := by omega
      have hp0 : (0 : Int) ≤ (p : Int) := by omega
      have hE0i : (0 : Int) < (E : Int) := by omega
      have hE0d : decide ((0 : Int) < (E : Int)) = true := decide_eq_true hE0i
      have HB5 := Lib.hid (show b < w5.heap.size ∧ b ≠ g5 ∧ g ≠ g5 ∧ w5.cell? ⟨b, o + p, none⟩ = some (.int .i64 (v : Int)) from ⟨Nat.lt_of_lt_of_le hbX HZ.out.2.2.2.2.1, by have := HZ.out.1.ge; omega, by have := HZ.out.1.ge; have := HZ.out.2.2.2.2.2; omega, hcv⟩)
      clear hbX hv hi2 hp hE0 hcv hq1
      go_wp2
      rw [show decide (0 < E) = true from decide_eq_true (by omega)]
      refine wp_region_rel2 (fun L w' => But g5 w5 w' ∧ OwI w' W4.heap.size g5 n5 c5 (if L 10 = true then img2 else yi)) (fun i w w' => (i ≠ 10 → Below w.heap.size w w') ∧ (i = 10 → But g5 w w' ∧ OwI w' W4.heap.size g5 n5 c5 img2)) (shrV3 g5 n5 c5 b o q c3 p E v) hmx (by kernel_rfl) ⟨But.of_below (Below.refl _ _).drew _, by rw [if_neg (by decide)]; exact HZ.out.1.step (Below.refl _ _).drew⟩ (fun i L w w' hi hC hs => by
       by_cases h9 : i = 10
       ·obtain ⟨h1, h2⟩ := hs.2 h9
        subst h9
        exact ⟨hC.1.trans h1, by rw [if_pos (by simp)]; exact h2⟩
       ·have h1 := hs.1 h9
        refine ⟨hC.1.trans (But.of_below h1 _), ?_⟩
        have e : (if (10 : Nat) = i then true else L 10) = L 10 := if_neg (Ne.symm h9)
        show OwI w' W4.heap.size g5 n5 c5 (if (if (10 : Nat) = i then true else L 10) = true then _ else _)
        rw [e]
        exact hC.2.step h1) (fun i j v' w w' _ _ h => shrV3_stable g5 n5 c5 b o q c3 p E v j v' w w' h) ?_ ?_
      ·refine ⟨?_, ?_, ?_, ?_, ?_, ?_, ?_, ?_, ?_, ?_, ?_, trivial⟩
       ·intro V L W hL hC hd K hK
        clear hd
        simp only [laidL, Act.put, List.setIfInBounds_toArray, List.set_cons_zero, List.set_cons_succ] at hK ⊢
        go_simp
        exact hK _ _ ⟨⟨fun _ => Below.refl _ _, fun h => absurd h (by decide)⟩, rfl⟩
       ·intro V L W hL hC hd K hK
        clear hd
        simp only [laidL, Act.put, List.setIfInBounds_toArray, List.set_cons_zero, List.set_cons_succ] at hK ⊢
        go_simp
        exact hK _ _ ⟨⟨fun _ => Below.refl _ _, fun h => absurd h (by decide)⟩, rfl⟩
       ·intro V L W hL hC hd K hK
        clear hd
        simp only [laidL, Act.put, List.setIfInBounds_toArray, List.set_cons_zero, List.set_cons_succ] at hK ⊢
        go_simp
        exact hK _ _ ⟨⟨fun _ => Below.refl _ _, fun h => absurd h (by decide)⟩, rfl⟩
       ·intro V L W hL hC hd K hK
        have q2 : shrV3 g5 n5 c5 b o q c3 p E v 2 (V 2) W := hd.1
        have e2 : V 2 = .int .i64 (q : Int) := q2
        clear q2
        clear hd
        simp only [laidL, Act.put, List.setIfInBounds_toArray, List.set_cons_zero, List.set_cons_succ] at hK ⊢
        generalize V 2 = v2 at e2 hK ⊢
        subst e2
        go_simp
        exact hK _ _ ⟨⟨fun _ => Below.refl _ _, fun h => absurd h (by decide)⟩, rfl⟩
       ·intro V L W hL hC hd K hK
        have q1 : shrV3 g5 n5 c5 b o q c3 p E v 1 (V 1) W := hd.1
        have e1 : V 1 = .slice (some ⟨b, o, none⟩) q c3 := q1
        clear q1
        have q3 : shrV3 g5 n5 c5 b o q c3 p E v 3 (V 3) W := hd.2.1
        have e3 : V 3 = .int .i64 (p : Int) := q3
        clear q3
        clear hd
        simp only [laidL, Act.put, List.setIfInBounds_toArray, List.set_cons_zero, List.set_cons_succ] at hK ⊢
        generalize V 1 = v1 at e1 hK ⊢
        subst e1
        generalize V 3 = v3 at e3 hK ⊢
        subst e3
        go_simp
        exact hK _ _ ⟨⟨fun _ => Below.refl _ _, fun h => absurd h (by decide)⟩, rfl⟩
       ·intro V L W hL hC hd K hK
        have q4 : shrV3 g5 n5 c5 b o q c3 p E v 4 (V 4) W := hd.1
        have e4 : V 4 = .pointer (some ⟨b, o + p, none⟩) := q4
        clear q4
        clear hd
        simp only [laidL, Act.put, List.setIfInBounds_toArray, List.set_cons_zero, List.set_cons_succ] at hK ⊢
        generalize V 4 = v4 at e4 hK ⊢
        subst e4
        have hc := (hC.1.cell (o := o + p) HB5.out.1 HB5.out.2.1).trans HB5.out.2.2.2
        go_simp
        exact hK _ _ ⟨⟨fun _ => Below.refl _ _, fun h => absurd h (by decide)⟩, rfl⟩
       ·intro V L W hL hC hd K hK
        clear hd
        simp only [laidL, Act.put, List.setIfInBounds_toArray, List.set_cons_zero, List.set_cons_succ] at hK ⊢
        go_simp
        exact hK _ _ ⟨⟨fun _ => Below.refl _ _, fun h => absurd h (by decide)⟩, rfl⟩
       ·intro V L W hL hC hd K hK
        clear hd
        simp only [laidL, Act.put, List.setIfInBounds_toArray, List.set_cons_zero, List.set_cons_succ] at hK ⊢
        go_simp
        exact hK _ _ ⟨⟨fun _ => Below.refl _ _, fun h => absurd h (by decide)⟩, rfl⟩
       ·intro V L W hL hC hd K hK
        have q7 : shrV3 g5 n5 c5 b o q c3 p E v 7 (V 7) W := hd.1
        have e7 : V 7 = .int .i64 (E : Int) := q7
        clear q7
        clear hd
        simp only [laidL, Act.put, List.setIfInBounds_toArray, List.set_cons_zero, List.set_cons_succ] at hK ⊢
        generalize V 7 = v7 at e7 hK ⊢
        subst e7
        go_simp
        exact hK _ _ ⟨⟨fun _ => Below.refl _ _, fun h => absurd h (by decide)⟩, rfl⟩
       ·intro V L W hL hC hd K hK
        have q8 : shrV3 g5 n5 c5 b o q c3 p E v 8 (V 8) W := hd.1
        have e8 : V 8 = .int .i64 (128 - E : Nat) := q8
        clear q8
        clear hd
        simp only [laidL, Act.put, List.setIfInBounds_toArray, List.set_cons_zero, List.set_cons_succ] at hK ⊢
        generalize V 8 = v8 at e8 hK ⊢
        subst e8
        go_simp
        go_at_call 83
        refine (zerosI_any (128 - E) (by omega) _).mono ?_
        rintro e w3 ⟨rfl, hb3⟩
        exact hK _ _ ⟨⟨fun _ => hb3, fun h => absurd h (by decide)⟩, rfl⟩
       ·intro V L W hL hC hd K hK
        have q0 : shrV3 g5 n5 c5 b o q c3 p E v 0 (V 0) W := hd.1
        have e0 : V 0 = .slice (some ⟨g5, 0, none⟩) n5 c5 := q0
        clear q0
        have q5 : shrV3 g5 n5 c5 b o q c3 p E v 5 (V 5) W := hd.2.1
        have e5 : V 5 = .int .i64 (v : Int) := q5
        clear q5
        have q6 : shrV3 g5 n5 c5 b o q c3 p E v 6 (V 6) W := hd.2.2.1
        have e6 : V 6 = .int .i64 (E : Int) := q6
        clear q6
        have q9 : shrV3 g5 n5 c5 b o q c3 p E v 9 (V 9) W := hd.2.2.2.1
        have e9 : V 9 = .string (zeroN (128 - E)) := q9
        clear q9
        clear hd
        simp only [laidL, Act.put, List.setIfInBounds_toArray, List.set_cons_zero, List.set_cons_succ] at hK ⊢
        generalize V 0 = v0 at e0 hK ⊢
        subst e0
        generalize V 5 = v5 at e5 hK ⊢
        subst e5
        generalize V 6 = v6 at e6 hK ⊢
        subst e6
        generalize V 9 = v9 at e9 hK ⊢
        subst e9
        go_simp
        have hO : OwI W W4.heap.size g5 n5 c5 yi := by have h := hC.2; rwa [if_neg (by rw [hL]; decide)] at h
        go_at_call 45
        refine (putI_any W4.heap.size g5 n5 c5 yi v E (zeroN (128 - E)) W hO (by rw [zeroN_size]; omega) hE128).mono ?_
        rintro e w3 ⟨rfl, hO3, hb3⟩
        rw [← HI2.out] at hO3
        exact hK _ _ ⟨⟨fun h => absurd rfl h, fun _ => ⟨hb3, hO3⟩⟩, rfl⟩
      ·intro V L5 W hL hC hV
       have hO6 : OwI W W4.heap.size g5 n5 c5 img2 := by have h := hC.2; rw [if_pos (hL 10 (by decide))] at h; exact h
       have hbW := hC.1.to_below (B := W4.heap.size) HZ.out.1.ge HZ.out.2.2.2.2.1
       have SV := Lib.hid (show OwI W W4.heap.size g5 n5 c5 img2 ∧ Below w.heap.size w W ∧ BR W g r ∧ Reads W W4.heap.size 1 (some ⟨b, o, none⟩) q (encN ((dataR r).take q)) ∧ W4.heap.size ≤ W.heap.size ∧ True from ⟨hO6, HZ.out.2.1.trans (hbW.mono J.out.1.size), HZ.out.2.2.1.but hC.1 HB5.out.2.2.1, HZ.out.2.2.2.1.below hbW, Nat.le_trans HZ.out.2.2.2.2.1 hC.1.size, trivial⟩)
       clear hV hL hC hO6 hbW
       simp only [laidL, Act.put, List.setIfInBounds_toArray, List.set_cons_zero, List.set_cons_succ]
       have cs := naming_any r HR.out k (by have := HKK.out; omega) 0 (by have := HR.out.ind; omega) (some ⟨b, o, none⟩) q c3 ((dataR r).take q)
       go_wp2_with (refine wpList_load_mid rfl _ _ rfl g 0 rfl (cellsR r) _ SV.out.2.2.1.range Tryz.underlying62 rfl (by rw [cellsR_length HR.out]; exact sizeR) ?_)
       refine (cs _ (SV.out.2.2.2.1.more SV.out.2.2.2.2.1) (by have := HLL.out; omega) (by omega) (J.out.2.2.2.2.imp id fun ⟨b, o, e, h⟩ => ⟨b, o, e, Nat.lt_of_lt_of_le h SV.out.2.2.2.2.1⟩)).mono ?_
       rintro e w7 ⟨rfl, hb7⟩
       have hO7 := SV.out.1.step hb7
       have cv2 := saveR_any (nameR r k ((dataR r).take q) 0) (nameR_ok HR.out (by have := HKK.out; omega) (by have := HR.out.ind; omega)) W4.heap.size g5 n5 c5 img2 w7 hO7
       unfold valR at cv2
       have HV := Lib.hid (bstep SV.out.2.1 hb7)
       clear hO7 hb7 cs
       unfold valR
       go_wp2_with fail
       refine cv2.mono ?_
       rintro e w8 ⟨rfl, hO8, hbt⟩
       have HU := Lib.hid (And.intro hO8 (HV.out.trans (hbt.to_below (B := w.heap.size) (Nat.le_trans J.out.1.size hO8.ge) HV.out.size)))
       clear hO8 hbt cv2
       go_wp2
       go_ret2
       rw [HE.out]
       exact ⟨g5, n5, c5, rfl, ⟨own_base HU.out.1.own J.out.1.size, HU.out.1.pos⟩, hn5, HU.out.2⟩
    ·have HE : Hid (shrinkI img r k = (yi, ye)) := Lib.hid (by rw [HE0.out, if_pos hy])
     have hyb : (ye != 0) = true := by rw [bne_iff_ne]; exact hy
     clear hy
     go_wp2
     go_ret2
     rw [HE.out]
     exact ⟨g5, n5, c5, rfl, ⟨own_base HZ.out.1.own J.out.1.size, HZ.out.1.pos⟩, hn5, HZ.out.2.1⟩
   ·have HEB : Hid (backI r k = (dataR r).drop q) := Lib.hid (by unfold backI; rw [← HQ.out.2, if_neg hb, List.append_nil])
    have HE0 : Hid (shrinkI img r k = if (giveA img (castN (backI r k))).2 ≠ 0 then giveA img (castN (backI r k)) else (saveR (if 0 < k % 128 then putI (giveA img (castN (backI r k))).1 (((dataR r).take q).getD (q - 1) 0) (k % 128) (zeroN (128 - k % 128)) else (giveA img (castN (backI r k))).1) (nameR r k ((dataR r).take q) r.ind), 0)) := Lib.hid (by unfold shrinkI; rw [← HQ.out.2, if_neg hb])
    obtain ⟨A4, hA4⟩ : ∃ x, x = restA A3 q c3 := ⟨_, rfl⟩
    obtain ⟨m4, hm4e⟩ : ∃ x, x = L - q := ⟨_, rfl⟩
    obtain ⟨c4, hc4⟩ : ∃ x, x = c3 - q := ⟨_, rfl⟩
    have J := Lib.hid (show Below w.heap.size w W ∧ BR W g r ∧ Reads W W.heap.size 1 A3 q (encN ((dataR r).take q)) ∧ Reads W W.heap.size 1 A4 m4 (encI (castN (backI r k))) ∧ ((A3 = none ∧ c3 = 0) ∨ ∃ b o, A3 = some ⟨b, o, none⟩ ∧ b < W.heap.size) from
     ⟨HW.out.1, HW.out.2.1, reads_take (Reads.of_own HW.out.2.2.1) hqL, by rw [HEB.out, hA4, hm4e, show encI (castN ((dataR r).drop q)) = encN ((dataR r).drop q) from encI_nat _]; exact reads_rest HW.out.2.2.1 hqL, HW.out.2.2.2.2⟩)
    have hm4 : m4 ≤ 17592186044416 := by omega
    rw [← hA4, ← hm4e, ← hc4]
    clear hA4 hm4e hc4
    generalize W = W4 at J ⊢
    by_cases hq4 : q ≤ 4
    ·have hq4i : (q : Int) ≤ 4 := by omega
     have hq4d : decide ((q : Int) ≤ 4) = true := decide_eq_true hq4i
     have hi0 : r.ind = 0 := by omega
     have hi0b : ((r.ind : Int) != 0) = false := by rw [hi0]; rfl
     clear hb hi0 hq4
     have cv := giveO_any A A4 n c m4 c4 img (castN (backI r k)) W4 (H.out.step J.out.1) HM.out J.out.2.2.2.1 hm4
     generalize giveA img (castN (backI r k)) = y at cv HE0
     obtain ⟨yi, ye⟩ := y
     dsimp only at cv HE0
     go_wp2_with fail
     refine cv.mono ?_
     rintro e w5 ⟨g5, n5, c5, rfl, hO5, hn5, hb5⟩
     have HZ := Lib.hid (show OwI w5 W4.heap.size g5 n5 c5 yi ∧ Below w.heap.size w w5 ∧ BR w5 g r ∧ Reads w5 W4.heap.size 1 A3 q (encN ((dataR r).take q)) ∧ W4.heap.size ≤ w5.heap.size ∧ g < W4.heap.size from ⟨hO5, bstep J.out.1 hb5, J.out.2.1.step hb5, J.out.2.2.1.below hb5, hb5.size, J.out.2.1.lt⟩)
     clear hO5 hb5 cv
     by_cases hy : ye = 0
     ·subst hy
      have hkt : (k : Int).tmod 128 = ((k % 128 : Nat) : Int) := by rw [Int.tmod_eq_emod_of_nonneg (by omega)]; omega
      have hkm : (k : Int) % 128 = ((k % 128 : Nat) : Int) := by omega
      have hE128 : k % 128 < 128 := Nat.mod_lt _ (by omega)
      have hEq : 0 < k % 128 → 0 < q := fun h => by have := HQ.out.2; unfold needN at this; omega
      have HKK := Lib.hid (show k ≤ 8704 from HK.out.2)
      by_cases hE : k % 128 = 0
      ·have HE : Hid (shrinkI img r k = (saveR yi (nameR r k ((dataR r).take q) r.ind), 0)) := Lib.hid (by rw [HE0.out, if_neg (by decide), if_neg (by omega)])
       rw [hE] at hkt hkm
       clear hE hE128 hEq
       have SV := HZ
       have cs := naming_any r HR.out k (by have := HKK.out; omega) r.ind (by have := HR.out.ind; omega) A3 q c3 ((dataR r).take q)
       go_wp2_with (refine wpList_load_mid rfl _ _ rfl g 0 rfl (cellsR r) _ SV.out.2.2.1.range Tryz.underlying62 rfl (by rw [cellsR_length HR.out]; exact sizeR) ?_)
       refine (cs _ (SV.out.2.2.2.1.more SV.out.2.2.2.2.1) (by have := HLL.out; omega) (by omega) (J.out.2.2.2.2.imp id fun ⟨b, o, e, h⟩ => ⟨b, o, e, Nat.lt_of_lt_of_le h SV.out.2.2.2.2.1⟩)).mono ?_
       rintro e w7 ⟨rfl, hb7⟩
       have hO7 := SV.out.1.step hb7
       have cv2 := saveR_any (nameR r k ((dataR r).take q) r.ind) (nameR_ok HR.out (by have := HKK.out; omega) (by have := HR.out.ind; omega)) W4.heap.size g5 n5 c5 yi w7 hO7
       unfold valR at cv2
       have HV := Lib.hid (bstep SV.out.2.1 hb7)
       clear hO7 hb7 cs
       unfold valR
       go_wp2_with fail
       refine cv2.mono ?_
       rintro e w8 ⟨rfl, hO8, hbt⟩
       have HU := Lib.hid (And.intro hO8 (HV.out.trans (hbt.to_below (B := w.heap.size) (Nat.le_trans J.out.1.size hO8.ge) HV.out.size)))
       clear hO8 hbt cv2
       go_wp2
       go_ret2
       rw [HE.out]
       exact ⟨g5, n5, c5, rfl, ⟨own_base HU.out.1.own J.out.1.size, HU.out.1.pos⟩, hn5, HU.out.2⟩
      ·have hE0' := hE
       have hE0 : 0 < k % 128 := by omega
       have hq1 := hEq hE0
       obtain ⟨p, hp⟩ : ∃ p, p = q - 1 := ⟨_, rfl⟩
       have HE : Hid (shrinkI img r k = (saveR (putI yi (((dataR r).take q).getD p 0) (k % 128) (zeroN (128 - k % 128))) (nameR r k ((dataR r).take q) r.ind), 0)) := Lib.hid (by rw [HE0.out, if_neg (by decide), if_pos hE0, hp])
       clear hEq hE
       generalize k % 128 = E at hkt hkm hE128 hE0 HE
       obtain ⟨b, o, hA3, hbX, hcell⟩ := HZ.out.2.2.2.1.2 hq1
       have hcv := hcell p _ (encN_get (by rw [List.length_take]; have := HQ.out.1; omega))
       clear hcell
       subst hA3
       obtain ⟨v, hv⟩ : ∃ v, v = ((dataR r).take q).getD p 0 := ⟨_, rfl⟩
       rw [← hv] at hcv HE
       obtain ⟨img2, hi2⟩ : ∃ x, x = putI yi v E (zeroN (128 - E)) := ⟨_, rfl⟩
       rw [← hi2] at HE
       have HI2 := Lib.hid hi2
       have hwp : IntKind.i64.wrap ((q : Int) - 1) = (p : Int) := by rw [IntKind.wrap_i64]; omega
       have hwE : IntKind.i64.wrap (128 - (E : Int)) = ((128 - E : Nat) : Int) := by rw [IntKind.wrap_i64]; omega
       have hpq : (p : Int) < (q : Int) := by omega
       have hp0 : (0 : Int) ≤ (p : Int) := by omega
       have hE0i : (0 : Int) < (E : Int) := by omega
       have hE0d : decide ((0 : Int) < (E : Int)) = true := decide_eq_true hE0i
       have HB5 := Lib.hid (show b < w5.heap.size ∧ b ≠ g5 ∧ g ≠ g5 ∧ w5.cell? ⟨b, o + p, none⟩ = some (.int .i64 (v : Int)) from ⟨Nat.lt_of_lt_of_le hbX HZ.out.2.2.2.2.1, by have := HZ.out.1.ge; omega, by have := HZ.out.1.ge; have := HZ.out.2.2.2.2.2; omega, hcv⟩)
       clear hbX hv hi2 hp hE0 hcv hq1
       go_wp2
       rw [show decide (0 < E) = true from decide_eq_true (by omega)]
       refine wp_region_rel2 (fun L w' => But g5 w5 w' ∧ OwI w' W4.heap.size g5 n5 c5 (if L 10 = true then img2 else yi)) (fun i w w' => (i ≠ 10 → Below w.heap.size w w') ∧ (i = 10 → But g5 w w' ∧ OwI w' W4.heap.size g5 n5 c5 img2)) (shrV3 g5 n5 c5 b o q c3 p E v) hmx (by kernel_rfl) ⟨But.of_below (Below.refl _ _).drew _, by rw [if_neg (by decide)]; exact HZ.out.1.step (Below.refl _ _).drew⟩ (fun i L w w' hi hC hs => by
        by_cases h9 : i = 10
        ·obtain ⟨h1, h2⟩ := hs.2 h9
         subst h9
         exact ⟨hC.1.trans h1, by rw [if_pos (by simp)]; exact h2⟩
        ·have h1 := hs.1 h9
         refine ⟨hC.1.trans (But.of_below h1 _), ?_⟩
         have e : (if (10 : Nat) = i then true else L 10) = L 10 := if_neg (Ne.symm h9)
         show OwI w' W4.heap.size g5 n5 c5 (if (if (10 : Nat) = i then true else L 10) = true then _ else _)
         rw [e]
         exact hC.2.step h1) (fun i j v' w w' _ _ h => shrV3_stable g5 n5 c5 b o q c3 p E v j v' w w' h) ?_ ?_
       ·refine ⟨?_, ?_, ?_, ?_, ?_, ?_, ?_, ?_, ?_, ?_, ?_, trivial⟩
        ·intro V L W hL hC hd K hK
         clear hd
         simp only [laidL, Act.put, List.setIfInBounds_toArray, List.set_cons_zero, List.set_cons_succ] at hK ⊢
         go_simp
         exact hK _ _ ⟨⟨fun _ => Below.refl _ _, fun h => absurd h (by decide)⟩, rfl⟩
        ·intro V L W hL hC hd K hK
         clear hd
         simp only [laidL, Act.put, List.setIfInBounds_toArray, List.set_cons_zero, List.set_cons_succ] at hK ⊢
         go_simp
         exact hK _ _ ⟨⟨fun _ => Below.refl _ _, fun h => absurd h (by decide)⟩, rfl⟩
        ·intro V L W hL hC hd K hK
         clear hd
         simp only [laidL, Act.put, List.setIfInBounds_toArray, List.set_cons_zero, List.set_cons_succ] at hK ⊢
         go_simp
         exact hK _ _ ⟨⟨fun _ => Below.refl _ _, fun h => absurd h (by decide)⟩, rfl⟩
        ·intro V L W hL hC hd K hK
         have q2 : shrV3 g5 n5 c5 b o q c3 p E v 2 (V 2) W := hd.1
         have e2 : V 2 = .int .i64 (q : Int) := q2
         clear q2
         clear hd
         simp only [laidL, Act.put, List.setIfInBounds_toArray, List.set_cons_zero, List.set_cons_succ] at hK ⊢
         generalize V 2 = v2 at e2 hK ⊢
         subst e2
         go_simp
         exact hK _ _ ⟨⟨fun _ => Below.refl _ _, fun h => absurd h (by decide)⟩, rfl⟩
        ·intro V L W hL hC hd K hK
         have q1 : shrV3 g5 n5 c5 b o q c3 p E v 1 (V 1) W := hd.1
         have e1 : V 1 = .slice (some ⟨b, o, none⟩) q c3 := q1
         clear q1
         have q3 : shrV3 g5 n5 c5 b o q c3 p E v 3 (V 3) W := hd.2.1
         have e3 : V 3 = .int .i64 (p : Int) := q3
         clear q3
         clear hd
         simp only [laidL, Act.put, List.setIfInBounds_toArray, List.set_cons_zero, List.set_cons_succ] at hK ⊢
         generalize V 1 = v1 at e1 hK ⊢
         subst e1
         generalize V 3 = v3 at e3 hK ⊢
         subst e3
         go_simp
         exact hK _ _ ⟨⟨fun _ => Below.refl _ _, fun h => absurd h (by decide)⟩, rfl⟩
        ·intro V L W hL hC hd K hK
         have q4 : shrV3 g5 n5 c5 b o q c3 p E v 4 (V 4) W := hd.1
         have e4 : V 4 = .pointer (some ⟨b, o + p, none⟩) := q4
         clear q4
         clear hd
         simp only [laidL, Act.put, List.setIfInBounds_toArray, List.set_cons_zero, List.set_cons_succ] at hK ⊢
         generalize V 4 = v4 at e4 hK ⊢
         subst e4
         have hc := (hC.1.cell (o := o + p) HB5.out.1 HB5.out.2.1).trans HB5.out.2.2.2
         go_simp
         exact hK _ _ ⟨⟨fun _ => Below.refl _ _, fun h => absurd h (by decide)⟩, rfl⟩
        ·intro V L W hL hC hd K hK
         clear hd
         simp only [laidL, Act.put, List.setIfInBounds_toArray, List.set_cons_zero, List.set_cons_succ] at hK ⊢
         go_simp
         exact hK _ _ ⟨⟨fun _ => Below.refl _ _, fun h => absurd h (by decide)⟩, rfl⟩
        ·intro V L W hL hC hd K hK
         clear hd
         simp only [laidL, Act.put, List.setIfInBounds_toArray, List.set_cons_zero, List.set_cons_succ] at hK ⊢
         go_simp
         exact hK _ _ ⟨⟨fun _ => Below.refl _ _, fun h => absurd h (by decide)⟩, rfl⟩
        ·intro V L W hL hC hd K hK
         have q7 : shrV3 g5 n5 c5 b o q c3 p E v 7 (V 7) W := hd.1
         have e7 : V 7 = .int .i64 (E : Int) := q7
         clear q7
         clear hd
         simp only [laidL, Act.put, List.setIfInBounds_toArray, List.set_cons_zero, List.set_cons_succ] at hK ⊢
         generalize V 7 = v7 at e7 hK ⊢
         subst e7
         go_simp
         exact hK _ _ ⟨⟨fun _ => Below.refl _ _, fun h => absurd h (by decide)⟩, rfl⟩
        ·intro V L W hL hC hd K hK
         have q8 : shrV3 g5 n5 c5 b o q c3 p E v 8 (V 8) W := hd.1
         have e8 : V 8 = .int .i64 (128 - E : Nat) := q8
         clear q8
         clear hd
         simp only [laidL, Act.put, List.setIfInBounds_toArray, List.set_cons_zero, List.set_cons_succ] at hK ⊢
         generalize V 8 = v8 at e8 hK ⊢
         subst e8
         go_simp
         go_at_call 83
         refine (zerosI_any (128 - E) (by omega) _).mono ?_
         rintro e w3 ⟨rfl, hb3⟩
         exact hK _ _ ⟨⟨fun _ => hb3, fun h => absurd h (by decide)⟩, rfl⟩
        ·intro V L W hL hC hd K hK
         have q0 : shrV3 g5 n5 c5 b o q c3 p E v 0 (V 0) W := hd.1
         have e0 : V 0 = .slice (some ⟨g5, 0, none⟩) n5 c5 := q0
         clear q0
         have q5 : shrV3 g5 n5 c5 b o q c3 p E v 5 (V 5) W := hd.2.1
         have e5 : V 5 = .int .i64 (v : Int) := q5
         clear q5
         have q6 : shrV3 g5 n5 c5 b o q c3 p E v 6 (V 6) W := hd.2.2.1
         have e6 : V 6 = .int .i64 (E : Int) := q6
         clear q6
         have q9 : shrV3 g5 n5 c5 b o q c3 p E v 9 (V 9) W := hd.2.2.2.1
         have e9 : V 9 = .string (zeroN (128 - E)) := q9
         clear q9
         clear hd
         simp only [laidL, Act.put, List.setIfInBounds_toArray, List.set_cons_zero, List.set_cons_succ] at hK ⊢
         generalize V 0 = v0 at e0 hK ⊢
         subst e0
         generalize V 5 = v5 at e5 hK ⊢
         subst e5
         generalize V 6 = v6 at e6 hK ⊢
         subst e6
         generalize V 9 = v9 at e9 hK ⊢
         subst e9
         go_simp
         have hO : OwI W W4.heap.size g5 n5 c5 yi := by have h := hC.2; rwa [if_neg (by rw [hL]; decide)] at h
         go_at_call 45
         refine (putI_any W4.heap.size g5 n5 c5 yi v E (zeroN (128 - E)) W hO (by rw [zeroN_size]; omega) hE128).mono ?_
         rintro e w3 ⟨rfl, hO3, hb3⟩
         rw [← HI2.out] at hO3
         exact hK _ _ ⟨⟨fun h => absurd rfl h, fun _ => ⟨hb3, hO3⟩⟩, rfl⟩
       ·intro V L5 W hL hC hV
        have hO6 : OwI W W4.heap.size g5 n5 c5 img2 := by have h := hC.2; rw [if_pos (hL 10 (by decide))] at h; exact h
        have hbW := hC.1.to_below (B := W4.heap.size) HZ.out.1.ge HZ.out.2.2.2.2.1
        have SV := Lib.hid (show OwI W W4.heap.size g5 n5 c5 img2 ∧ Below w.heap.size w W ∧ BR W g r ∧ Reads W W4.heap.size 1 (some ⟨b, o, none⟩) q (encN ((dataR r).take q)) ∧ W4.heap.size ≤ W.heap.size ∧ True from ⟨hO6, HZ.out.2.1.trans (hbW.mono J.out.1.size), HZ.out.2.2.1.but hC.1 HB5.out.2.2.1, HZ.out.2.2.2.1.below hbW, Nat.le_trans HZ.out.2.2.2.2.1 hC.1.size, trivial⟩)
        clear hV hL hC hO6 hbW
        simp only [laidL, Act.put, List.setIfInBounds_toArray, List.set_cons_zero, List.set_cons_succ]
        have cs := naming_any r HR.out k (by have := HKK.out; omega) r.ind (by have := HR.out.ind; omega) (some ⟨b, o, none⟩) q c3 ((dataR r).take q)
        go_wp2_with (refine wpList_load_mid rfl _ _ rfl g 0 rfl (cellsR r) _ SV.out.2.2.1.range Tryz.underlying62 rfl (by rw [cellsR_length HR.out]; exact sizeR) ?_)
        refine (cs _ (SV.out.2.2.2.1.more SV.out.2.2.2.2.1) (by have := HLL.out; omega) (by omega) (J.out.2.2.2.2.imp id fun ⟨b, o, e, h⟩ => ⟨b, o, e, Nat.lt_of_lt_of_le h SV.out.2.2.2.2.1⟩)).mono ?_
        rintro e w7 ⟨rfl, hb7⟩
        have hO7 := SV.out.1.step hb7
        have cv2 := saveR_any (nameR r k ((dataR r).take q) r.ind) (nameR_ok HR.out (by have := HKK.out; omega) (by have := HR.out.ind; omega)) W4.heap.size g5 n5 c5 img2 w7 hO7
        unfold valR at cv2
        have HV := Lib.hid (bstep SV.out.2.1 hb7)
        clear hO7 hb7 cs
        unfold valR
        go_wp2_with fail
        refine cv2.mono ?_
        rintro e w8 ⟨rfl, hO8, hbt⟩
        have HU := Lib.hid (And.intro hO8 (HV.out.trans (hbt.to_below (B := w.heap.size) (Nat.le_trans J.out.1.size hO8.ge) HV.out.size)))
        clear hO8 hbt cv2
        go_wp2
        go_ret2
        rw [HE.out]
        exact ⟨g5, n5, c5, rfl, ⟨own_base HU.out.1.own J.out.1.size, HU.out.1.pos⟩, hn5, HU.out.2⟩
     ·have HE : Hid (shrinkI img r k = (yi, ye)) := Lib.hid (by rw [HE0.out, if_pos hy])
      have hyb : (ye != 0) = true := by rw [bne_iff_ne]; exact hy
      clear hy
      go_wp2
      go_ret2
      rw [HE.out]
      exact ⟨g5, n5, c5, rfl, ⟨own_base HZ.out.1.own J.out.1.size, HZ.out.1.pos⟩, hn5, HZ.out.2.1⟩
    ·have hq4i : ¬ (q : Int) ≤ 4 := by omega
     have hq4d : decide ((q : Int) ≤ 4) = false := decide_eq_false hq4i
     clear hb hq4
     have cv := giveO_any A A4 n c m4 c4 img (castN (backI r k)) W4 (H.out.step J.out.1) HM.out J.out.2.2.2.1 hm4
     generalize giveA img (castN (backI r k)) = y at cv HE0
     obtain ⟨yi, ye⟩ := y
     dsimp only at cv HE0
     go_wp2_with fail
     refine cv.mono ?_
     rintro e w5 ⟨g5, n5, c5, rfl, hO5, hn5, hb5⟩
     have HZ := Lib.hid (show OwI w5 W4.heap.size g5 n5 c5 yi ∧ Below w.heap.size w w5 ∧ BR w5 g r ∧ Reads w5 W4.heap.size 1 A3 q (encN ((dataR r).take q)) ∧ W4.heap.size ≤ w5.heap.size ∧ g < W4.heap.size from ⟨hO5, bstep J.out.1 hb5, J.out.2.1.step hb5, J.out.2.2.1.below hb5, hb5.size, J.out.2.1.lt⟩)
     clear hO5 hb5 cv
     by_cases hy : ye = 0
     ·subst hy
      have hkt : (k : Int).tmod 128 = ((k % 128 : Nat) : Int) := by rw [Int.tmod_eq_emod_of_nonneg (by omega)]; omega
      have hkm : (k : Int) % 128 = ((k % 128 : Nat) : Int) := by omega
      have hE128 : k % 128 < 128 := Nat.mod_lt _ (by omega)
      have hEq : 0 < k % 128 → 0 < q := fun h => by have := HQ.out.2; unfold needN at this; omega
      have HKK := Lib.hid (show k ≤ 8704 from HK.out.2)
      by_cases hE : k % 128 = 0
      ·have HE : Hid (shrinkI img r k = (saveR yi (nameR r k ((dataR r).take q) r.ind), 0)) := Lib.hid (by rw [HE0.out, if_neg (by decide), if_neg (by omega)])
       rw [hE] at hkt hkm
       clear hE hE128 hEq
       have SV := HZ
       have cs := naming_any r HR.out k (by have := HKK.out; omega) r.ind (by have := HR.out.ind; omega) A3 q c3 ((dataR r).take q)
       go_wp2_with (refine wpList_load_mid rfl _ _ rfl g 0 rfl (cellsR r) _ SV.out.2.2.1.range Tryz.underlying62 rfl (by rw [cellsR_length HR.out]; exact sizeR) ?_)
       refine (cs _ (SV.out.2.2.2.1.more SV.out.2.2.2.2.1) (by have := HLL.out; omega) (by omega) (J.out.2.2.2.2.imp id fun ⟨b, o, e, h⟩ => ⟨b, o, e, Nat.lt_of_lt_of_le h SV.out.2.2.2.2.1⟩)).mono ?_
       rintro e w7 ⟨rfl, hb7⟩
       have hO7 := SV.out.1.step hb7
       have cv2 := saveR_any (nameR r k ((dataR r).take q) r.ind) (nameR_ok HR.out (by have := HKK.out; omega) (by have := HR.out.ind; omega)) W4.heap.size g5 n5 c5 yi w7 hO7
       unfold valR at cv2
       have HV := Lib.hid (bstep SV.out.2.1 hb7)
       clear hO7 hb7 cs
       unfold valR
       go_wp2_with fail
       refine cv2.mono ?_
       rintro e w8 ⟨rfl, hO8, hbt⟩
       have HU := Lib.hid (And.intro hO8 (HV.out.trans (hbt.to_below (B := w.heap.size) (Nat.le_trans J.out.1.size hO8.ge) HV.out.size)))
       clear hO8 hbt cv2
       go_wp2
       go_ret2
       rw [HE.out]
       exact ⟨g5, n5, c5, rfl, ⟨own_base HU.out.1.own J.out.1.size, HU.out.1.pos⟩, hn5, HU.out.2⟩
      ·have hE0' := hE
       have hE0 : 0 < k % 128 := by omega
       have hq1 := hEq hE0
       obtain ⟨p, hp⟩ : ∃ p, p = q - 1 := ⟨_, rfl⟩
       have HE : Hid (shrinkI img r k = (saveR (putI yi (((dataR r).take q).getD p 0) (k % 128) (zeroN (128 - k % 128))) (nameR r k ((dataR r).take q) r.ind), 0)) := Lib.hid (by rw [HE0.out, if_neg (by decide), if_pos hE0, hp])
       clear hEq hE
       generalize k % 128 = E at hkt hkm hE128 hE0 HE
       obtain ⟨b, o, hA3, hbX, hcell⟩ := HZ.out.2.2.2.1.2 hq1
       have hcv := hcell p _ (encN_get (by rw [List.length_take]; have := HQ.out.1; omega))
       clear hcell
       subst hA3
       obtain ⟨v, hv⟩ : ∃ v, v = ((dataR r).take q).getD p 0 := ⟨_, rfl⟩
       rw [← hv] at hcv HE
       obtain ⟨img2, hi2⟩ : ∃ x, x = putI yi v E (zeroN (128 - E)) := ⟨_, rfl⟩
       rw [← hi2] at HE
       have HI2 := Lib.hid hi2
       have hwp : IntKind.i64.wrap ((q : Int) - 1) = (p : Int) := by rw [IntKind.wrap_i64]; omega
       have hwE : IntKind.i64.wrap (128 - (E : Int)) = ((128 - E : Nat) : Int) := by rw [IntKind.wrap_i64]; omega
       have hpq : (p : Int) < (q : Int) := by omega
       have hp0 : (0 : Int) ≤ (p : Int) := by omega
       have hE0i : (0 : Int) < (E : Int) := by omega
       have hE0d : decide ((0 : Int) < (E : Int)) = true := decide_eq_true hE0i
       have HB5 := Lib.hid (show b < w5.heap.size ∧ b ≠ g5 ∧ g ≠ g5 ∧ w5.cell? ⟨b, o + p, none⟩ = some (.int .i64 (v : Int)) from ⟨Nat.lt_of_lt_of_le hbX HZ.out.2.2.2.2.1, by have := HZ.out.1.ge; omega, by have := HZ.out.1.ge; have := HZ.out.2.2.2.2.2; omega, hcv⟩)
       clear hbX hv hi2 hp hE0 hcv hq1
       go_wp2
       rw [show decide (0 < E) = true from decide_eq_true (by omega)]
       refine wp_region_rel2 (fun L w' => But g5 w5 w' ∧ OwI w' W4.heap.size g5 n5 c5 (if L 10 = true then img2 else yi)) (fun i w w' => (i ≠ 10 → Below w.heap.size w w') ∧ (i = 10 → But g5 w w' ∧ OwI w' W4.heap.size g5 n5 c5 img2)) (shrV3 g5 n5 c5 b o q c3 p E v) hmx (by kernel_rfl) ⟨But.of_below (Below.refl _ _).drew _, by rw [if_neg (by decide)]; exact HZ.out.1.step (Below.refl _ _).drew⟩ (fun i L w w' hi hC hs => by
        by_cases h9 : i = 10
        ·obtain ⟨h1, h2⟩ := hs.2 h9
         subst h9
         exact ⟨hC.1.trans h1, by rw [if_pos (by simp)]; exact h2⟩
        ·have h1 := hs.1 h9
         refine ⟨hC.1.trans (But.of_below h1 _), ?_⟩
         have e : (if (10 : Nat) = i then true else L 10) = L 10 := if_neg (Ne.symm h9)
         show OwI w' W4.heap.size g5 n5 c5 (if (if (10 : Nat) = i then true else L 10) = true then _ else _)
         rw [e]
         exact hC.2.step h1) (fun i j v' w w' _ _ h => shrV3_stable g5 n5 c5 b o q c3 p E v j v' w w' h) ?_ ?_
       ·refine ⟨?_, ?_, ?_, ?_, ?_, ?_, ?_, ?_, ?_, ?_, ?_, trivial⟩
        ·intro V L W hL hC hd K hK
         clear hd
         simp only [laidL, Act.put, List.setIfInBounds_toArray, List.set_cons_zero, List.set_cons_succ] at hK ⊢
         go_simp
         exact hK _ _ ⟨⟨fun _ => Below.refl _ _, fun h => absurd h (by decide)⟩, rfl⟩
        ·intro V L W hL hC hd K hK
         clear hd
         simp only [laidL, Act.put, List.setIfInBounds_toArray, List.set_cons_zero, List.set_cons_succ] at hK ⊢
         go_simp
         exact hK _ _ ⟨⟨fun _ => Below.refl _ _, fun h => absurd h (by decide)⟩, rfl⟩
        ·intro V L W hL hC hd K hK
         clear hd
         simp only [laidL, Act.put, List.setIfInBounds_toArray, List.set_cons_zero, List.set_cons_succ] at hK ⊢
         go_simp
         exact hK _ _ ⟨⟨fun _ => Below.refl _ _, fun h => absurd h (by decide)⟩, rfl⟩
        ·intro V L W hL hC hd K hK
         have q2 : shrV3 g5 n5 c5 b o q c3 p E v 2 (V 2) W := hd.1
         have e2 : V 2 = .int .i64 (q : Int) := q2
         clear q2
         clear hd
         simp only [laidL, Act.put, List.setIfInBounds_toArray, List.set_cons_zero, List.set_cons_succ] at hK ⊢
         generalize V 2 = v2 at e2 hK ⊢
         subst e2
         go_simp
         exact hK _ _ ⟨⟨fun _ => Below.refl _ _, fun h => absurd h (by decide)⟩, rfl⟩
        ·intro V L W hL hC hd K hK
         have q1 : shrV3 g5 n5 c5 b o q c3 p E v 1 (V 1) W := hd.1
         have e1 : V 1 = .slice (some ⟨b, o, none⟩) q c3 := q1
         clear q1
         have q3 : shrV3 g5 n5 c5 b o q c3 p E v 3 (V 3) W := hd.2.1
         have e3 : V 3 = .int .i64 (p : Int) := q3
         clear q3
         clear hd
         simp only [laidL, Act.put, List.setIfInBounds_toArray, List.set_cons_zero, List.set_cons_succ] at hK ⊢
         generalize V 1 = v1 at e1 hK ⊢
         subst e1
         generalize V 3 = v3 at e3 hK ⊢
         subst e3
         go_simp
         exact hK _ _ ⟨⟨fun _ => Below.refl _ _, fun h => absurd h (by decide)⟩, rfl⟩
        ·intro V L W hL hC hd K hK
         have q4 : shrV3 g5 n5 c5 b o q c3 p E v 4 (V 4) W := hd.1
         have e4 : V 4 = .pointer (some ⟨b, o + p, none⟩) := q4
         clear q4
         clear hd
         simp only [laidL, Act.put, List.setIfInBounds_toArray, List.set_cons_zero, List.set_cons_succ] at hK ⊢
         generalize V 4 = v4 at e4 hK ⊢
         subst e4
         have hc := (hC.1.cell (o := o + p) HB5.out.1 HB5.out.2.1).trans HB5.out.2.2.2
         go_simp
         exact hK _ _ ⟨⟨fun _ => Below.refl _ _, fun h => absurd h (by decide)⟩, rfl⟩
        ·intro V L W hL hC hd K hK
         clear hd
         simp only [laidL, Act.put, List.setIfInBounds_toArray, List.set_cons_zero, List.set_cons_succ] at hK ⊢
         go_simp
         exact hK _ _ ⟨⟨fun _ => Below.refl _ _, fun h => absurd h (by decide)⟩, rfl⟩
        ·intro V L W hL hC hd K hK
         clear hd
         simp only [laidL, Act.put, List.setIfInBounds_toArray, List.set_cons_zero, List.set_cons_succ] at hK ⊢
         go_simp
         exact hK _ _ ⟨⟨fun _ => Below.refl _ _, fun h => absurd h (by decide)⟩, rfl⟩
        ·intro V L W hL hC hd K hK
         have q7 : shrV3 g5 n5 c5 b o q c3 p E v 7 (V 7) W := hd.1
         have e7 : V 7 = .int .i64 (E : Int) := q7
         clear q7
         clear hd
         simp only [laidL, Act.put, List.setIfInBounds_toArray, List.set_cons_zero, List.set_cons_succ] at hK ⊢
         generalize V 7 = v7 at e7 hK ⊢
         subst e7
         go_simp
         exact hK _ _ ⟨⟨fun _ => Below.refl _ _, fun h => absurd h (by decide)⟩, rfl⟩
        ·intro V L W hL hC hd K hK
         have q8 : shrV3 g5 n5 c5 b o q c3 p E v 8 (V 8) W := hd.1
         have e8 : V 8 = .int .i64 (128 - E : Nat) := q8
         clear q8
         clear hd
         simp only [laidL, Act.put, List.setIfInBounds_toArray, List.set_cons_zero, List.set_cons_succ] at hK ⊢
         generalize V 8 = v8 at e8 hK ⊢
         subst e8
         go_simp
         go_at_call 83
         refine (zerosI_any (128 - E) (by omega) _).mono ?_
         rintro e w3 ⟨rfl, hb3⟩
         exact hK _ _ ⟨⟨fun _ => hb3, fun h => absurd h (by decide)⟩, rfl⟩
        ·intro V L W hL hC hd K hK
         have q0 : shrV3 g5 n5 c5 b o q c3 p E v 0 (V 0) W := hd.1
         have e0 : V 0 = .slice (some ⟨g5, 0, none⟩) n5 c5 := q0
         clear q0
         have q5 : shrV3 g5 n5 c5 b o q c3 p E v 5 (V 5) W := hd.2.1
         have e5 : V 5 = .int .i64 (v : Int) := q5
         clear q5
         have q6 : shrV3 g5 n5 c5 b o q c3 p E v 6 (V 6) W := hd.2.2.1
         have e6 : V 6 = .int .i64 (E : Int) := q6
         clear q6
         have q9 : shrV3 g5 n5 c5 b o q c3 p E v 9 (V 9) W := hd.2.2.2.1
         have e9 : V 9 = .string (zeroN (128 - E)) := q9
         clear q9
         clear hd
         simp only [laidL, Act.put, List.setIfInBounds_toArray, List.set_cons_zero, List.set_cons_succ] at hK ⊢
         generalize V 0 = v0 at e0 hK ⊢
         subst e0
         generalize V 5 = v5 at e5 hK ⊢
         subst e5
         generalize V 6 = v6 at e6 hK ⊢
         subst e6
         generalize V 9 = v9 at e9 hK ⊢
         subst e9
         go_simp
         have hO : OwI W W4.heap.size g5 n5 c5 yi := by have h := hC.2; rwa [if_neg (by rw [hL]; decide)] at h
         go_at_call 45
         refine (putI_any W4.heap.size g5 n5 c5 yi v E (zeroN (128 - E)) W hO (by rw [zeroN_size]; omega) hE128).mono ?_
         rintro e w3 ⟨rfl, hO3, hb3⟩
         rw [← HI2.out] at hO3
         exact hK _ _ ⟨⟨fun h => absurd rfl h, fun _ => ⟨hb3, hO3⟩⟩, rfl⟩
       ·intro V L5 W hL hC hV
        have hO6 : OwI W W4.heap.size g5 n5 c5 img2 := by have h := hC.2; rw [if_pos (hL 10 (by decide))] at h; exact h
        have hbW := hC.1.to_below (B := W4.heap.size) HZ.out.1.ge HZ.out.2.2.2.2.1
        have SV := Lib.hid (show OwI W W4.heap.size g5 n5 c5 img2 ∧ Below w.heap.size w W ∧ BR W g r ∧ Reads W W4.heap.size 1 (some ⟨b, o, none⟩) q (encN ((dataR r).take q)) ∧ W4.heap.size ≤ W.heap.size ∧ True from ⟨hO6, HZ.out.2.1.trans (hbW.mono J.out.1.size), HZ.out.2.2.1.but hC.1 HB5.out.2.2.1, HZ.out.2.2.2.1.below hbW, Nat.le_trans HZ.out.2.2.2.2.1 hC.1.size, trivial⟩)
        clear hV hL hC hO6 hbW
        simp only [laidL, Act.put, List.setIfInBounds_toArray, List.set_cons_zero, List.set_cons_succ]
        have cs := naming_any r HR.out k (by have := HKK.out; omega) r.ind (by have := HR.out.ind; omega) (some ⟨b, o, none⟩) q c3 ((dataR r).take q)
        go_wp2_with (refine wpList_load_mid rfl _ _ rfl g 0 rfl (cellsR r) _ SV.out.2.2.1.range Tryz.underlying62 rfl (by rw [cellsR_length HR.out]; exact sizeR) ?_)
        refine (cs _ (SV.out.2.2.2.1.more SV.out.2.2.2.2.1) (by have := HLL.out; omega) (by omega) (J.out.2.2.2.2.imp id fun ⟨b, o, e, h⟩ => ⟨b, o, e, Nat.lt_of_lt_of_le h SV.out.2.2.2.2.1⟩)).mono ?_
        rintro e w7 ⟨rfl, hb7⟩
        have hO7 := SV.out.1.step hb7
        have cv2 := saveR_any (nameR r k ((dataR r).take q) r.ind) (nameR_ok HR.out (by have := HKK.out; omega) (by have := HR.out.ind; omega)) W4.heap.size g5 n5 c5 img2 w7 hO7
        unfold valR at cv2
        have HV := Lib.hid (bstep SV.out.2.1 hb7)
        clear hO7 hb7 cs
        unfold valR
        go_wp2_with fail
        refine cv2.mono ?_
        rintro e w8 ⟨rfl, hO8, hbt⟩
        have HU := Lib.hid (And.intro hO8 (HV.out.trans (hbt.to_below (B := w.heap.size) (Nat.le_trans J.out.1.size hO8.ge) HV.out.size)))
        clear hO8 hbt cv2
        go_wp2
        go_ret2
        rw [HE.out]
        exact ⟨g5, n5, c5, rfl, ⟨own_base HU.out.1.own J.out.1.size, HU.out.1.pos⟩, hn5, HU.out.2⟩
     ·have HE : Hid (shrinkI img r k = (yi, ye)) := Lib.hid (by rw [HE0.out, if_pos hy])
      have hyb : (ye != 0) = true := by rw [bne_iff_ne]; exact hy
      clear hy
      go_wp2
      go_ret2
      rw [HE.out]
      exact ⟨g5, n5, c5, rfl, ⟨own_base HZ.out.1.own J.out.1.size, HZ.out.1.pos⟩, hn5, HZ.out.2.1⟩

end Go.Proofs.YtpdfkakhahfcjaaGreat
