/-
  An inode read.
-/
import Derived.Test.YtpdfkakhahfcjaaGreatG10
import Derived.Lib.AppendZerosOnto
import Derived.Lib.SliceRun
namespace Go.Proofs.YtpdfkakhahfcjaaGreat
open Go.RowKit

theorem or16 (a b : Nat) (ha : a < 65536) (hb : b < 65536) : bits .or .i64 ((a : Int) * 65536) (b : Int) = ((65536 * a + b : Nat) : Int) := by
  have h1 : (BitVec.ofInt 64 ((a : Int) * 65536)).toNat = a * 65536 := by
    rw [show (a : Int) * 65536 = ((a * 65536 : Nat) : Int) by omega, BitVec.ofInt_natCast, BitVec.toNat_ofNat]; exact Nat.mod_eq_of_lt (by omega)
  have h2 : (BitVec.ofInt 64 (b : Int)).toNat = b := by
    rw [BitVec.ofInt_natCast, BitVec.toNat_ofNat]; exact Nat.mod_eq_of_lt (by omega)
  have h3 : a * 65536 ||| b = 65536 * a + b := by
    have := Nat.two_pow_add_eq_or_of_lt (i := 16) (b := b) (by omega) a
    rw [Nat.mul_comm a 65536]; exact this.symm
  show IntKind.i64.wrap ((BitVec.ofInt 64 ((a : Int) * 65536) ||| BitVec.ofInt 64 (b : Int)).toNat : Int) = _
  rw [BitVec.toNat_or, h1, h2, h3, IntKind.wrap_i64]; omega
/-- A row of numbers at a known place. -/
structure RowAt (w : World) (b o n : Nat) (l : List Nat) : Prop where
  reads : Reads w w.heap.size 1 (some ⟨b, o, none⟩) n (encN l)
theorem RowAt.cell {w : World} {b o n : Nat} {l : List Nat} (h : RowAt w b o n l) (j : Nat) (hj : j < n) : w.cell? ⟨b, o + j, none⟩ = some (.int .i64 (l.getD j 0 : Nat)) := by
  obtain ⟨b', o', e, _, hc⟩ := h.reads.nat hj
  injection e with e
  injection e with e1 e2
  subst e1; subst e2
  exact hc
theorem RowAt.but {w w' : World} {b o n g : Nat} {l : List Nat} (h : RowAt w b o n l) (hb : But g w w') (hne : b ≠ g) : RowAt w' b o n l := ⟨h.reads.but hb (fun a e => by injection e with e; subst e; exact hne)⟩

def loadV4 (s : ByteArray) (g5 b o c7 : Nat) : Nat → Value → World → Prop
  | 0 => eqV (.string s)
  | 1 => eqV (.int .u8 ((byA s 0 : Nat) : Int))
  | 2 => eqV (.int .i64 ((byA s 0 : Nat) : Int))
  | 3 => eqV (.slice (some ⟨b, o, none⟩) 2 c7)
  | 4 => eqV (.pointer (some ⟨b, o, none⟩))
  | 5 => eqV (.int .i64 ((w2 s 1 : Nat) : Int))
  | 6 => eqV (.int .i64 ((w2 s 1 : Nat) * 65536))
  | 7 => eqV (.slice (some ⟨b, o, none⟩) 2 c7)
  | 8 => eqV (.pointer (some ⟨b, o + 1, none⟩))
  | 9 => eqV (.int .i64 ((w2 s 3 : Nat) : Int))
  | 10 => eqV (.int .i64 ((65536 * w2 s 1 + w2 s 3 : Nat) : Int))
  | 11 => eqV (.pointer (some ⟨g5, 1, none⟩))
  | 12 => eqV (.pointer (some ⟨g5, 1, none⟩))
  | 14 => eqV (.pointer (some ⟨g5, 1, none⟩))
  | 15 => eqV (.pointer (some ⟨g5, 2, none⟩))
  | _ => fun _ _ => True
theorem loadV4_stable (s : ByteArray) (g5 b o c7 : Nat) (j : Nat) (v : Value) (w w' : World) (h : loadV4 s g5 b o c7 j v w) : loadV4 s g5 b o c7 j v w' := by
  match j, h with
  | 0, h => exact h
  | 1, h => exact h
  | 2, h => exact h
  | 3, h => exact h
  | 4, h => exact h
  | 5, h => exact h
  | 6, h => exact h
  | 7, h => exact h
  | 8, h => exact h
  | 9, h => exact h
  | 10, h => exact h
  | 11, h => exact h
  | 12, h => exact h
  | 14, h => exact h
  | 15, h => exact h
  | 13, _ => trivial
  | 16, _ => trivial
  | _ + 17, _ => trivial
def loadV5 (s : ByteArray) (g5 : Nat) : Nat → Value → World → Prop
  | 0 => eqV (.pointer (some ⟨g5, 1, none⟩))
  | 1 => eqV (.pointer (some ⟨g5, 3, none⟩))
  | 2 => eqV (.slice (some ⟨g5, 3, none⟩) 4 4)
  | 3 => eqV (.string s)
  | 4 => eqV (.string (s.extract 5 13))
  | 5 => rowD g5 4 [w2 s 5, w2 s 7, w2 s 9, w2 s 11]
  | _ => fun _ _ => True
def loadV8 (s : ByteArray) (img : List ByteArray) (A : Option Addr) (n c g5 : Nat) : Nat → Value → World → Prop
  | 0 => eqV (.pointer (some ⟨g5, 8, none⟩))
  | 1 => eqV (.slice (some ⟨g5, 8, none⟩) 64 64)
  | 2 => eqV (.slice A n c)
  | 3 => eqV (.pointer (some ⟨g5, 1, none⟩))
  | 4 => eqV (.pointer (some ⟨g5, 7, none⟩))
  | 5 => eqV (.int .i64 ((w2 s 13 : Nat) : Int))
  | 6 => eqV (.string (blkI img (w2 s 13)))
  | 7 => rowD g5 64 ((List.range 64).map (wordN (blkI img (w2 s 13))))
  | _ => fun _ _ => True
theorem loadV5_stable (s : ByteArray) (g5 : Nat) (j : Nat) (v : Value) (w w' : World) (hs : But g5 w w') (h : loadV5 s g5 j v w) : loadV5 s g5 j v w' := by
  match j, h with
  | 0, h => exact h
  | 1, h => exact h
  | 2, h => exact h
  | 3, h => exact h
  | 4, h => exact h
  | 5, h => exact rowD.but h hs
  | 6, _ => trivial
  | _ + 7, _ => trivial
theorem loadV8_stable (s : ByteArray) (img : List ByteArray) (A : Option Addr) (n c g5 : Nat) (j : Nat) (v : Value) (w w' : World) (hs : But g5 w w') (h : loadV8 s img A n c g5 j v w) : loadV8 s img A n c g5 j v w' := by
  match j, h with
  | 0, h => exact h
  | 1, h => exact h
  | 2, h => exact h
  | 3, h => exact h
  | 4, h => exact h
  | 5, h => exact h
  | 6, h => exact h
  | 7, h => exact rowD.but h hs
  | 8, _ => trivial
  | _ + 9, _ => trivial

set_option maxRecDepth 100000 in
set_option maxHeartbeats 8000000 in
theorem load_any (A : Option Addr) (n c : Nat) (img : List ByteArray) (i : Nat) (hi : i ≤ 1024) (w : World) (h : Reads w w.heap.size 1 A n (encS img)) :
    Calls Tryz.prog 33 #[.slice A n c, .int .i64 i] w fun e w' => e = .returned (valR (recI img i)) ∧ Below w.heap.size w w' := by
  have hmx : Tryz.prog.follows .mixedOrders = true := by kernel_rfl
  have hz := fun W => zero_run W
  have H := Lib.hid h
  clear h
  go_enter Tryz.func33, Tryz.ntmps33
  go_upto_region 2 with (first | (refine wpList_built rfl _ _ rfl _ (built_num i) ?_) | (refine wpList_store_row rfl _ _ _ rfl (w.heap.size + 1) (cellsR (zeroR i)).toArray rfl rfl _ (cellsR (zeroR 0)).toArray (by simpa using heap_alloc_new (w.alloc (.cells (cellsR (zeroR 0)).toArray 62)) _) (by rw [List.size_toArray, cellsR_length (zeroR_ok hi)]; exact sizeR) (by rw [List.size_toArray, List.size_toArray, cellsR_length (zeroR_ok hi), cellsR_length (zeroR_ok (by omega))]) (all_oneCell_toArray (cellsR_one _)) ?_))
  have B0 : BR ((w.alloc (.cells (cellsR (zeroR 0)).toArray 62)).alloc (.cells (cellsR (zeroR 0)).toArray 62)) (w.heap.size + 1) (zeroR 0) := by simpa using BR.new (w.alloc (.cells (cellsR (zeroR 0)).toArray 62)) (zeroR 0)
  have B1 := B0.setRow (zeroR i)
  have BG : BR (((w.alloc (.cells (cellsR (zeroR 0)).toArray 62)).alloc (.cells (cellsR (zeroR 0)).toArray 62)).setRow (w.heap.size + 1) (cellsR (zeroR i)).toArray) w.heap.size (zeroR 0) := (((BR.new w (zeroR 0)).alloc _).but (But.setRow _ (w.heap.size + 1) _) (by omega))
  have bb : Below w.heap.size w (((w.alloc (.cells (cellsR (zeroR 0)).toArray 62)).alloc (.cells (cellsR (zeroR 0)).toArray 62)).setRow (w.heap.size + 1) (cellsR (zeroR i)).toArray) := (((Below.refl _ w).alloc (Nat.le_refl _) _).alloc (by simp) _).trans ((But.setRow _ (w.heap.size + 1) _).to_below (by omega) (by simp; omega))
  generalize (((w.alloc (.cells (cellsR (zeroR 0)).toArray 62)).alloc (.cells (cellsR (zeroR 0)).toArray 62)).setRow (w.heap.size + 1) (cellsR (zeroR i)).toArray) = w1 at B1 BG bb ⊢
  clear B0 hz
  obtain ⟨g5, hg5⟩ : ∃ g5, g5 = w.heap.size + 1 := ⟨_, rfl⟩
  rw [← hg5] at B1 ⊢
  obtain ⟨gr, hgr⟩ : ∃ gr, gr = w.heap.size := ⟨_, rfl⟩
  rw [← hgr] at BG ⊢
  have HG : Hid (gr = w.heap.size ∧ g5 = w.heap.size + 1 ∧ gr ≠ g5) := Lib.hid ⟨hgr, hg5, by omega⟩
  clear hgr hg5
  have hc := B1.num
  have hsz := rawI_size img i
  have cnb := numBytes_any A n c img i (by omega) w1 (H.out.step bb)
  have HS : Hid (∀ K, K = rawI img i → recI img i = { num := i, kind := byA K 0, size := 65536 * w2 K 1 + w2 K 3, bl := [w2 K 5, w2 K 7, w2 K 9, w2 K 11], ind := w2 K 13, ls := if w2 K 13 = 0 then List.replicate 64 0 else (List.range 64).map (wordN (blkI img (w2 K 13))) }) := Lib.hid fun K e => by subst e; rfl
  have HS := Lib.hid (HS.out _ rfl)
  generalize rawI img i = s at hsz cnb HS
  have HB := Lib.hid (And.intro B1 (And.intro BG bb))
  have hw := raw_words s hsz
  have HW := Lib.hid hw
  have h5 : (5 : Int) ≤ (s.size : Int) := by omega
  clear B1 BG bb hw
  go_wp2_with fail
  refine cnb.mono ?_
  rintro e wb ⟨rfl, hb2⟩
  have HB2 := Lib.hid (And.intro (HB.out.1.step hb2) (And.intro (HB.out.2.1.step hb2) (bstep HB.out.2.2 hb2)))
  clear hb2 cnb HB hc
  go_wp2_with fail
  refine (wordsI_any (s.extract 1 5) 2 wb (by rw [ByteArray.size_extract]; omega) (by omega)).mono ?_
  rintro e w3 ⟨A7, c7, rfl, ho3, hb3⟩
  rw [HW.out.1] at ho3
  obtain ⟨b, o, c8, ev, hr3⟩ := rowC_of ho3 (by omega)
  injection ev with e1 e2 e3
  subst e1; subst e3
  have hb25 : b ≠ g5 := by
    have := own_row_ge ho3 b rfl
    have := HB2.out.1.lt
    omega
  have HB3 := Lib.hid (And.intro (HB2.out.1.step hb3) (And.intro (HB2.out.2.1.step hb3) (And.intro (bstep HB2.out.2.2 hb3) (And.intro (RowAt.mk hr3) hb25))))
  clear ho3 hr3 hb3 hb25 HB2
  go_wp2
  refine wp_region_rel2 (fun L w' => BR w' g5 { zeroR i with kind := if L 13 = true then byA s 0 else 0, size := if L 16 = true then 65536 * w2 s 1 + w2 s 3 else 0 } ∧ But g5 w3 w') (fun k w w' => (k ≠ 13 → k ≠ 16 → w = w') ∧ (k = 13 → w' = w.setCell ⟨g5, 1, none⟩ (.int .i64 ((byA s 0 : Nat) : Int))) ∧ (k = 16 → w' = w.setCell ⟨g5, 2, none⟩ (.int .i64 ((65536 * w2 s 1 + w2 s 3 : Nat) : Int)))) (loadV4 s g5 b o c7) hmx (by kernel_rfl) ⟨HB3.out.1, But.of_below (Below.refl _ _).drew _⟩ (fun k L w w' hk hC hs => by
    by_cases h13 : k = 13
    · subst h13
      rw [hs.2.1 rfl]
      refine ⟨?_, hC.2.trans (But.set _ _ _ _)⟩
      have := hC.1.setKind (byA s 0)
      simpa using this
    · by_cases h16 : k = 16
      · subst h16
        rw [hs.2.2 rfl]
        refine ⟨?_, hC.2.trans (But.set _ _ _ _)⟩
        have := hC.1.setSize (65536 * w2 s 1 + w2 s 3)
        simpa using this
      · have e := hs.1 h13 h16
        subst e
        have e1 : (if (13 : Nat) = k then true else L 13) = L 13 := if_neg (Ne.symm h13)
        have e2 : (if (16 : Nat) = k then true else L 16) = L 16 := if_neg (Ne.symm h16)
        simp only [e1, e2]
        exact hC) (fun k j v w w' _ _ h => loadV4_stable s g5 b o c7 j v w w' h) ?_ ?_
  · refine ⟨?_, ?_, ?_, ?_, ?_, ?_, ?_, ?_, ?_, ?_, ?_, ?_, ?_, ?_, ?_, ?_, ?_, trivial⟩
    · intro V L W hL hC hd K hK
      clear hd
      simp only [laidL, Act.put, List.setIfInBounds_toArray, List.set_cons_zero, List.set_cons_succ] at hK ⊢
      go_simp
      exact hK _ _ ⟨⟨fun _ _ => rfl, fun h => absurd h (by decide), fun h => absurd h (by decide)⟩, rfl⟩
    · intro V L W hL hC hd K hK
      have q0 : loadV4 s g5 b o c7 0 (V 0) W := hd.1
      have e0 : V 0 = .string s := q0
      clear q0
      clear hd
      simp only [laidL, Act.put, List.setIfInBounds_toArray, List.set_cons_zero, List.set_cons_succ] at hK ⊢
      generalize V 0 = v0 at e0 hK ⊢
      subst e0
      have h0s : 0 < s.size := by omega
      have h0v := byA_get s 0 h0s
      go_simp
      exact hK _ _ ⟨⟨fun _ _ => rfl, fun h => absurd h (by decide), fun h => absurd h (by decide)⟩, congrArg (fun z : Nat => Value.int .u8 (z : Int)) h0v.symm⟩
    · intro V L W hL hC hd K hK
      have q1 : loadV4 s g5 b o c7 1 (V 1) W := hd.1
      have e1 : V 1 = .int .u8 ((byA s 0 : Nat) : Int) := q1
      clear q1
      clear hd
      simp only [laidL, Act.put, List.setIfInBounds_toArray, List.set_cons_zero, List.set_cons_succ] at hK ⊢
      generalize V 1 = v1 at e1 hK ⊢
      subst e1
      have hlt := byA_lt s 0
      go_simp
      exact hK _ _ ⟨⟨fun _ _ => rfl, fun h => absurd h (by decide), fun h => absurd h (by decide)⟩, congrArg (Value.int .i64) (by rw [IntKind.wrap_i64]; omega)⟩
    · intro V L W hL hC hd K hK
      clear hd
      simp only [laidL, Act.put, List.setIfInBounds_toArray, List.set_cons_zero, List.set_cons_succ] at hK ⊢
      go_simp
      exact hK _ _ ⟨⟨fun _ _ => rfl, fun h => absurd h (by decide), fun h => absurd h (by decide)⟩, rfl⟩
    · intro V L W hL hC hd K hK
      have q3 : loadV4 s g5 b o c7 3 (V 3) W := hd.1
      have e3 : V 3 = .slice (some ⟨b, o, none⟩) 2 c7 := q3
      clear q3
      clear hd
      simp only [laidL, Act.put, List.setIfInBounds_toArray, List.set_cons_zero, List.set_cons_succ] at hK ⊢
      generalize V 3 = v3 at e3 hK ⊢
      subst e3
      go_simp
      exact hK _ _ ⟨⟨fun _ _ => rfl, fun h => absurd h (by decide), fun h => absurd h (by decide)⟩, rfl⟩
    · intro V L W hL hC hd K hK
      have q4 : loadV4 s g5 b o c7 4 (V 4) W := hd.1
      have e4 : V 4 = .pointer (some ⟨b, o, none⟩) := q4
      clear q4
      clear hd
      simp only [laidL, Act.put, List.setIfInBounds_toArray, List.set_cons_zero, List.set_cons_succ] at hK ⊢
      generalize V 4 = v4 at e4 hK ⊢
      subst e4
      have hc : W.cell? ⟨b, o, none⟩ = some (.int .i64 ((w2 s 1 : Nat) : Int)) := (HB3.out.2.2.2.1.but hC.2 HB3.out.2.2.2.2).cell 0 (by omega)
      go_simp
      exact hK _ _ ⟨⟨fun _ _ => rfl, fun h => absurd h (by decide), fun h => absurd h (by decide)⟩, rfl⟩
    · intro V L W hL hC hd K hK
      have q5 : loadV4 s g5 b o c7 5 (V 5) W := hd.1
      have e5 : V 5 = .int .i64 ((w2 s 1 : Nat) : Int) := q5
      clear q5
      clear hd
      simp only [laidL, Act.put, List.setIfInBounds_toArray, List.set_cons_zero, List.set_cons_succ] at hK ⊢
      generalize V 5 = v5 at e5 hK ⊢
      subst e5
      have hlt := w2_lt s 1
      go_simp
      exact hK _ _ ⟨⟨fun _ _ => rfl, fun h => absurd h (by decide), fun h => absurd h (by decide)⟩, congrArg (Value.int .i64) (by rw [IntKind.wrap_i64]; omega)⟩
    · intro V L W hL hC hd K hK
      clear hd
      simp only [laidL, Act.put, List.setIfInBounds_toArray, List.set_cons_zero, List.set_cons_succ] at hK ⊢
      go_simp
      exact hK _ _ ⟨⟨fun _ _ => rfl, fun h => absurd h (by decide), fun h => absurd h (by decide)⟩, rfl⟩
    · intro V L W hL hC hd K hK
      have q7 : loadV4 s g5 b o c7 7 (V 7) W := hd.1
      have e7 : V 7 = .slice (some ⟨b, o, none⟩) 2 c7 := q7
      clear q7
      clear hd
      simp only [laidL, Act.put, List.setIfInBounds_toArray, List.set_cons_zero, List.set_cons_succ] at hK ⊢
      generalize V 7 = v7 at e7 hK ⊢
      subst e7
      go_simp
      exact hK _ _ ⟨⟨fun _ _ => rfl, fun h => absurd h (by decide), fun h => absurd h (by decide)⟩, rfl⟩
    · intro V L W hL hC hd K hK
      have q8 : loadV4 s g5 b o c7 8 (V 8) W := hd.1
      have e8 : V 8 = .pointer (some ⟨b, o + 1, none⟩) := q8
      clear q8
      clear hd
      simp only [laidL, Act.put, List.setIfInBounds_toArray, List.set_cons_zero, List.set_cons_succ] at hK ⊢
      generalize V 8 = v8 at e8 hK ⊢
      subst e8
      have hc : W.cell? ⟨b, o + 1, none⟩ = some (.int .i64 ((w2 s 3 : Nat) : Int)) := (HB3.out.2.2.2.1.but hC.2 HB3.out.2.2.2.2).cell 1 (by omega)
      go_simp
      exact hK _ _ ⟨⟨fun _ _ => rfl, fun h => absurd h (by decide), fun h => absurd h (by decide)⟩, rfl⟩
    · intro V L W hL hC hd K hK
      have q6 : loadV4 s g5 b o c7 6 (V 6) W := hd.1
      have e6 : V 6 = .int .i64 ((w2 s 1 : Nat) * 65536) := q6
      clear q6
      have q9 : loadV4 s g5 b o c7 9 (V 9) W := hd.2.1
      have e9 : V 9 = .int .i64 ((w2 s 3 : Nat) : Int) := q9
      clear q9
      clear hd
      simp only [laidL, Act.put, List.setIfInBounds_toArray, List.set_cons_zero, List.set_cons_succ] at hK ⊢
      generalize V 6 = v6 at e6 hK ⊢
      subst e6
      generalize V 9 = v9 at e9 hK ⊢
      subst e9
      have hlt := w2_lt s 1
      have hlt3 := w2_lt s 3
      have hor := or16 (w2 s 1) (w2 s 3) hlt hlt3
      go_simp
      exact hK _ _ ⟨⟨fun _ _ => rfl, fun h => absurd h (by decide), fun h => absurd h (by decide)⟩, rfl⟩
    · intro V L W hL hC hd K hK
      clear hd
      simp only [laidL, Act.put, List.setIfInBounds_toArray, List.set_cons_zero, List.set_cons_succ] at hK ⊢
      go_simp
      exact hK _ _ ⟨⟨fun _ _ => rfl, fun h => absurd h (by decide), fun h => absurd h (by decide)⟩, rfl⟩
    · intro V L W hL hC hd K hK
      have q11 : loadV4 s g5 b o c7 11 (V 11) W := hd.1
      have e11 : V 11 = .pointer (some ⟨g5, 1, none⟩) := q11
      clear q11
      clear hd
      simp only [laidL, Act.put, List.setIfInBounds_toArray, List.set_cons_zero, List.set_cons_succ] at hK ⊢
      generalize V 11 = v11 at e11 hK ⊢
      subst e11
      go_simp
      exact hK _ _ ⟨⟨fun _ _ => rfl, fun h => absurd h (by decide), fun h => absurd h (by decide)⟩, rfl⟩
    · intro V L W hL hC hd K hK
      have q2 : loadV4 s g5 b o c7 2 (V 2) W := hd.2.1
      have e2 : V 2 = .int .i64 ((byA s 0 : Nat) : Int) := q2
      clear q2
      have q12 : loadV4 s g5 b o c7 12 (V 12) W := hd.1
      have e12 : V 12 = .pointer (some ⟨g5, 1, none⟩) := q12
      clear q12
      clear hd
      simp only [laidL, Act.put, List.setIfInBounds_toArray, List.set_cons_zero, List.set_cons_succ] at hK ⊢
      generalize V 2 = v2 at e2 hK ⊢
      subst e2
      generalize V 12 = v12 at e12 hK ⊢
      subst e12
      have hc := hC.1.kind
      have hf := hC.1.free 1
      go_simp
      exact hK undef _ ⟨⟨fun h => absurd rfl h, fun _ => rfl, fun h => absurd h (by decide)⟩, trivial⟩
    · intro V L W hL hC hd K hK
      clear hd
      simp only [laidL, Act.put, List.setIfInBounds_toArray, List.set_cons_zero, List.set_cons_succ] at hK ⊢
      go_simp
      exact hK _ _ ⟨⟨fun _ _ => rfl, fun h => absurd h (by decide), fun h => absurd h (by decide)⟩, rfl⟩
    · intro V L W hL hC hd K hK
      have q14 : loadV4 s g5 b o c7 14 (V 14) W := hd.1
      have e14 : V 14 = .pointer (some ⟨g5, 1, none⟩) := q14
      clear q14
      clear hd
      simp only [laidL, Act.put, List.setIfInBounds_toArray, List.set_cons_zero, List.set_cons_succ] at hK ⊢
      generalize V 14 = v14 at e14 hK ⊢
      subst e14
      go_simp
      exact hK _ _ ⟨⟨fun _ _ => rfl, fun h => absurd h (by decide), fun h => absurd h (by decide)⟩, rfl⟩
    · intro V L W hL hC hd K hK
      have q10 : loadV4 s g5 b o c7 10 (V 10) W := hd.2.1
      have e10 : V 10 = .int .i64 ((65536 * w2 s 1 + w2 s 3 : Nat) : Int) := q10
      clear q10
      have q15 : loadV4 s g5 b o c7 15 (V 15) W := hd.1
      have e15 : V 15 = .pointer (some ⟨g5, 2, none⟩) := q15
      clear q15
      clear hd
      simp only [laidL, Act.put, List.setIfInBounds_toArray, List.set_cons_zero, List.set_cons_succ] at hK ⊢
      generalize V 10 = v10 at e10 hK ⊢
      subst e10
      generalize V 15 = v15 at e15 hK ⊢
      subst e15
      have hc := hC.1.size
      have hf := hC.1.free 2
      go_simp
      exact hK undef _ ⟨⟨fun _ h => absurd rfl h, fun h => absurd h (by decide), fun _ => rfl⟩, trivial⟩
  · intro V L w4 hL hC hV
    have hB4 := hC.1
    rw [if_pos (hL 13 (by decide)), if_pos (hL 16 (by decide))] at hB4
    have HB4 := Lib.hid (And.intro hB4 (And.intro (HB3.out.2.1.but hC.2 HG.out.2.2) (HB3.out.2.2.1.trans (hC.2.to_below (B := w.heap.size) (by have := HG.out; omega) HB3.out.2.2.1.size))))
    clear hL hC hV hB4
    simp only [laidL, Act.put, List.setIfInBounds_toArray, List.set_cons_zero, List.set_cons_succ]
    obtain ⟨r4, hr4⟩ : ∃ r : RecI, r = { zeroR i with kind := byA s 0, size := 65536 * w2 s 1 + w2 s 3 } := ⟨_, rfl⟩
    have ok4 : OkR r4 := by
      have h1 := w2_lt s 1
      have h3 := w2_lt s 3
      have h0 := byA_lt s 0
      rw [hr4]
      exact ⟨rfl, by simp [zeroR], hi, by show byA s 0 ≤ 255; omega, by show 65536 * w2 s 1 + w2 s 3 < _; omega, by simp [zeroR]⟩
    rw [← hr4] at HB4
    have HR4 := Lib.hid (And.intro hr4 ok4)
    clear hr4 ok4
    have h13 : (13 : Int) ≤ (s.size : Int) := by omega
    go_wp2
    refine wp_region_rel2 (fun L w' => BR w' g5 (if L 6 = true then { r4 with bl := [w2 s 5, w2 s 7, w2 s 9, w2 s 11] } else r4) ∧ But g5 w4 w') (fun i w w' => But g5 w w' ∧ (i ≠ 6 → Below w.heap.size w w') ∧ (i = 6 → BR w' g5 ({ r4 with bl := [w2 s 5, w2 s 7, w2 s 9, w2 s 11] }))) (loadV5 s g5) hmx (by kernel_rfl) ⟨by rw [if_neg (by decide)]; exact HB4.out.1, But.of_below (Below.refl _ _).drew _⟩ (fun i L w w' hi hC hs => by
      by_cases h9 : i = 6
      · have h2 := hs.2.2 h9
        subst h9
        exact ⟨by rw [if_pos (by simp)]; exact h2, hC.2.trans hs.1⟩
      · have h1 := hs.2.1 h9
        refine ⟨?_, hC.2.trans hs.1⟩
        have e : (if (6 : Nat) = i then true else L 6) = L 6 := if_neg (Ne.symm h9)
        show BR w' g5 (if (if (6 : Nat) = i then true else L 6) = true then _ else _)
        rw [e]
        exact hC.1.step h1) (fun i j v w w' _ hs h => loadV5_stable s g5 j v w w' hs.1 h) ?_ ?_
    · refine ⟨?_, ?_, ?_, ?_, ?_, ?_, ?_, trivial⟩
      · intro V L W hL hC hd K hK
        clear hd
        simp only [laidL, Act.put, List.setIfInBounds_toArray, List.set_cons_zero, List.set_cons_succ] at hK ⊢
        go_simp
        exact hK _ _ ⟨⟨But.refl _ _, fun _ => Below.refl _ _, fun h => absurd h (by decide)⟩, rfl⟩
      · intro V L W hL hC hd K hK
        have q0 : loadV5 s g5 0 (V 0) W := hd.1
        have e0 : V 0 = .pointer (some ⟨g5, 1, none⟩) := q0
        clear q0
        clear hd
        simp only [laidL, Act.put, List.setIfInBounds_toArray, List.set_cons_zero, List.set_cons_succ] at hK ⊢
        generalize V 0 = v0 at e0 hK ⊢
        subst e0
        go_simp
        exact hK _ _ ⟨⟨But.refl _ _, fun _ => Below.refl _ _, fun h => absurd h (by decide)⟩, rfl⟩
      · intro V L W hL hC hd K hK
        have q1 : loadV5 s g5 1 (V 1) W := hd.1
        have e1 : V 1 = .pointer (some ⟨g5, 3, none⟩) := q1
        clear q1
        clear hd
        simp only [laidL, Act.put, List.setIfInBounds_toArray, List.set_cons_zero, List.set_cons_succ] at hK ⊢
        generalize V 1 = v1 at e1 hK ⊢
        subst e1
        go_simp
        exact hK _ _ ⟨⟨But.refl _ _, fun _ => Below.refl _ _, fun h => absurd h (by decide)⟩, rfl⟩
      · intro V L W hL hC hd K hK
        clear hd
        simp only [laidL, Act.put, List.setIfInBounds_toArray, List.set_cons_zero, List.set_cons_succ] at hK ⊢
        go_simp
        exact hK _ _ ⟨⟨But.refl _ _, fun _ => Below.refl _ _, fun h => absurd h (by decide)⟩, rfl⟩
      · intro V L W hL hC hd K hK
        have q3 : loadV5 s g5 3 (V 3) W := hd.1
        have e3 : V 3 = .string s := q3
        clear q3
        clear hd
        simp only [laidL, Act.put, List.setIfInBounds_toArray, List.set_cons_zero, List.set_cons_succ] at hK ⊢
        generalize V 3 = v3 at e3 hK ⊢
        subst e3
        go_simp
        exact hK _ _ ⟨⟨But.refl _ _, fun _ => Below.refl _ _, fun h => absurd h (by decide)⟩, rfl⟩
      · intro V L W hL hC hd K hK
        have q4 : loadV5 s g5 4 (V 4) W := hd.1
        have e4 : V 4 = .string (s.extract 5 13) := q4
        clear q4
        clear hd
        simp only [laidL, Act.put, List.setIfInBounds_toArray, List.set_cons_zero, List.set_cons_succ] at hK ⊢
        generalize V 4 = v4 at e4 hK ⊢
        subst e4
        go_simp
        go_at_call 66
        refine (wordsI_any (s.extract 5 13) 4 W (by rw [ByteArray.size_extract]; omega) (by omega)).mono ?_
        rintro e wb ⟨A9, c9, rfl, ho9, hb9⟩
        rw [HW.out.2.1] at ho9
        exact hK _ _ ⟨⟨But.of_below hb9 _, fun _ => hb9, fun h => absurd h (by decide)⟩, rowD_of ho9 (by omega) hC.1.lt⟩
      · intro V L W hL hC hd K hK
        have q2 : loadV5 s g5 2 (V 2) W := hd.1
        have e2 : V 2 = .slice (some ⟨g5, 3, none⟩) 4 4 := q2
        clear q2
        have q5 : loadV5 s g5 5 (V 5) W := hd.2.1
        have q5 : rowD g5 4 [w2 s 5, w2 s 7, w2 s 9, w2 s 11] (V 5) W := q5
        have p5 := rowD_out q5
        clear q5
        cases p5
        rename_i b5 hh
        have e5 := hh.1
        have h5 := hh.2
        clear hh
        clear hd
        simp only [laidL, Act.put, List.setIfInBounds_toArray, List.set_cons_zero, List.set_cons_succ] at hK ⊢
        generalize V 2 = v2 at e2 hK ⊢
        subst e2
        generalize V 5 = v5 at e5 hK ⊢
        subst e5
        have hB : BR W g5 r4 := by have h := hC.1; rwa [if_neg (by rw [hL]; decide)] at h
        obtain ⟨W2, hcp, hB2, hbt⟩ := copyBl_run hB HR4.out.2 (l := [w2 s 5, w2 s 7, w2 s 9, w2 s 11]) rfl _ h5
        go_simp
        rw [hcp]
        exact hK _ _ ⟨⟨hbt, fun h => absurd rfl h, fun _ => hB2⟩, trivial⟩
    · intro V5 L w5 hL hC hV
      have hB5 := hC.1
      rw [if_pos (hL 6 (by decide))] at hB5
      have HB5 := Lib.hid (And.intro hB5 (And.intro (HB4.out.2.1.but hC.2 HG.out.2.2) (HB4.out.2.2.trans (hC.2.to_below (B := w.heap.size) (by have := HG.out; omega) HB4.out.2.2.size))))
      clear hL hC hV hB5 HB4
      simp only [laidL, Act.put, List.setIfInBounds_toArray, List.set_cons_zero, List.set_cons_succ]
      obtain ⟨r5, hr5⟩ : ∃ r : RecI, r = { r4 with bl := [w2 s 5, w2 s 7, w2 s 9, w2 s 11] } := ⟨_, rfl⟩
      have ok5 : OkR r5 := by rw [hr5]; exact ⟨rfl, HR4.out.2.ls, HR4.out.2.num, HR4.out.2.kind, HR4.out.2.size, HR4.out.2.ind⟩
      rw [← hr5] at HB5
      obtain ⟨r6, hr6⟩ : ∃ r : RecI, r = { r5 with ind := w2 s 13 } := ⟨_, rfl⟩
      have ok6 : OkR r6 := by rw [hr6]; exact ⟨ok5.bl, ok5.ls, ok5.num, ok5.kind, ok5.size, w2_lt s 13⟩
      have HR6 := Lib.hid (And.intro hr5 (And.intro hr6 (And.intro ok5 ok6)))
      clear hr5 hr6 ok5 ok6
      have h15 : (15 : Int) ≤ (s.size : Int) := by omega
      go_wp2_with fail
      refine (wordsI_any (s.extract 13 15) 1 w5 (by rw [ByteArray.size_extract]; omega) (by omega)).mono ?_
      rintro e wb ⟨A9, c9, rfl, ho9, hb9⟩
      rw [HW.out.2.2] at ho9
      obtain ⟨b9, o9, c10, ev9, hr9⟩ := rowC_of ho9 (by omega)
      injection ev9 with e1 e2 e3
      subst e1; subst e3
      have B6 := HB5.out.1.step hb9
      have HB6 := Lib.hid (And.intro B6 (And.intro (HB5.out.2.1.step hb9) (bstep HB5.out.2.2 hb9)))
      have hcell : wb.cell? ⟨b9, o9, none⟩ = some (.int .i64 ((w2 s 13 : Nat) : Int)) := (RowAt.mk hr9).cell 0 (by omega)
      have hci := HB6.out.1.ind HR6.out.2.2.1
      have hfi := HB6.out.1.free 7
      have hS := HB6.out.1.setInd HR6.out.2.2.1 (w2 s 13)
      rw [← HR6.out.2.1] at hS
      have HB7 := Lib.hid (And.intro hS (And.intro (HB6.out.2.1.far (p := ⟨g5, 7, none⟩) HG.out.2.2 (.int .i64 ((w2 s 13 : Nat) : Int))) (HB6.out.2.2.setCell (p := ⟨g5, 7, none⟩) (by have := HG.out; show w.heap.size ≤ g5; omega) (.int .i64 ((w2 s 13 : Nat) : Int)))))
      clear ho9 hr9 hb9 B6 hS HB5 HB6
      by_cases hz : w2 s 13 = 0
      · have hzi : (((w2 s 13 : Nat) : Int) != 0) = false := by rw [hz]; rfl
        have HE : Hid (recI img i = r6) := Lib.hid (by rw [HS.out, HR6.out.2.1, HR6.out.1, HR4.out.1, if_pos hz]; rfl)
        clear hz
        go_upto_region 9 with fail
        generalize (wb.setCell ⟨g5, 7, none⟩ (.int .i64 ((w2 s 13 : Nat) : Int))) = w7 at HB7 ⊢
        have BL := (HB7.out.2.1).setRow r6
        have hbl : Below w.heap.size w (w7.setRow gr (cellsR r6).toArray) := HB7.out.2.2.trans ((But.setRow w7 gr (cellsR r6).toArray).to_below (by have := HG.out; omega) HB7.out.2.2.size)
        have HX := Lib.hid (And.intro BL hbl)
        clear BL hbl
        go_wp2_with (first | (refine wpList_load_mid rfl _ _ rfl g5 0 rfl (cellsR r6) _ (HB7.out.1).range Tryz.underlying62 rfl (by rw [cellsR_length HR6.out.2.2.2]; exact sizeR) ?_) | (refine wpList_store_row rfl _ _ _ rfl gr (cellsR r6).toArray rfl rfl _ (cellsR (zeroR 0)).toArray HB7.out.2.1 (by rw [List.size_toArray, cellsR_length HR6.out.2.2.2]; exact sizeR) (by rw [List.size_toArray, List.size_toArray, cellsR_length HR6.out.2.2.2, cellsR_length (zeroR_ok (by omega))]) (all_oneCell_toArray (cellsR_one _)) ?_))
        have hlv := HX.out.1.loadVar HR6.out.2.2.2
        rw [HE.out]
        exact bodyPost_ret (v := valR r6) (results_rec rfl _ rfl hlv) rfl ⟨rfl, HX.out.2⟩
      · have hzi : (((w2 s 13 : Nat) : Int) != 0) = true := by rw [bne_iff_ne]; omega
        have HE : Hid (recI img i = { r6 with ls := (List.range 64).map (wordN (blkI img (w2 s 13))) }) := Lib.hid (by rw [HS.out, HR6.out.2.1, HR6.out.1, HR4.out.1, if_neg hz]; rfl)
        clear hz
        go_upto_region 8 with fail
        generalize (wb.setCell ⟨g5, 7, none⟩ (.int .i64 ((w2 s 13 : Nat) : Int))) = w7 at HB7 ⊢
        refine wp_region_rel2 (fun L w' => BR w' g5 (if L 8 = true then { r6 with ls := (List.range 64).map (wordN (blkI img (w2 s 13))) } else r6) ∧ But g5 w7 w') (fun i w w' => But g5 w w' ∧ (i ≠ 8 → Below w.heap.size w w') ∧ (i = 8 → BR w' g5 ({ r6 with ls := (List.range 64).map (wordN (blkI img (w2 s 13))) }))) (loadV8 s img A n c g5) hmx (by kernel_rfl) ⟨by rw [if_neg (by decide)]; exact HB7.out.1, But.of_below (Below.refl _ _).drew _⟩ (fun i L w w' hi hC hs => by
          by_cases h9 : i = 8
          · have h2 := hs.2.2 h9
            subst h9
            exact ⟨by rw [if_pos (by simp)]; exact h2, hC.2.trans hs.1⟩
          · have h1 := hs.2.1 h9
            refine ⟨?_, hC.2.trans hs.1⟩
            have e : (if (8 : Nat) = i then true else L 8) = L 8 := if_neg (Ne.symm h9)
            show BR w' g5 (if (if (8 : Nat) = i then true else L 8) = true then _ else _)
            rw [e]
            exact hC.1.step h1) (fun i j v w w' _ hs h => loadV8_stable s img A n c g5 j v w w' hs.1 h) ?_ ?_
        · refine ⟨?_, ?_, ?_, ?_, ?_, ?_, ?_, ?_, ?_, trivial⟩
          · intro V L W hL hC hd K hK
            clear hd
            simp only [laidL, Act.put, List.setIfInBounds_toArray, List.set_cons_zero, List.set_cons_succ] at hK ⊢
            go_simp
            exact hK _ _ ⟨⟨But.refl _ _, fun _ => Below.refl _ _, fun h => absurd h (by decide)⟩, rfl⟩
          · intro V L W hL hC hd K hK
            have q0 : loadV8 s img A n c g5 0 (V 0) W := hd.1
            have e0 : V 0 = .pointer (some ⟨g5, 8, none⟩) := q0
            clear q0
            clear hd
            simp only [laidL, Act.put, List.setIfInBounds_toArray, List.set_cons_zero, List.set_cons_succ] at hK ⊢
            generalize V 0 = v0 at e0 hK ⊢
            subst e0
            go_simp
            exact hK _ _ ⟨⟨But.refl _ _, fun _ => Below.refl _ _, fun h => absurd h (by decide)⟩, rfl⟩
          · intro V L W hL hC hd K hK
            clear hd
            simp only [laidL, Act.put, List.setIfInBounds_toArray, List.set_cons_zero, List.set_cons_succ] at hK ⊢
            go_simp
            exact hK _ _ ⟨⟨But.refl _ _, fun _ => Below.refl _ _, fun h => absurd h (by decide)⟩, rfl⟩
          · intro V L W hL hC hd K hK
            clear hd
            simp only [laidL, Act.put, List.setIfInBounds_toArray, List.set_cons_zero, List.set_cons_succ] at hK ⊢
            go_simp
            exact hK _ _ ⟨⟨But.refl _ _, fun _ => Below.refl _ _, fun h => absurd h (by decide)⟩, rfl⟩
          · intro V L W hL hC hd K hK
            have q3 : loadV8 s img A n c g5 3 (V 3) W := hd.1
            have e3 : V 3 = .pointer (some ⟨g5, 1, none⟩) := q3
            clear q3
            clear hd
            simp only [laidL, Act.put, List.setIfInBounds_toArray, List.set_cons_zero, List.set_cons_succ] at hK ⊢
            generalize V 3 = v3 at e3 hK ⊢
            subst e3
            go_simp
            exact hK _ _ ⟨⟨But.refl _ _, fun _ => Below.refl _ _, fun h => absurd h (by decide)⟩, rfl⟩
          · intro V L W hL hC hd K hK
            have q4 : loadV8 s img A n c g5 4 (V 4) W := hd.1
            have e4 : V 4 = .pointer (some ⟨g5, 7, none⟩) := q4
            clear q4
            clear hd
            simp only [laidL, Act.put, List.setIfInBounds_toArray, List.set_cons_zero, List.set_cons_succ] at hK ⊢
            generalize V 4 = v4 at e4 hK ⊢
            subst e4
            have hcc : W.cell? ⟨g5, 7, none⟩ = some (.int .i64 ((w2 s 13 : Nat) : Int)) := by
              have h := hC.1.ind (by split
                                     · exact ⟨HR6.out.2.2.2.bl, by simp, HR6.out.2.2.2.num, HR6.out.2.2.2.kind, HR6.out.2.2.2.size, HR6.out.2.2.2.ind⟩
                                     · exact HR6.out.2.2.2)
              have e : (if L 8 = true then { r6 with ls := (List.range 64).map (wordN (blkI img (w2 s 13))) } else r6).ind = w2 s 13 := by split <;> rw [HR6.out.2.1]
              rwa [e] at h
            go_simp
            exact hK _ _ ⟨⟨But.refl _ _, fun _ => Below.refl _ _, fun h => absurd h (by decide)⟩, rfl⟩
          · intro V L W hL hC hd K hK
            have q2 : loadV8 s img A n c g5 2 (V 2) W := hd.1
            have e2 : V 2 = .slice A n c := q2
            clear q2
            have q5 : loadV8 s img A n c g5 5 (V 5) W := hd.2.1
            have e5 : V 5 = .int .i64 ((w2 s 13 : Nat) : Int) := q5
            clear q5
            clear hd
            simp only [laidL, Act.put, List.setIfInBounds_toArray, List.set_cons_zero, List.set_cons_succ] at hK ⊢
            generalize V 2 = v2 at e2 hK ⊢
            subst e2
            generalize V 5 = v5 at e5 hK ⊢
            subst e5
            go_simp
            go_at_call 67
            refine (blockI_any A n c img (w2 s 13) W (H.out.step (HB7.out.2.2.trans (hC.2.to_below (B := w.heap.size) (by have := HG.out; omega) HB7.out.2.2.size)))).mono ?_
            rintro e wc ⟨rfl, hb9⟩
            exact hK _ _ ⟨⟨But.of_below hb9 _, fun _ => hb9, fun h => absurd h (by decide)⟩, rfl⟩
          · intro V L W hL hC hd K hK
            have q6 : loadV8 s img A n c g5 6 (V 6) W := hd.1
            have e6 : V 6 = .string (blkI img (w2 s 13)) := q6
            clear q6
            clear hd
            simp only [laidL, Act.put, List.setIfInBounds_toArray, List.set_cons_zero, List.set_cons_succ] at hK ⊢
            generalize V 6 = v6 at e6 hK ⊢
            subst e6
            go_simp
            go_at_call 66
            refine (wordsI_any (blkI img (w2 s 13)) 64 W (by rw [blkI_size]) (by omega)).mono ?_
            rintro e wc ⟨A9, c9, rfl, ho9, hb9⟩
            exact hK _ _ ⟨⟨But.of_below hb9 _, fun _ => hb9, fun h => absurd h (by decide)⟩, rowD_of ho9 (by omega) hC.1.lt⟩
          · intro V L W hL hC hd K hK
            have q1 : loadV8 s img A n c g5 1 (V 1) W := hd.1
            have e1 : V 1 = .slice (some ⟨g5, 8, none⟩) 64 64 := q1
            clear q1
            have q7 : loadV8 s img A n c g5 7 (V 7) W := hd.2.1
            have q7 : rowD g5 64 ((List.range 64).map (wordN (blkI img (w2 s 13)))) (V 7) W := q7
            have p7 := rowD_out q7
            clear q7
            cases p7
            rename_i b7 hh
            have e7 := hh.1
            have h7 := hh.2
            clear hh
            clear hd
            simp only [laidL, Act.put, List.setIfInBounds_toArray, List.set_cons_zero, List.set_cons_succ] at hK ⊢
            generalize V 1 = v1 at e1 hK ⊢
            subst e1
            generalize V 7 = v7 at e7 hK ⊢
            subst e7
            have hB : BR W g5 r6 := by have h := hC.1; rwa [if_neg (by rw [hL]; decide)] at h
            obtain ⟨W2, hcp, hB2, hbt⟩ := copyLs_run hB HR6.out.2.2.2 (l := (List.range 64).map (wordN (blkI img (w2 s 13)))) (by simp) _ h7
            go_simp
            rw [hcp]
            exact hK _ _ ⟨⟨hbt, fun h => absurd rfl h, fun _ => hB2⟩, trivial⟩
        · intro V8 L w8 hL hC hV
          have hB8 := hC.1
          rw [if_pos (hL 8 (by decide))] at hB8
          have HB8 := Lib.hid (And.intro hB8 (And.intro (HB7.out.2.1.but hC.2 HG.out.2.2) (HB7.out.2.2.trans (hC.2.to_below (B := w.heap.size) (by have := HG.out; omega) HB7.out.2.2.size))))
          clear hL hC hV hB8 HB7
          simp only [laidL, Act.put, List.setIfInBounds_toArray, List.set_cons_zero, List.set_cons_succ]
          obtain ⟨r8, hr8⟩ : ∃ r : RecI, r = { r6 with ls := (List.range 64).map (wordN (blkI img (w2 s 13))) } := ⟨_, rfl⟩
          have ok8 : OkR r8 := by rw [hr8]; exact ⟨HR6.out.2.2.2.bl, by simp, HR6.out.2.2.2.num, HR6.out.2.2.2.kind, HR6.out.2.2.2.size, HR6.out.2.2.2.ind⟩
          rw [← hr8] at HB8 HE
          have HK8 := Lib.hid ok8
          clear hr8 ok8
          have BL := (HB8.out.2.1).setRow r8
          have hbl : Below w.heap.size w (w8.setRow gr (cellsR r8).toArray) := HB8.out.2.2.trans ((But.setRow w8 gr (cellsR r8).toArray).to_below (by have := HG.out; omega) HB8.out.2.2.size)
          have HX := Lib.hid (And.intro BL hbl)
          clear BL hbl
          go_wp2_with (first | (refine wpList_load_mid rfl _ _ rfl g5 0 rfl (cellsR r8) _ (HB8.out.1).range Tryz.underlying62 rfl (by rw [cellsR_length HK8.out]; exact sizeR) ?_) | (refine wpList_store_row rfl _ _ _ rfl gr (cellsR r8).toArray rfl rfl _ (cellsR (zeroR 0)).toArray HB8.out.2.1 (by rw [List.size_toArray, cellsR_length HK8.out]; exact sizeR) (by rw [List.size_toArray, List.size_toArray, cellsR_length HK8.out, cellsR_length (zeroR_ok (by omega))]) (all_oneCell_toArray (cellsR_one _)) ?_))
          have hlv := HX.out.1.loadVar HK8.out
          rw [HE.out]
          exact bodyPost_ret (v := valR r8) (results_rec rfl _ rfl hlv) rfl ⟨rfl, HX.out.2⟩

end Go.Proofs.YtpdfkakhahfcjaaGreat

/-
  slices.Concat of two rows of numbers.
-/
namespace Go.Proofs.YtpdfkakhahfcjaaGreat
open Go.RowKit

theorem zeroCells_size (v : Value) (n : Nat) : (Builtin.zeroCells #[v] n).size = n := by simp [Builtin.zeroCells]
def GrowP (w : World) (e : Ending) (w' : World) : Prop := ∃ c, e = .returned (.slice (some ⟨w.heap.size, 0, none⟩) 0 c) ∧ w'.ownsRow w.heap.size 3 1 (.slice (some ⟨w.heap.size, 0, none⟩) 0 c) 0 [] ∧ Below w.heap.size w w'
theorem grow_own (w : World) (G : Nat) (hge : 68 ≤ G) (hle : G ≤ maxLen) : ((w.alloc (.cells (Builtin.zeroCells #[Value.int .i64 0] 68 ++ Builtin.zeroCells #[Value.int .i64 0] (G - 68)) 3)).drew.ownsRow w.heap.size 3 1 (.slice (some ⟨w.heap.size, 0, none⟩) 0 G) 0 []) ∧ Below w.heap.size w (w.alloc (.cells (Builtin.zeroCells #[Value.int .i64 0] 68 ++ Builtin.zeroCells #[Value.int .i64 0] (G - 68)) 3)).drew :=
  ⟨⟨rfl, .inr ⟨w.heap.size, _, _, rfl, Nat.le_refl _, heap_alloc_new w _, Nat.zero_le _, hle, by
    rw [Array.size_append, zeroCells_size, zeroCells_size]; omega, by simp⟩⟩, ((Below.refl _ w).alloc (Nat.le_refl _) _).drew⟩
set_option maxRecDepth 100000 in
set_option maxHeartbeats 2000000 in
theorem grow68_any (w : World) : Calls Tryz.prog 94 #[.slice none 0 0, .int .i64 68] w (GrowP w) := by
  obtain ⟨i0, hi0, hz0, hz1, hz2⟩ := info_parts infoI
  have hge := grownCap_ge w 68 0 3
  have hle := grownCap_le_maxLen w 68 0 3 (by unfold maxLen; omega)
  have HX := Lib.hid (grow_own w _ hge hle)
  unfold maxLen at hle
  go_enter Tryz.func94, Tryz.ntmps94
  go_wp2
  go_ret
  exact ⟨_, rfl, HX.out⟩

def catN (bl ls : List Nat) (k : Nat) : List Nat := if k = 0 then [] else if k = 1 then bl else bl ++ ls
def ConcatP (w : World) (bl ls : List Nat) (e : Ending) (w' : World) : Prop := ∃ A c, e = .returned (.slice A 68 c) ∧ w'.ownsRow w.heap.size 3 1 (.slice A 68 c) 68 (encN (bl ++ ls)) ∧ Below w.heap.size w w'
set_option maxRecDepth 100000 in
set_option maxHeartbeats 4000000 in
theorem concat_any (b g : Nat) (bl ls : List Nat) (w : World) (hb0 : w.cell? ⟨b, 0, none⟩ = some (.slice (some ⟨g, 3, none⟩) 4 4)) (hb1 : w.cell? ⟨b, 1, none⟩ = some (.slice (some ⟨g, 8, none⟩) 64 64)) (hb : b < w.heap.size)
    (h1 : Reads w w.heap.size 1 (some ⟨g, 3, none⟩) 4 (encN bl)) (h2 : Reads w w.heap.size 1 (some ⟨g, 8, none⟩) 64 (encN ls)) :
    Calls Tryz.prog 77 #[.slice (some ⟨b, 0, none⟩) 2 2] w (ConcatP w bl ls) := by
  obtain ⟨i0, hi0, hz0, hz1, hz2⟩ := info_parts infoI
  have H := Lib.hid (And.intro h1 (And.intro h2 (And.intro hb0 (And.intro hb1 hb))))
  have HL := Lib.hid (And.intro h1.lenN h2.lenN)
  clear h1 h2 hb
  go_enter Tryz.func77, Tryz.ntmps77
  go_wp2
  go_loopg [3, 5, 11] 2 (fun gk s3 s5 s11 wr => ∃ k : Nat, k ≤ 2 ∧ 2 - k ≤ gk ∧ s11 = .int .i64 k ∧ s3 = .int .i64 (if k = 0 then 0 else if k = 1 then 4 else 68) ∧ w = wr)
  case atStart => exact ⟨0, by omega, by omega, rfl, rfl, rfl⟩
  case round =>
    obtain ⟨k, hk, hgk, rfl, rfl, rfl⟩ := hrel
    by_cases hlt : k < 2
    · obtain rfl | rfl : k = 0 ∨ k = 1 := by omega
      · go_wp2
        go_roundg 1
        case measure => omega
        case rel => exact ⟨1, by omega, by omega, rfl, rfl, rfl⟩
      · go_wp2
        go_roundg 0
        case measure => omega
        case rel => exact ⟨2, by omega, by omega, rfl, rfl, rfl⟩
    · obtain rfl : k = 2 := by omega
      go_wp2_with fail
      refine (grow68_any w).mono ?_
      rintro e w1 ⟨c1, rfl, ho1, hb1x⟩
      have J := Lib.hid (And.intro ho1 hb1x)
      clear ho1 hb1x hb0 hb1
      go_wp2
      go_loopg [6, 8, 27] 2 (fun gk s6 s8 s27 wr => ∃ (k : Nat) (A : Option Addr) (c : Nat), k ≤ 2 ∧ 2 - k ≤ gk ∧ s27 = .int .i64 k ∧ s6 = .slice A (if k = 0 then 0 else if k = 1 then 4 else 68) c ∧ Hid (wr.ownsRow w.heap.size 3 1 (.slice A (if k = 0 then 0 else if k = 1 then 4 else 68) c) (if k = 0 then 0 else if k = 1 then 4 else 68) (encN (catN bl ls k)) ∧ Below w.heap.size w wr))
      case atStart => exact ⟨0, _, c1, by omega, by omega, rfl, rfl, J⟩
      case round =>
        clear J
        obtain ⟨k, A, c, hk, hgk, rfl, rfl, J⟩ := hrel
        by_cases hlt : k < 2
        · obtain rfl | rfl : k = 0 ∨ k = 1 := by omega
          · have hc0 := (J.out.2.cell (p := ⟨b, 0, none⟩) H.out.2.2.2.2).trans H.out.2.2.1
            go_wp2_with (at_builtin; refine wpList_append_reads _ rfl (.tmp 31) (.tmp 32) 49 rfl w.heap.size 3 i0 _ 1 8 Tryz.underlying49 hi0 hz0 hz1 hz2 rfl (by omega) (.slice A 0 c) 0 [] rfl J.out.1 _ (some ⟨g, 3, none⟩) 4 4 (encN bl) rfl (H.out.1.step J.out.2) (encN_one bl) (by unfold maxLen; omega) (by omega) (by exact J.out.2.size) ?_; intro A6 c6 w6 ho6 hg6 _)
            have JN : Hid (w6.ownsRow w.heap.size 3 1 (.slice A6 4 c6) 4 (encN (catN bl ls 1)) ∧ Below w.heap.size w w6) := Lib.hid ⟨own_eq_vals ho6 (by rfl), J.out.2.grown hg6 J.out.2.size (fun q hq => own_row_ge J.out.1 _ hq)⟩
            go_roundg 1
            case measure => omega
            case rel => exact ⟨1, A6, c6, by omega, by omega, rfl, rfl, JN⟩
          · have hc0 := (J.out.2.cell (p := ⟨b, 1, none⟩) H.out.2.2.2.2).trans H.out.2.2.2.1
            go_wp2_with (at_builtin; refine wpList_append_reads _ rfl (.tmp 31) (.tmp 32) 49 rfl w.heap.size 3 i0 _ 1 8 Tryz.underlying49 hi0 hz0 hz1 hz2 rfl (by omega) (.slice A 4 c) 4 (encN bl) rfl J.out.1 _ (some ⟨g, 8, none⟩) 64 64 (encN ls) rfl (H.out.2.1.step J.out.2) (encN_one ls) (by unfold maxLen; omega) (by omega) (by exact J.out.2.size) ?_; intro A6 c6 w6 ho6 hg6 _)
            have JN : Hid (w6.ownsRow w.heap.size 3 1 (.slice A6 68 c6) 68 (encN (catN bl ls 2)) ∧ Below w.heap.size w w6) := Lib.hid ⟨own_eq_vals ho6 (by rw [← encN_app]; rfl), J.out.2.grown hg6 J.out.2.size (fun q hq => own_row_ge J.out.1 _ hq)⟩
            go_roundg 0
            case measure => omega
            case rel => exact ⟨2, A6, c6, by omega, by omega, rfl, rfl, JN⟩
        · obtain rfl : k = 2 := by omega
          go_wp2
          go_ret
          exact ⟨A, c, rfl, J.out⟩

end Go.Proofs.YtpdfkakhahfcjaaGreat
