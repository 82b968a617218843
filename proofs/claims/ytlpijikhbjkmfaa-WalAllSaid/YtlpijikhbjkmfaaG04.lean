/-
  The small functions on a device, of the program and of the document: copies, one operation spent, blocks, Same, Arm.
-/
import Derived.Test.YtlpijikhbjkmfaaG02
namespace Go.Proofs.Ytlpijikhbjkmfaa
open Go.RowKit

/-- A device whose lists are the call's own, from block 'base' on. -/
structure Own (w : World) (base : Nat) (A : Option Addr) (n c : Nat) (A' : Option Addr) (m c' : Nat) (bs : List ByteArray) (cs : List (Int × ByteArray)) : Prop where
  bs : w.ownsRow base 9 1 (.slice A n c) n (encS bs)
  cs : w.ownsRow base 53 2 (.slice A' m c') m (encW cs)
theorem Own.below {w w' : World} {base : Nat} {A : Option Addr} {n c : Nat} {A' : Option Addr} {m c' : Nat} {bs : List ByteArray} {cs : List (Int × ByteArray)} (h : Own w base A n c A' m c' bs cs) (hb : Below w.heap.size w w') : Own w' base A n c A' m c' bs cs := ⟨own_below h.bs hb, own_below h.cs hb⟩
theorem Own.base {w : World} {base base' : Nat} {A : Option Addr} {n c : Nat} {A' : Option Addr} {m c' : Nat} {bs : List ByteArray} {cs : List (Int × ByteArray)} (h : Own w base A n c A' m c' bs cs) (hb : base' ≤ base) : Own w base' A n c A' m c' bs cs := ⟨own_base h.bs hb, own_base h.cs hb⟩
theorem Own.alloc {w : World} {base : Nat} {A : Option Addr} {n c : Nat} {A' : Option Addr} {m c' : Nat} {bs : List ByteArray} {cs : List (Int × ByteArray)} (h : Own w base A n c A' m c' bs cs) (o : Obj) : Own (w.alloc o) base A n c A' m c' bs cs := ⟨own_alloc h.bs o, own_alloc h.cs o⟩
theorem Own.set {w : World} {base : Nat} {A : Option Addr} {n c : Nat} {A' : Option Addr} {m c' : Nat} {bs : List ByteArray} {cs : List (Int × ByteArray)} (h : Own w base A n c A' m c' bs cs) {a : Addr} (ha : a.block < base) (u : Value) : Own (w.setCell a u) base A n c A' m c' bs cs := ⟨ownsRow_setCell_below h.bs ha u, ownsRow_setCell_below h.cs ha u⟩
theorem Own.dv {w : World} {base : Nat} {A : Option Addr} {n c : Nat} {A' : Option Addr} {m c' : Nat} {d : D} (h : Own w base A n c A' m c' d.bs d.cs) (hn : n * 16 ≤ 140737488355328) (hm : m * 24 ≤ 140737488355328) : Dv w w.heap.size A n A' m d := ⟨.of_own h.bs, .of_own h.cs, hn, hm⟩

set_option maxRecDepth 100000 in
set_option maxHeartbeats 1000000 in
theorem copied_any (A A' : Option Addr) (n c m c' : Nat) (d : D) (l : Int) (b : Bool) (w : World) (h : Dv w w.heap.size A n A' m d) :
    Calls Try.prog 47 #[.agg #[.slice A n c, .slice A' m c', .int .i64 l, .bool b]] w fun e w' => ∃ A2 c2 A2' c2', e = .returned (.agg #[.slice A2 n c2, .slice A2' m c2', .int .i64 l, .bool b]) ∧ Own w' w.heap.size A2 n c2 A2' m c2' d.bs d.cs ∧ Below w.heap.size w w' := by
  have H := Lib.hid h; clear h
  go_enter Try.func47, Try.ntmps47
  go_wp2_with fail
  refine (cloneS_any A n c d.bs _ (((H.out.alloc _).alloc _).bs) H.out.hn).mono ?_
  rintro e w1 ⟨A2, c2, rfl, ho1, hb1⟩
  have k1 := ((B4.new w _ _ _ _).alloc (.cells #[.slice none 0 0, .slice none 0 0, .int .i64 0, .bool false] 25)).step hb1
  have r1 := (B4.new (w.alloc (.cells #[.slice A n c, .slice A' m c', .int .i64 l, .bool b] 25)) _ _ _ _).step hb1
  simp only [World.size_alloc] at k1 r1
  have hB1 : Below w.heap.size w w1 := (((Below.refl _ w).alloc (Nat.le_refl _) _).alloc (by simp) _).trans (hb1.mono (by simp; omega))
  have K1 := Lib.hid k1; have R1 := Lib.hid r1
  obtain ⟨x0, x1, x2, x3, xf⟩ := k1.cells
  clear k1 r1 
  go_wp2_with fail
  refine (cloneW_any A' m c' d.cs _ (H.out.cs.step (hB1.setCell (by simp) _)) H.out.hm).mono ?_
  rintro e w2 ⟨A2', c2', rfl, ho2, hb2⟩
  have k2 := (K1.out.set0 (.slice A2 n c2)).step hb2
  have r2 := (R1.out.far (p := ⟨w.heap.size, 0, none⟩) (by simp) (.slice A2 n c2)).step hb2
  have hB2 := (hB1.setCell (p := ⟨w.heap.size, 0, none⟩) (Nat.le_refl _) (.slice A2 n c2)).trans (hb2.mono (by have := hB1.size; simp; omega))
  have K2 := Lib.hid k2; have R2 := Lib.hid r2
  clear x0 x1 x2 x3 xf K1 R1
  obtain ⟨x0, x1, x2, x3, xf⟩ := k2.cells
  obtain ⟨y0, y1, y2, y3, yf⟩ := r2.cells
  clear k2 r2
  have o1 : w1.ownsRow (w.heap.size + 2) 9 1 (.slice A2 n c2) n (encS d.bs) := own_base ho1 (by simp)
  have o2 : w2.ownsRow (w.heap.size + 2) 53 2 (.slice A2' m c2') m (encW d.cs) := own_base ho2 (by have := hb1.size; simp at this ⊢; omega)
  have o3 := own_below (ownsRow_setCell_below o1 (a := ⟨w.heap.size, 0, none⟩) (by simp) (.slice A2 n c2)) hb2
  have O := Lib.hid (And.intro o3 o2); clear o1 o2 o3 ho1 ho2 hb1 hb2
  go_wp2
  refine bodyPost_ret (v := .agg #[.slice A2 n c2, .slice A2' m c2', .int .i64 l, .bool b]) (by simp [results, Try.results47, go_sem, y0, y1, y2, y3]) rfl ⟨A2, c2, A2', c2', rfl, ⟨own_base (base := w.heap.size + 2) ?_ (by omega), own_base (base := w.heap.size + 2) ?_ (by omega)⟩, ?_⟩
  · repeat (refine ownsRow_setCell_below ?_ (by simp) _)
    exact O.out.1
  · repeat (refine ownsRow_setCell_below ?_ (by simp) _)
    exact O.out.2
  · repeat (refine Below.setCell ?_ (by simp) _)
    exact hB2

set_option maxRecDepth 100000 in
set_option maxHeartbeats 1000000 in
theorem refCopy_any (A A' : Option Addr) (n c m c' : Nat) (d : D) (l : Int) (b : Bool) (w : World) (h : Dv w w.heap.size A n A' m d) :
    Calls Try.prog 34 #[.agg #[.slice A n c, .slice A' m c', .int .i64 l, .bool b]] w fun e w' => ∃ A2 c2 A2' c2', e = .returned (.agg #[.slice A2 n c2, .slice A2' m c2', .int .i64 l, .bool b]) ∧ Own w' w.heap.size A2 n c2 A2' m c2' d.bs d.cs ∧ Below w.heap.size w w' := by
  have H := Lib.hid h; clear h
  obtain ⟨i0, hi0, hz0, hz1, hz2⟩ := info_parts infoS
  obtain ⟨j0, hj0, hy0, hy1, hy2⟩ := info_parts infoW
  have hn16 := H.out.hn
  have hm24 := H.out.hm
  have hB0 : Below w.heap.size w (((w.alloc (.cells #[.slice A n c, .slice A' m c', .int .i64 l, .bool b] 25)).alloc (.cells #[.slice none 0 0, .slice none 0 0, .int .i64 0, .bool false] 25)).alloc (.cells #[.slice none 0 0, .slice A' m c', .int .i64 l, .bool b] 25)) :=
    (((Below.refl _ w).alloc (Nat.le_refl _) _).alloc (by simp) _).alloc (by simp; omega) _
  go_enter Try.func34, Try.ntmps34
  go_wp2_with (at_builtin; refine wpList_append_reads _ rfl (.tmp 7) (.tmp 9) 22 rfl (w.heap.size + 3) 9 i0 _ 1 16 Try.underlying22 hi0 hz0 hz1 hz2 rfl (by omega) (.slice none 0 0) 0 [] rfl own_nil _ A n c (encS d.bs) rfl (H.out.bs.step hB0) (encS_one d.bs) ?_ ?_ ?_ ?_)
  · simp only [maxLen]; omega
  · omega
  · simp
  intro A2 c2 w1 ho1 hg1 _
  have hb1 := (Below.refl _ _).grown hg1 (Nat.le_refl _) (by intro k hk; simp [Value.ownBlock] at hk)
  have k1 := (((B4.new w (.slice A n c) (.slice A' m c') (.int .i64 l) (.bool b)).alloc (.cells #[.slice none 0 0, .slice none 0 0, .int .i64 0, .bool false] 25)).alloc (.cells #[.slice none 0 0, .slice A' m c', .int .i64 l, .bool b] 25)).step hb1
  have r1 := ((B4.new (w.alloc (.cells #[.slice A n c, .slice A' m c', .int .i64 l, .bool b] 25)) (.slice none 0 0) (.slice none 0 0) (.int .i64 0) (.bool false)).alloc (.cells #[.slice none 0 0, .slice A' m c', .int .i64 l, .bool b] 25)).step hb1
  have s1 := (B4.new ((w.alloc (.cells #[.slice A n c, .slice A' m c', .int .i64 l, .bool b] 25)).alloc (.cells #[.slice none 0 0, .slice none 0 0, .int .i64 0, .bool false] 25)) (.slice none 0 0) (.slice A' m c') (.int .i64 l) (.bool b)).step hb1
  simp only [World.size_alloc] at k1 r1 s1
  have hz : w.heap.size + 1 + 1 < w1.heap.size := s1.lt
  have hB1 := hB0.trans (hb1.mono (by simp; omega))
  have K1 := Lib.hid k1; have R1 := Lib.hid r1; have S1 := Lib.hid s1; have O1 := Lib.hid ho1
  obtain ⟨x0, x1, x2, x3, xf⟩ := k1.cells
  obtain ⟨z0, z1, z2, z3, zf⟩ := s1.cells
  clear k1 r1 s1 ho1 hg1 hb1 hB0
  go_wp2_with (at_builtin; refine wpList_append_reads _ rfl (.tmp 14) (.tmp 16) 23 rfl (w.heap.size + 3) 53 j0 _ 2 24 Try.underlying23 hj0 hy0 hy1 hy2 rfl (by omega) (.slice none 0 0) 0 [] rfl own_nil _ A' m c' (encW d.cs) rfl (H.out.cs.step ((hB1.setCell (by simp; omega) _).setCell (by simp; omega) _)) (encW_one d.cs) ?_ ?_ ?_ ?_)
  · simp only [maxLen]; omega
  · omega
  · simp; omega
  intro A2' c2' w2 ho2 hg2 _
  have hb2 := (Below.refl _ _).grown hg2 (Nat.le_refl _) (by intro k hk; simp [Value.ownBlock] at hk)
  have r2 := ((R1.out.far (p := ⟨w.heap.size + 1 + 1, 0, none⟩) (by simp) (.slice A2 n c2)).far (p := ⟨w.heap.size + 1 + 1, 1, none⟩) (by simp) (.slice none 0 0)).step hb2
  have s2 := ((S1.out.set0 (.slice A2 n c2)).set1 (.slice none 0 0)).step hb2
  have hB2 := ((hB1.setCell (p := ⟨w.heap.size + 1 + 1, 0, none⟩) (by simp; omega) (.slice A2 n c2)).setCell (p := ⟨w.heap.size + 1 + 1, 1, none⟩) (by simp; omega) (.slice none 0 0)).trans (hb2.mono (by simp; omega))
  have O2 := Lib.hid (And.intro (own_below (ownsRow_setCell_below (ownsRow_setCell_below O1.out (a := ⟨w.heap.size + 1 + 1, 0, none⟩) (by simp) (.slice A2 n c2)) (a := ⟨w.heap.size + 1 + 1, 1, none⟩) (by simp) (.slice none 0 0)) hb2) ho2)
  clear x0 x1 x2 x3 xf z0 z1 z2 z3 zf K1 R1 S1 O1 ho2 hg2 hb2 hB1
  obtain ⟨y0, y1, y2, y3, yf⟩ := r2.cells
  obtain ⟨z0, z1, z2, z3, zf⟩ := s2.cells
  clear r2 s2
  go_wp2
  refine bodyPost_ret (v := .agg #[.slice A2 n c2, .slice A2' m c2', .int .i64 l, .bool b]) (by simp [results, Try.results34, go_sem, y0, y1, y2, y3]) rfl ⟨A2, c2, A2', c2', rfl, ⟨own_base (base := w.heap.size + 3) ?_ (by omega), own_base (base := w.heap.size + 3) ?_ (by omega)⟩, ?_⟩
  · repeat (refine ownsRow_setCell_below ?_ (by simp) _)
    exact O2.out.1
  · repeat (refine ownsRow_setCell_below ?_ (by simp) _)
    simpa using O2.out.2
  · repeat (refine Below.setCell ?_ (by simp; try omega) _)
    exact hB2

/-- One less, but of -1. -/
def spL (l : Int) : Int := if 0 < l then l - 1 else l
theorem spL_pos {l : Int} (h : 0 < l) : spL l = l - 1 := if_pos h
theorem spL_neg {l : Int} (h : ¬ 0 < l) : spL l = l := if_neg h

set_option maxRecDepth 100000 in
set_option maxHeartbeats 1000000 in
theorem spend_no (A A' : Option Addr) (n c m c' : Nat) (b : Bool) (w : World) :
    Calls Try.prog 76 #[.agg #[.slice A n c, .slice A' m c', .int .i64 0, .bool b]] w fun e w' => e = .returned (.tuple #[.agg #[.slice A n c, .slice A' m c', .int .i64 0, .bool true], .int .i64 16]) ∧ Below w.heap.size w w' := by
  go_enter Try.func76, Try.ntmps76
  go_wp2
  refine bodyPost_ret (v := .tuple #[.agg #[.slice A n c, .slice A' m c', .int .i64 0, .bool true], .int .i64 16]) (by simp [results, Try.results76, go_sem]) rfl ⟨rfl, ?_⟩
  exact ((Below.refl _ _).alloc (Nat.le_refl _) _).alloc (by simp) _

set_option maxRecDepth 100000 in
set_option maxHeartbeats 1000000 in
theorem spend_yes (A A' : Option Addr) (n c m c' : Nat) (l : Int) (b : Bool) (w : World) (h0 : l ≠ 0) (h1 : l ≤ 9223372036854775807) :
    Calls Try.prog 76 #[.agg #[.slice A n c, .slice A' m c', .int .i64 l, .bool b]] w fun e w' => e = .returned (.tuple #[.agg #[.slice A n c, .slice A' m c', .int .i64 (spL l), .bool b], .int .i64 0]) ∧ Below w.heap.size w w' := by
  have hl0 : (l == 0) = false := by simpa using h0
  clear h0
  by_cases hp : 0 < l
  · have S := Lib.hid (spL_pos hp)
    go_enter Try.func76, Try.ntmps76
    go_wp2
    refine bodyPost_ret (v := .tuple #[.agg #[.slice A n c, .slice A' m c', .int .i64 (l - 1), .bool b], .int .i64 0]) (by simp [results, Try.results76, go_sem]) rfl ⟨by rw [S.out], ?_⟩
    exact ((Below.refl _ _).alloc (Nat.le_refl _) _).alloc (by simp) _
  · have S := Lib.hid (spL_neg hp)
    go_enter Try.func76, Try.ntmps76
    go_wp2
    refine bodyPost_ret (v := .tuple #[.agg #[.slice A n c, .slice A' m c', .int .i64 l, .bool b], .int .i64 0]) (by simp [results, Try.results76, go_sem]) rfl ⟨by rw [S.out], ?_⟩
    exact ((Below.refl _ _).alloc (Nat.le_refl _) _).alloc (by simp) _

set_option maxRecDepth 100000 in
set_option maxHeartbeats 1000000 in
theorem isBlock_any (A A' : Option Addr) (n c m c' : Nat) (l : Int) (b : Bool) (i : Int) (w : World) :
    Calls Try.prog 66 #[.agg #[.slice A n c, .slice A' m c', .int .i64 l, .bool b], .int .i64 i] w fun e w' => e = .returned (.bool (decide (0 ≤ i ∧ i < (n : Int)))) ∧ Below w.heap.size w w' := by
  by_cases h0 : 0 ≤ i
  · by_cases h1 : i < (n : Int)
    · have E := Lib.hid (decide_eq_true (And.intro h0 h1))
      go_enter Try.func66, Try.ntmps66
      go_wp2
      go_ret
      exact ⟨by first | rfl | (rw [E.out]; rfl), (Below.refl _ _).alloc (Nat.le_refl _) _⟩
    · have hd : decide (i < (n : Int)) = false := by simpa using h1
      have E := Lib.hid (decide_eq_false (p := 0 ≤ i ∧ i < (n : Int)) (fun h => h1 h.2))
      go_enter Try.func66, Try.ntmps66
      go_wp2
      go_ret
      exact ⟨by first | rfl | (rw [E.out]; rfl), (Below.refl _ _).alloc (Nat.le_refl _) _⟩
  · have hd : decide (0 ≤ i) = false := by simpa using h0
    have E := Lib.hid (decide_eq_false (p := 0 ≤ i ∧ i < (n : Int)) (fun h => h0 h.1))
    go_enter Try.func66, Try.ntmps66
    go_wp2
    go_ret
    exact ⟨by first | rfl | (rw [E.out]; rfl), (Below.refl _ _).alloc (Nat.le_refl _) _⟩

end Go.Proofs.Ytlpijikhbjkmfaa
