/-
  New, of the program and of the document: for every number.
-/
import Derived.Test.YtlpijikhbjkmfaaG07
import Derived.Test.YtlpijikhbjkmfaaG08
namespace Go.Proofs.Ytlpijikhbjkmfaa
open Go.RowKit

/-- A device is told: its value, in memory of the call's own. -/
def Tells (w w' : World) (d : D) (e : Ending) : Prop :=
  ∃ A n c A' m c', e = .returned (.agg #[.slice A n c, .slice A' m c', .int .i64 d.left, .bool d.dead]) ∧ Dv w' w'.heap.size A n A' m d ∧ Below w.heap.size w w'

theorem repeat_zero : (⟨(Lib.repeatL [0] 128).toArray⟩ : ByteArray) = zeroB := by decide +kernel
theorem zero_rep (W : World) : Calls Try.prog 64 #[.string ⟨#[0]⟩, .int .i64 128] W fun e w' => e = .returned (.string zeroB) ∧ Below W.heap.size W w' :=
  (Try.strings_Repeat ⟨#[0]⟩ 128 W (by decide) (by decide)).mono fun e w' ⟨h1, h2⟩ => ⟨h1.trans (congrArg (fun x => Ending.returned (.string x)) repeat_zero), h2⟩
theorem alloc_below0 (w : World) (o : Obj) : Below w.heap.size w (w.alloc o) := (Below.refl _ _).alloc (Nat.le_refl _) _
theorem dv_none (w : World) (B : Nat) : Dv w B none 0 none 0 noD := ⟨Reads.nil, Reads.nil, by omega, by omega⟩
theorem encS_rep (N : Nat) : List.replicate N (Value.string zeroB) = encS (List.replicate N zeroB) := by simp [encS]

set_option maxRecDepth 100000 in
set_option maxHeartbeats 2000000 in
theorem new_any (x : Int) (w : World) : Calls Try.prog 45 #[.int .i64 x] w fun e w' => Tells w w' (newD x) e := by
  by_cases h1 : x < 1
  · have hE : Hid (newD x = noD) := Lib.hid (if_pos (.inl h1))
    go_enter Try.func45, Try.ntmps45
    go_wp2
    refine bodyPost_ret (v := .agg #[.slice none 0 0, .slice none 0 0, .int .i64 0, .bool false]) (by simp [results, Try.results45, go_sem]) rfl ?_
    rw [hE.out]
    exact ⟨none, 0, 0, none, 0, 0, rfl, dv_none _ _, alloc_below0 _ _⟩
  by_cases h2 : 1024 < x
  · have hE : Hid (newD x = noD) := Lib.hid (if_pos (.inr h2))
    have h1' : decide (x < 1) = false := by simp; omega
    go_enter Try.func45, Try.ntmps45
    go_wp2
    refine bodyPost_ret (v := .agg #[.slice none 0 0, .slice none 0 0, .int .i64 0, .bool false]) (by simp [results, Try.results45, go_sem]) rfl ?_
    rw [hE.out]
    exact ⟨none, 0, 0, none, 0, 0, rfl, dv_none _ _, alloc_below0 _ _⟩
  obtain ⟨N, rfl⟩ : ∃ N : Nat, x = N := ⟨x.toNat, by omega⟩
  have hN : N ≤ 1024 := by omega
  have hE : Hid (newD (N : Int) = ⟨List.replicate N zeroB, [], -1, false⟩) := Lib.hid (by
    unfold newD
    rw [if_neg (by omega)]
    rfl)
  have h1' : decide ((N : Int) < 1) = false := by simp; omega
  have h2' : decide ((1024 : Int) < (N : Int)) = false := by simp; omega
  clear h1 h2
  go_enter Try.func45, Try.ntmps45
  go_wp2_with (go_at_call 64; refine (zero_rep _).mono ?_; rintro e w1 ⟨rfl, hb1⟩)
  refine (repeatS_any w1.heap.size (.string zeroB) N _ (by simp) (by simp only [World.cell?, heap_alloc_new]; rfl) rfl (by omega)).mono ?_
  rintro e w2 ⟨A, c, rfl, ho2, hb2⟩
  have r2 := (((B4.new w (.slice none 0 0) (.slice none 0 0) (.int .i64 0) (.bool false)).step hb1).alloc (.cells #[.string zeroB] 9)).step hb2
  have hz : w.heap.size < w1.heap.size := ((B4.new w (.slice none 0 0) (.slice none 0 0) (.int .i64 0) (.bool false)).step hb1).lt
  have hB2 : Below w.heap.size w w2 := (((alloc_below0 w _).trans (hb1.mono (by simp))).alloc (by omega) _).trans (hb2.mono (by simp; omega))
  have o2 : w2.ownsRow (w.heap.size + 1) 9 1 (.slice A N c) N (encS (List.replicate N zeroB)) := by
    rw [← encS_rep]; exact own_base ho2 (by simp; omega)
  have O := Lib.hid o2
  have hz2 : w.heap.size < w2.heap.size := r2.lt
  obtain ⟨y0, y1, y2, y3, yf⟩ := r2.cells
  clear r2 o2 ho2 hb1 hb2
  go_wp2
  refine bodyPost_ret (v := .agg #[.slice A N c, .slice none 0 0, .int .i64 (-1), .bool false]) (by simp [results, Try.results45, go_sem, y0, y1, y2, y3]) rfl ?_
  rw [hE.out]
  refine ⟨A, N, c, none, 0, 0, rfl, ⟨.of_own (c := c) (e := 9) (base := w.heap.size + 1) ?_, Reads.nil, by omega, by omega⟩, ?_⟩
  · repeat (first | (with_reducible refine ownsRow_setCell_below ?_ (by simp) _) | (with_reducible refine own_alloc ?_ _))
    exact O.out
  · repeat (first | (with_reducible refine Below.setCell ?_ (by simp; try omega) _) | (with_reducible refine Below.alloc ?_ (by simp; omega) _))
    exact hB2

theorem encS_snoc (k : Nat) : encS (List.replicate k zeroB) ++ [Value.string zeroB] = encS (List.replicate (k + 1) zeroB) := by
  rw [List.replicate_succ']
  simp only [encS, List.map_append, List.map_cons, List.map_nil]
theorem own_eq_vals {w : World} {base n : Nat} {e : TypeId} {v : Value} {xs ys : List Value} (h : w.ownsRow base e 1 v n xs) (he : xs = ys) : w.ownsRow base e 1 v n ys := he ▸ h

end Go.Proofs.Ytlpijikhbjkmfaa

/-
  A device's variable that is stored anew; Arm as a device that is told; how many more a device may do.
-/
namespace Go.Proofs.Ytlpijikhbjkmfaa
open Go.RowKit

/-- A store into a device's variable leaves the lists of the devices. -/
theorem reads_far {w : World} {B size n : Nat} {A : Option Addr} {xs : List Value} (h : Reads w B size A n xs) (p : Addr) (u : Value) (hp : ∀ b o, A = some ⟨b, o, none⟩ → 0 < n → b ≠ p.block) : Reads (w.setCell p u) B size A n xs :=
  ⟨h.1, fun hn => by
    obtain ⟨b, o, e, hb, hc⟩ := h.2 hn
    exact ⟨b, o, e, hb, fun j v hv => by
      rw [World.cell?_setCell_other w p ⟨b, o + j, none⟩ u (fun he => hp b o e hn (by rw [he]))]
      exact hc j v hv⟩⟩
theorem dv_far {w : World} {B g n m : Nat} {A A' X X' : Option Addr} {d : D} {x y x' y' : Nat} {l : Int} {z : Bool} (h : Dv w B A n A' m d) (hb : B4 w g (.slice X x y) (.slice X' x' y') (.int .i64 l) (.bool z)) (j : Nat) (u : Value) : Dv (w.setCell ⟨g, j, none⟩ u) B A n A' m d := by
  obtain ⟨c0, c1, c2, c3, _⟩ := hb.cells
  have hno : ∀ (o : Nat) (s : ByteArray), w.cell? ⟨g, o, none⟩ ≠ some (.string s) := by
    intro o s hs
    match o with
    | 0 => rw [c0] at hs; cases hs
    | 1 => rw [c1] at hs; cases hs
    | 2 => rw [c2] at hs; cases hs
    | 3 => rw [c3] at hs; cases hs
    | o + 4 =>
      unfold B4 at hb
      simp [World.cell?, hb] at hs
  refine ⟨reads_far h.bs ⟨g, j, none⟩ u fun b o e hn he => ?_, reads_far h.cs ⟨g, j, none⟩ u fun b o e hn he => ?_, h.hn, h.hm⟩
  · obtain ⟨b2, o2, e2, _, hc⟩ := h.bs.str hn
    rw [e] at e2
    injection e2 with e2
    injection e2 with eb eo
    subst eb
    have he' : b = g := he
    subst he'
    exact hno _ _ hc
  · obtain ⟨b2, o2, e2, _, _, hc⟩ := h.cs.wr hn
    rw [e] at e2
    injection e2 with e2
    injection e2 with eb eo
    subst eb
    have he' : b = g := he
    subst he'
    exact hno _ _ hc

/-- A device's variable is stored anew: cell by cell. -/
def putD (w : World) (g : Nat) (a b c d : Value) : World := (((w.setCell ⟨g, 0, none⟩ a).setCell ⟨g, 1, none⟩ b).setCell ⟨g, 2, none⟩ c).setCell ⟨g, 3, none⟩ d
section
variable {w : World} {g x y x' y' n c m c' : Nat} {A A' X X' : Option Addr} {l l2 : Int} {z z2 : Bool}
theorem putD_b4 (h : B4 w g (.slice X x y) (.slice X' x' y') (.int .i64 l) (.bool z)) : B4 (putD w g (.slice A n c) (.slice A' m c') (.int .i64 l2) (.bool z2)) g (.slice A n c) (.slice A' m c') (.int .i64 l2) (.bool z2) :=
  (((h.set0 _).set1 _).set2 _).set3 _
theorem putD_far {q : Nat} {a b c d a2 b2 c2 d2 : Value} (h : B4 w q a b c d) (hq : q ≠ g) : B4 (putD w g a2 b2 c2 d2) q a b c d := (((h.far (p := ⟨g, 0, none⟩) hq _).far (p := ⟨g, 1, none⟩) hq _).far (p := ⟨g, 2, none⟩) hq _).far (p := ⟨g, 3, none⟩) hq _
theorem putD_size (a b c d : Value) : (putD w g a b c d).heap.size = w.heap.size := by simp [putD]
theorem putD_dv (h : B4 w g (.slice X x y) (.slice X' x' y') (.int .i64 l) (.bool z)) {d : D} {E E' : Option Addr} {k k' : Nat} (hv : Dv w w.heap.size E k E' k' d) : Dv (putD w g (.slice A n c) (.slice A' m c') (.int .i64 l2) (.bool z2)) (putD w g (.slice A n c) (.slice A' m c') (.int .i64 l2) (.bool z2)).heap.size E k E' k' d := by
  rw [putD_size]
  exact dv_far (dv_far (dv_far (dv_far hv h 0 _) (h.set0 _) 1 _) ((h.set0 _).set1 _) 2 _) (((h.set0 _).set1 _).set2 _) 3 _
theorem putD_below {w0 : World} {B : Nat} {a b c d : Value} (h : Below B w0 w) (hg : B ≤ g) : Below B w0 (putD w g a b c d) :=
  (((h.setCell (p := ⟨g, 0, none⟩) hg _).setCell (p := ⟨g, 1, none⟩) hg _).setCell (p := ⟨g, 2, none⟩) hg _).setCell (p := ⟨g, 3, none⟩) hg _
end
/-- How many more a device may do stays within Go's numbers. -/
theorem left_new (x : Int) : (newD x).left ≤ 9223372036854775807 := by
  unfold newD noD
  split <;> (dsimp only; omega)
theorem left_write {d : D} (h : d.left ≤ 9223372036854775807) (i : Int) (s : ByteArray) : (writeD d i s).1.left ≤ 9223372036854775807 := by
  unfold writeD
  split
  · exact h
  split
  · exact h
  split
  · exact h
  split
  · exact h
  dsimp only
  split <;> omega
theorem left_flush {d : D} (h : d.left ≤ 9223372036854775807) : (flushD d).1.left ≤ 9223372036854775807 := by
  unfold flushD
  split
  · exact h
  split
  · exact h
  dsimp only
  split <;> omega
theorem left_arm {d : D} (h : d.left ≤ 9223372036854775807) {i : Int} (hi : i ≤ 9223372036854775807) : (armD d i).left ≤ 9223372036854775807 := by
  unfold armD
  split
  · exact h
  dsimp only
  omega
theorem armD_bs (d : D) (i : Int) : (armD d i).bs = d.bs := by unfold armD; split <;> rfl
theorem armD_cs (d : D) (i : Int) : (armD d i).cs = d.cs := by unfold armD; split <;> rfl
theorem armT_any (A A' : Option Addr) (n c m c' : Nat) (d : D) (i : Int) (w : World) (h : Dv w w.heap.size A n A' m d) :
    Calls Try.prog 13 #[.agg #[.slice A n c, .slice A' m c', .int .i64 d.left, .bool d.dead], .int .i64 i] w fun e w' => Tells w w' (armD d i) e :=
  (arm_any A A' n c m c' d i w h).mono fun e w' ⟨A2, c2, A2', c2', he, ho, hb⟩ => ⟨A2, n, c2, A2', m, c2', he, Own.dv (d := armD d i) (by rw [armD_bs, armD_cs]; exact ho) h.hn h.hm, hb⟩
end Go.Proofs.Ytlpijikhbjkmfaa
