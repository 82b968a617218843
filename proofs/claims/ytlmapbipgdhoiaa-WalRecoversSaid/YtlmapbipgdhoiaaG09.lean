/-
  New, of the program and of the document: for every number.
-/
import Derived.Test.YtlmapbipgdhoiaaG07
import Derived.Test.YtlmapbipgdhoiaaG08
namespace Go.Proofs.Ytlmapbipgdhoiaa
open Go.RowKit

/-- A device is told: its value, in memory of the call's own. -/
def Tells (w w' : World) (d : D) (e : Ending) : Prop :=
  ∃ A n c A' m c', e = .returned (.agg #[.slice A n c, .slice A' m c', .int .i64 d.left, .bool d.dead]) ∧ Dv w' w'.heap.size A n A' m d ∧ Below w.heap.size w w'

theorem repeat_zero : (⟨(Lib.repeatL [0] 128).toArray⟩ : ByteArray) = zeroB := by decide +kernel
theorem zero_rep (W : World) : Calls Try.prog 92 #[.string ⟨#[0]⟩, .int .i64 128] W fun e w' => e = .returned (.string zeroB) ∧ Below W.heap.size W w' :=
  (Try.strings_Repeat ⟨#[0]⟩ 128 W (by decide) (by decide)).mono fun e w' ⟨h1, h2⟩ => ⟨h1.trans (congrArg (fun x => Ending.returned (.string x)) repeat_zero), h2⟩
theorem alloc_below0 (w : World) (o : Obj) : Below w.heap.size w (w.alloc o) := (Below.refl _ _).alloc (Nat.le_refl _) _
theorem dv_none (w : World) (B : Nat) : Dv w B none 0 none 0 noD := ⟨Reads.nil, Reads.nil, by omega, by omega⟩
theorem encS_rep (N : Nat) : List.replicate N (Value.string zeroB) = encS (List.replicate N zeroB) := by simp [encS]

set_option maxRecDepth 100000 in
set_option maxHeartbeats 2000000 in
theorem new_any (x : Int) (w : World) : Calls Try.prog 48 #[.int .i64 x] w fun e w' => Tells w w' (newD x) e := by
  by_cases h1 : x < 1
  · have hE : Hid (newD x = noD) := Lib.hid (if_pos (.inl h1))
    go_enter Try.func48, Try.ntmps48
    go_wp2
    refine bodyPost_ret (v := .agg #[.slice none 0 0, .slice none 0 0, .int .i64 0, .bool false]) (by simp [results, Try.results48, go_sem]) rfl ?_
    rw [hE.out]
    exact ⟨none, 0, 0, none, 0, 0, rfl, dv_none _ _, alloc_below0 _ _⟩
  by_cases h2 : 1024 < x
  · have hE : Hid (newD x = noD) := Lib.hid (if_pos (.inr h2))
    have h1' : decide (x < 1) = false := by simp; omega
    go_enter Try.func48, Try.ntmps48
    go_wp2
    refine bodyPost_ret (v := .agg #[.slice none 0 0, .slice none 0 0, .int .i64 0, .bool false]) (by simp [results, Try.results48, go_sem]) rfl ?_
    rw [hE.out]
    exact ⟨none, 0, 0, none, 0, 0, rfl, dv_none _ _, alloc_below0 _ _⟩
  obtain ⟨N, rfl⟩ : ∃ N : Nat, x = N := ⟨x.toNat, by omega⟩
  have hN : N ≤ 1024 := by omega
  have hE : Hid (newD (N : Int) = ⟨List.replicate N zeroB, [], -1, false⟩) := Lib.hid (by
    unfold newD
    rw [if_neg (by omega)]
    rfl)
  have h1' : decide ((N : Int) < 1) = false := by simp; omega
  have h2' : decide ((1024 : Int) < (N : Int)) = false := by simp; omega
  clear h1 h2
  go_enter Try.func48, Try.ntmps48
  go_wp2_with (go_at_call 92; refine (zero_rep _).mono ?_; rintro e w1 ⟨rfl, hb1⟩)
  refine (repeatS_any w1.heap.size (.string zeroB) N _ (by simp) (by simp only [World.cell?, heap_alloc_new]; rfl) rfl (by omega)).mono ?_
  rintro e w2 ⟨A, c, rfl, ho2, hb2⟩
  have r2 := (((B4.new w (.slice none 0 0) (.slice none 0 0) (.int .i64 0) (.bool false)).step hb1).alloc (.cells #[.string zeroB] 9)).step hb2
  have hz : w.heap.size < w1.heap.size := ((B4.new w (.slice none 0 0) (.slice none 0 0) (.int .i64 0) (.bool false)).step hb1).lt
  have hB2 : Below w.heap.size w w2 := (((alloc_below0 w _).trans (hb1.mono (by simp))).alloc (by omega) _).trans (hb2.mono (by simp; omega))
  have o2 : w2.ownsRow (w.heap.size + 1) 9 1 (.slice A N c) N (encS (List.replicate N zeroB)) := by
    rw [← encS_rep]; exact own_base ho2 (by simp; omega)
  have O := Lib.hid o2
  have hz2 : w.heap.size < w2.heap.size := r2.lt
  obtain ⟨y0, y1, y2, y3, yf⟩ := r2.cells
  clear r2 o2 ho2 hb1 hb2
  go_wp2
  refine bodyPost_ret (v := .agg #[.slice A N c, .slice none 0 0, .int .i64 (-1), .bool false]) (by simp [results, Try.results48, go_sem, y0, y1, y2, y3]) rfl ?_
  rw [hE.out]
  refine ⟨A, N, c, none, 0, 0, rfl, ⟨.of_own (c := c) (e := 9) (base := w.heap.size + 1) ?_, Reads.nil, by omega, by omega⟩, ?_⟩
  · repeat (first | (with_reducible refine ownsRow_setCell_below ?_ (by simp) _) | (with_reducible refine own_alloc ?_ _))
    exact O.out
  · repeat (first | (with_reducible refine Below.setCell ?_ (by simp; try omega) _) | (with_reducible refine Below.alloc ?_ (by simp; omega) _))
    exact hB2

theorem encS_snoc (k : Nat) : encS (List.replicate k zeroB) ++ [Value.string zeroB] = encS (List.replicate (k + 1) zeroB) := by
  rw [List.replicate_succ']
  simp only [encS, List.map_append, List.map_cons, List.map_nil]
theorem own_eq_vals {w : World} {base n : Nat} {e : TypeId} {v : Value} {xs ys : List Value} (h : w.ownsRow base e 1 v n xs) (he : xs = ys) : w.ownsRow base e 1 v n ys := he ▸ h

set_option maxRecDepth 100000 in
set_option maxHeartbeats 2000000 in
theorem refNew_any (x : Int) (w : World) : Calls Try.prog 49 #[.int .i64 x] w fun e w' => Tells w w' (newD x) e := by
  by_cases h1 : x < 1
  · have hE : Hid (newD x = noD) := Lib.hid (if_pos (.inl h1))
    go_enter Try.func49, Try.ntmps49
    go_wp2
    refine bodyPost_ret (v := .agg #[.slice none 0 0, .slice none 0 0, .int .i64 0, .bool false]) (by simp [results, Try.results49, go_sem]) rfl ?_
    rw [hE.out]
    exact ⟨none, 0, 0, none, 0, 0, rfl, dv_none _ _, alloc_below0 _ _⟩
  by_cases h2 : 1024 < x
  · have hE : Hid (newD x = noD) := Lib.hid (if_pos (.inr h2))
    have h1' : decide (x < 1) = false := by simp; omega
    go_enter Try.func49, Try.ntmps49
    go_wp2
    refine bodyPost_ret (v := .agg #[.slice none 0 0, .slice none 0 0, .int .i64 0, .bool false]) (by simp [results, Try.results49, go_sem]) rfl ?_
    rw [hE.out]
    exact ⟨none, 0, 0, none, 0, 0, rfl, dv_none _ _, alloc_below0 _ _⟩
  obtain ⟨N, rfl⟩ : ∃ N : Nat, x = N := ⟨x.toNat, by omega⟩
  have hN : N ≤ 1024 := by omega
  have hE : Hid (newD (N : Int) = ⟨List.replicate N zeroB, [], -1, false⟩) := Lib.hid (by
    unfold newD
    rw [if_neg (by omega)]
    rfl)
  have h1' : decide ((N : Int) < 1) = false := by simp; omega
  have h2' : decide ((1024 : Int) < (N : Int)) = false := by simp; omega
  obtain ⟨i0, hi0, hz0, hz1, hz2⟩ := info_parts infoS
  clear h1 h2
  have R0 := Lib.hid ((B4.new w (.slice none 0 0) (.slice none 0 0) (.int .i64 0) (.bool false)).alloc (.cells #[.slice none 0 0, .slice none 0 0, .int .i64 (-1), .bool false] 25))
  have S0 := Lib.hid (B4.new (w.alloc (.cells #[.slice none 0 0, .slice none 0 0, .int .i64 0, .bool false] 25)) (.slice none 0 0) (.slice none 0 0) (.int .i64 (-1)) (.bool false))
  go_enter Try.func49, Try.ntmps49
  go_wp2
  go_loopg [4] N (fun g s4 wr => ∃ (k : Nat) (A : Option Addr) (c : Nat), k ≤ N ∧ N - k ≤ g ∧ s4 = .int .i64 k ∧ Hid (B4 wr w.heap.size (.slice none 0 0) (.slice none 0 0) (.int .i64 0) (.bool false) ∧ B4 wr (w.heap.size + 1) (.slice A k c) (.slice none 0 0) (.int .i64 (-1)) (.bool false) ∧ wr.ownsRow (w.heap.size + 2) 9 1 (.slice A k c) k (encS (List.replicate k zeroB)) ∧ Below w.heap.size w wr))
  case atStart => exact ⟨0, none, 0, Nat.zero_le _, by omega, rfl, Lib.hid ⟨R0.out, by simpa using S0.out, own_nil, alloc2_below w _ _⟩⟩
  case round =>
    obtain ⟨k, A, c, hk, hg, rfl, J⟩ := hrel
    obtain ⟨y0, y1, y2, y3, yf⟩ := J.out.1.cells
    obtain ⟨z0, z1, z2, z3, zf⟩ := J.out.2.1.cells
    by_cases hlt : k < N
    · have hk1 : (k : Int) < (N : Int) := by omega
      go_wp2_with fail
      go_region_law (first | (go_simp; go_at_call 70; refine (zeros_any _).mono ?_; rintro e w5 ⟨rfl, hb5⟩; have hc5 : Below wr.heap.size wr w5 := (Below.refl _ _).drew.trans hb5; have J5 := Lib.hid (And.intro (J.out.1.step hc5) (And.intro (J.out.2.1.step hc5) (And.intro (own_below J.out.2.2.1 hc5) (J.out.2.2.2.trans (hc5.mono J.out.2.2.2.size))))); obtain ⟨v0, v1, v2, v3, vf⟩ := J5.out.2.1.cells; have hz5 : w.heap.size + 1 < w5.heap.size := J5.out.2.1.lt) | (refine step_append_reads (w5.alloc (.cells #[.string zeroB] 9)) rfl (.tmp 19) (.tmp 21) 22 rfl (w.heap.size + 2) 9 i0 _ 1 16 Try.underlying22 hi0 hz0 hz1 hz2 rfl (by omega) (.slice A k c) k (encS (List.replicate k zeroB)) (by simp [Act.eval]) (own_alloc J5.out.2.2.1 _) _ (some ⟨w5.heap.size, 0, none⟩) 1 1 [.string zeroB] (by simp [Act.eval]) (reads_new w5 #[.string zeroB] 9 1 1 rfl) (by simp [Value.oneCell']) (by simp only [maxLen]; omega) (by omega) (by have := J5.out.2.1.lt; simp; omega) ?_; intro A6 c6 w6 ho6 hg6 _; have J6 := Lib.hid (And.intro ((J5.out.1.alloc (.cells #[.string zeroB] 9)).grown hg6 (fun e => by have := own_row_ge J5.out.2.2.1 _ e; omega)) (And.intro ((J5.out.2.1.alloc (.cells #[.string zeroB] 9)).grown hg6 (fun e => by have := own_row_ge J5.out.2.2.1 _ e; omega)) (And.intro ho6 ((J5.out.2.2.2.alloc (by have := J5.out.2.1.lt; omega) (.cells #[.string zeroB] 9)).grown hg6 (by have := J5.out.2.1.lt; simp; omega) (fun g e => by have := own_row_ge J5.out.2.2.1 _ e; omega))))); clear ho6 hg6; obtain ⟨t0, t1, t2, t3, tf⟩ := J6.out.2.1.cells))
      all_goals
        have J7 := Lib.hid (And.intro (J6.out.1.far (p := ⟨w.heap.size + 1, 0, none⟩) (by simp) (.slice A6 (k + 1) c6)) (And.intro (J6.out.2.1.set0 (.slice A6 (k + 1) c6)) (And.intro (own_eq_vals (ownsRow_setCell_below J6.out.2.2.1 (a := ⟨w.heap.size + 1, 0, none⟩) (by simp) (.slice A6 (k + 1) c6)) (encS_snoc k)) (J6.out.2.2.2.setCell (p := ⟨w.heap.size + 1, 0, none⟩) (by simp) (.slice A6 (k + 1) c6)))))
        generalize w6.setCell ⟨w.heap.size + 1, 0, none⟩ (.slice A6 (k + 1) c6) = w7 at J7 ⊢
        clear J5 J6 t0 t1 t2 t3 tf v0 v1 v2 v3 vf
        go_wp2
        go_roundg (N - (k + 1))
        case measure => omega
        case rel => exact ⟨k + 1, A6, c6, by omega, by omega, by go_num, J7⟩
    · have : k = N := by omega
      subst this
      go_wp2
      refine bodyPost_ret (v := .agg #[.slice A k c, .slice none 0 0, .int .i64 (-1), .bool false]) (by simp [results, Try.results49, go_sem, y0, y1, y2, y3]) rfl ?_
      rw [hE.out]
      refine ⟨A, k, c, none, 0, 0, rfl, ⟨.of_own (c := c) (e := 9) (base := w.heap.size + 2) ?_, Reads.nil, by omega, by omega⟩, ?_⟩
      · repeat (first | (with_reducible refine ownsRow_setCell_below ?_ (by simp) _) | (with_reducible refine own_alloc ?_ _))
        exact J.out.2.2.1
      · repeat (first | (with_reducible refine Below.setCell ?_ (by simp; try omega) _) | (with_reducible refine Below.alloc ?_ (by simp; omega) _))
        exact J.out.2.2.2

end Go.Proofs.Ytlmapbipgdhoiaa

/-
  A device's variable that is stored anew; Arm as a device that is told; how many more a device may do.
-/
namespace Go.Proofs.Ytlmapbipgdhoiaa
open Go.RowKit

/-- A store into a device's variable leaves the lists of the devices. -/
theorem reads_far {w : World} {B size n : Nat} {A : Option Addr} {xs : List Value} (h : Reads w B size A n xs) (p : Addr) (u : Value) (hp : ∀ b o, A = some ⟨b, o, none⟩ → 0 < n → b ≠ p.block) : Reads (w.setCell p u) B size A n xs :=
  ⟨h.1, fun hn => by
    obtain ⟨b, o, e, hb, hc⟩ := h.2 hn
    exact ⟨b, o, e, hb, fun j v hv => by
      rw [World.cell?_setCell_other w p ⟨b, o + j, none⟩ u (fun he => hp b o e hn (by rw [he]))]
      exact hc j v hv⟩⟩
theorem dv_far {w : World} {B g n m : Nat} {A A' X X' : Option Addr} {d : D} {x y x' y' : Nat} {l : Int} {z : Bool} (h : Dv w B A n A' m d) (hb : B4 w g (.slice X x y) (.slice X' x' y') (.int .i64 l) (.bool z)) (j : Nat) (u : Value) : Dv (w.setCell ⟨g, j, none⟩ u) B A n A' m d := by
  obtain ⟨c0, c1, c2, c3, _⟩ := hb.cells
  have hno : ∀ (o : Nat) (s : ByteArray), w.cell? ⟨g, o, none⟩ ≠ some (.string s) := by
    intro o s hs
    match o with
    | 0 => rw [c0] at hs; cases hs
    | 1 => rw [c1] at hs; cases hs
    | 2 => rw [c2] at hs; cases hs
    | 3 => rw [c3] at hs; cases hs
    | o + 4 =>
      unfold B4 at hb
      simp [World.cell?, hb] at hs
  refine ⟨reads_far h.bs ⟨g, j, none⟩ u fun b o e hn he => ?_, reads_far h.cs ⟨g, j, none⟩ u fun b o e hn he => ?_, h.hn, h.hm⟩
  · obtain ⟨b2, o2, e2, _, hc⟩ := h.bs.str hn
    rw [e] at e2
    injection e2 with e2
    injection e2 with eb eo
    subst eb
    have he' : b = g := he
    subst he'
    exact hno _ _ hc
  · obtain ⟨b2, o2, e2, _, _, hc⟩ := h.cs.wr hn
    rw [e] at e2
    injection e2 with e2
    injection e2 with eb eo
    subst eb
    have he' : b = g := he
    subst he'
    exact hno _ _ hc

/-- A device's variable is stored anew: cell by cell. -/
def putD (w : World) (g : Nat) (a b c d : Value) : World := (((w.setCell ⟨g, 0, none⟩ a).setCell ⟨g, 1, none⟩ b).setCell ⟨g, 2, none⟩ c).setCell ⟨g, 3, none⟩ d
section
variable {w : World} {g x y x' y' n c m c' : Nat} {A A' X X' : Option Addr} {l l2 : Int} {z z2 : Bool}
theorem putD_b4 (h : B4 w g (.slice X x y) (.slice X' x' y') (.int .i64 l) (.bool z)) : B4 (putD w g (.slice A n c) (.slice A' m c') (.int .i64 l2) (.bool z2)) g (.slice A n c) (.slice A' m c') (.int .i64 l2) (.bool z2) :=
  (((h.set0 _).set1 _).set2 _).set3 _
theorem putD_far {q : Nat} {a b c d a2 b2 c2 d2 : Value} (h : B4 w q a b c d) (hq : q ≠ g) : B4 (putD w g a2 b2 c2 d2) q a b c d := (((h.far (p := ⟨g, 0, none⟩) hq _).far (p := ⟨g, 1, none⟩) hq _).far (p := ⟨g, 2, none⟩) hq _).far (p := ⟨g, 3, none⟩) hq _
theorem putD_size (a b c d : Value) : (putD w g a b c d).heap.size = w.heap.size := by simp [putD]
theorem putD_dv (h : B4 w g (.slice X x y) (.slice X' x' y') (.int .i64 l) (.bool z)) {d : D} {E E' : Option Addr} {k k' : Nat} (hv : Dv w w.heap.size E k E' k' d) : Dv (putD w g (.slice A n c) (.slice A' m c') (.int .i64 l2) (.bool z2)) (putD w g (.slice A n c) (.slice A' m c') (.int .i64 l2) (.bool z2)).heap.size E k E' k' d := by
  rw [putD_size]
  exact dv_far (dv_far (dv_far (dv_far hv h 0 _) (h.set0 _) 1 _) ((h.set0 _).set1 _) 2 _) (((h.set0 _).set1 _).set2 _) 3 _
theorem putD_below {w0 : World} {B : Nat} {a b c d : Value} (h : Below B w0 w) (hg : B ≤ g) : Below B w0 (putD w g a b c d) :=
  (((h.setCell (p := ⟨g, 0, none⟩) hg _).setCell (p := ⟨g, 1, none⟩) hg _).setCell (p := ⟨g, 2, none⟩) hg _).setCell (p := ⟨g, 3, none⟩) hg _
end
/-- How many more a device may do stays within Go's numbers. -/
theorem left_new (x : Int) : (newD x).left ≤ 9223372036854775807 := by
  unfold newD noD
  split <;> (dsimp only; omega)
theorem left_write {d : D} (h : d.left ≤ 9223372036854775807) (i : Int) (s : ByteArray) : (writeD d i s).1.left ≤ 9223372036854775807 := by
  unfold writeD
  split
  · exact h
  split
  · exact h
  split
  · exact h
  split
  · exact h
  dsimp only
  split <;> omega
theorem left_flush {d : D} (h : d.left ≤ 9223372036854775807) : (flushD d).1.left ≤ 9223372036854775807 := by
  unfold flushD
  split
  · exact h
  split
  · exact h
  dsimp only
  split <;> omega
theorem left_arm {d : D} (h : d.left ≤ 9223372036854775807) {i : Int} (hi : i ≤ 9223372036854775807) : (armD d i).left ≤ 9223372036854775807 := by
  unfold armD
  split
  · exact h
  dsimp only
  omega
theorem armD_bs (d : D) (i : Int) : (armD d i).bs = d.bs := by unfold armD; split <;> rfl
theorem armD_cs (d : D) (i : Int) : (armD d i).cs = d.cs := by unfold armD; split <;> rfl
theorem armT_any (A A' : Option Addr) (n c m c' : Nat) (d : D) (i : Int) (w : World) (h : Dv w w.heap.size A n A' m d) :
    Calls Try.prog 28 #[.agg #[.slice A n c, .slice A' m c', .int .i64 d.left, .bool d.dead], .int .i64 i] w fun e w' => Tells w w' (armD d i) e :=
  (arm_any A A' n c m c' d i w h).mono fun e w' ⟨A2, c2, A2', c2', he, ho, hb⟩ => ⟨A2, n, c2, A2', m, c2', he, Own.dv (d := armD d i) (by rw [armD_bs, armD_cs]; exact ho) h.hn h.hm, hb⟩
end Go.Proofs.Ytlmapbipgdhoiaa
