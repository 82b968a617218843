/-
  The calls on a device that a statement is handed, as a plain list; a device's variable that is stored anew.
-/
import Derived.Test.YtmkhffopmohdhaaDevOpen
import Derived.Test.YtmkhffopmohdhaaDevAwake
namespace Go.Proofs.Ytmkhffopmohdhaa
open Go.ChangeShapes Go.WideShapes Go.ChangeAt Go.RowKit Go.ChangeMaps Go.Joins Go.Deep

/-- One call: its kind, its place, its data, what is kept (a slice, and its truth values). -/
structure AR where
  kind : Int
  place : Int
  data : ByteArray
  K : Option Addr
  k : Nat
  kc : Nat
  ks : List Bool
  deriving Inhabited
def encA : List AR → List Value
  | [] => []
  | r :: l => .int .i64 r.kind :: .int .i64 r.place :: .string r.data :: .slice r.K r.k r.kc :: encA l
theorem encA_length : ∀ l : List AR, (encA l).length = l.length * 4
  | [] => rfl
  | r :: l => by simp only [encA, List.length_cons, encA_length l]; omega
theorem encA_get : ∀ {l : List AR} {i : Nat} {r : AR}, l[i]? = some r → (encA l)[i * 4]? = some (.int .i64 r.kind) ∧ (encA l)[i * 4 + 1]? = some (.int .i64 r.place) ∧ (encA l)[i * 4 + 2]? = some (.string r.data) ∧ (encA l)[i * 4 + 3]? = some (.slice r.K r.k r.kc)
  | q :: l, 0, r, h => by
    simp only [List.getElem?_cons_zero, Option.some.injEq] at h
    subst h
    exact ⟨rfl, rfl, rfl, rfl⟩
  | q :: l, i + 1, r, h => by
    have := encA_get (l := l) (i := i) (by simpa using h)
    rw [show (i + 1) * 4 = i * 4 + 1 + 1 + 1 + 1 by omega]
    exact this
/-- What is kept reads in the world. -/
structure AOk (w : World) (B : Nat) (r : AR) : Prop where
  rd : Reads w B 1 r.K r.k (encB r.ks)
  le : r.k ≤ r.kc
  cap : r.kc ≤ maxLen
  lft : r.place ≤ 9223372036854775807
theorem Reads.act {w : World} {B n : Nat} {A : Option Addr} {l : List AR} (h : Reads w B 4 A n (encA l)) {i : Nat} {r : AR} (hr : l[i]? = some r) :
    ∃ b o, A = some ⟨b, o, none⟩ ∧ b < B ∧ w.cell? ⟨b, o + i * 4, none⟩ = some (.int .i64 r.kind) ∧ w.cell? ⟨b, o + i * 4 + 1, none⟩ = some (.int .i64 r.place) ∧ w.cell? ⟨b, o + i * 4 + 2, none⟩ = some (.string r.data) ∧ w.cell? ⟨b, o + i * 4 + 3, none⟩ = some (.slice r.K r.k r.kc) := by
  have hi := (List.getElem?_eq_some_iff.1 hr).1
  have hl := h.1
  rw [encA_length] at hl
  obtain ⟨b, o, e, hb, hc⟩ := h.2 (by omega)
  obtain ⟨g0, g1, g2, g3⟩ := encA_get hr
  exact ⟨b, o, e, hb, hc _ _ g0, hc _ _ g1, hc _ _ g2, hc _ _ g3⟩

section
variable {H : Type} {enc : TypeId × Value → H} {W : World} {base : Nat} {spare : Nat → Bool} {held : Bool} {fuel : Nat}
/-- A slice of calls. -/
theorem open_acts {v : Value} {y : DataW H × List MemPlace} (h : DataW.trod enc Try.prog W base spare held fuel 22 [v] = some y) :
    ∃ L n c l, v = .slice L n c ∧ n ≤ c ∧ c ≤ maxLen ∧ Reads W W.heap.size 4 L n (encA l) ∧ ∀ r ∈ l, AOk W W.heap.size r := by
  rcases open_slice Try.underlying22 h with ⟨hcs, hx⟩ | ⟨a, len, cap, m, n, D, Pl, hcs, _, hl, hm, hmm, hx, hi⟩
  · injection hcs with hcs _
    exact ⟨none, 0, 0, [], hcs, Nat.le_refl _, by simp only [maxLen]; omega, Reads.nil, fun r hr => by cases hr⟩
  · injection hcs with hcs _
    have hlm : len ≤ m := by rw [hmm]; split <;> omega
    have ce : Try.prog.cellsOf 31 = 4 := by kernel_rfl
    have c3 : Try.prog.cellsOf 3 = 1 := by kernel_rfl
    have c9 : Try.prog.cellsOf 9 = 1 := by kernel_rfl
    have c29 : Try.prog.cellsOf 29 = 1 := by kernel_rfl
    have each : ∀ i, i < len → ∃ r : AR, AOk W W.heap.size r ∧ W.cell? (a.add (i * 4)) = some (.int .i64 r.kind) ∧ W.cell? (a.add (i * 4 + 1)) = some (.int .i64 r.place) ∧ W.cell? (a.add (i * 4 + 2)) = some (.string r.data) ∧ W.cell? (a.add (i * 4 + 3)) = some (.slice r.K r.k r.kc) := by
      intro i hil
      obtain ⟨cs', h1, h2⟩ := hi i (by omega)
      rw [ce] at h1
      obtain ⟨_, hlen, hcell⟩ := World.cells?_some h1
      obtain ⟨xs, q, _, hxy, _, hxl, hf⟩ := DataW.trod_struct Try.underlying31 h2
      match xs, hxl, cs', hlen with
      | [y0, y1, y2, y3], _, [v0, v1, v2, v3], _ =>
        have g0 := hf 0 _ rfl
        have g1 := hf 1 _ rfl
        have g2 := hf 2 _ rfl
        have g3 := hf 3 _ rfl
        simp [c3, c9, c29] at g0 g1 g2 g3
        have e0 := hcell 0 (by omega)
        have e1 := hcell 1 (by omega)
        have e2 := hcell 2 (by omega)
        have e3 := hcell 3 (by omega)
        rw [Go.Deep.add_add] at e0 e1 e2 e3
        obtain ⟨x0, f0, _, _⟩ := DataW.trod_int Try.underlying3 g0
        obtain ⟨x1, f1, _, hwf⟩ := DataW.trod_int Try.underlying3 g1
        obtain ⟨x2, f2, _, _⟩ := DataW.trod_string Try.underlying9 g2
        obtain ⟨K, k, kc, ks, f3, hk, hkm, hR⟩ := open_bools g3
        injection f0 with f0 _
        injection f1 with f1 _
        injection f2 with f2 _
        subst f0; subst f1; subst f2; subst f3
        refine ⟨⟨x0, x1, x2, K, k, kc, ks⟩, ⟨hR, hk, hkm, ?_⟩, by simpa using e0, by simpa using e1, by simpa using e2, by simpa using e3⟩
        have := hwf
        simp [Lit.wf] at this
        exact this.2
    obtain ⟨f, hf⟩ := choose_lt each
    refine ⟨some a, len, cap, (List.range len).map f, hcs, hl, hm, ⟨by rw [encA_length]; simp, fun hn => ?_⟩, fun r hr => ?_⟩
    · have h0 := (hf 0 (by omega)).2.1
      rw [Nat.zero_mul] at h0
      obtain ⟨b, o, rfl⟩ := slice_addr h0
      refine ⟨b, o, rfl, ?_, fun j u hu => ?_⟩
      · have := World.block_lt_of_cell? W _ h0
        rw [add_plain] at this
        exact this
      · have hj := (List.getElem?_eq_some_iff.1 hu).1
        rw [encA_length] at hj
        simp only [List.length_map, List.length_range] at hj
        have hk : j / 4 < len := by omega
        obtain ⟨_, c0, c1, c2, c3⟩ := hf (j / 4) hk
        obtain ⟨g0, g1, g2, g3⟩ := encA_get (l := (List.range len).map f) (i := j / 4) (r := f (j / 4)) (by simp [hk])
        rw [add_plain] at c0 c1 c2 c3
        have hm4 : j % 4 = 0 ∨ j % 4 = 1 ∨ j % 4 = 2 ∨ j % 4 = 3 := by omega
        rcases hm4 with hp | hp | hp | hp
        · have hjj : j / 4 * 4 = j := by omega
          rw [hjj] at g0 c0
          rw [hu] at g0
          rw [c0, ← g0]
        · have hjj : j / 4 * 4 + 1 = j := by omega
          rw [hjj] at g1 c1
          rw [hu] at g1
          rw [c1, ← g1]
        · have hjj : j / 4 * 4 + 2 = j := by omega
          rw [hjj] at g2 c2
          rw [hu] at g2
          rw [c2, ← g2]
        · have hjj : j / 4 * 4 + 3 = j := by omega
          rw [hjj] at g3 c3
          rw [hu] at g3
          rw [c3, ← g3]
    · obtain ⟨i, hi', rfl⟩ := List.mem_map.1 hr
      exact (hf i (List.mem_range.1 hi')).1
end

/-- A store into a device's variable leaves the lists of the devices. -/
theorem reads_far {w : World} {B size n : Nat} {A : Option Addr} {xs : List Value} (h : Reads w B size A n xs) (p : Addr) (u : Value) (hp : ∀ b o, A = some ⟨b, o, none⟩ → 0 < n → b ≠ p.block) : Reads (w.setCell p u) B size A n xs :=
  ⟨h.1, fun hn => by
    obtain ⟨b, o, e, hb, hc⟩ := h.2 hn
    exact ⟨b, o, e, hb, fun j v hv => by
      rw [World.cell?_setCell_other w p ⟨b, o + j, none⟩ u (fun he => hp b o e hn (by rw [he]))]
      exact hc j v hv⟩⟩
theorem dv_far {w : World} {B g n m : Nat} {A A' X X' : Option Addr} {d : D} {x y x' y' : Nat} {l : Int} {z : Bool} (h : Dv w B A n A' m d) (hb : B4 w g (.slice X x y) (.slice X' x' y') (.int .i64 l) (.bool z)) (j : Nat) (u : Value) : Dv (w.setCell ⟨g, j, none⟩ u) B A n A' m d := by
  obtain ⟨c0, c1, c2, c3, _⟩ := hb.cells
  have hno : ∀ (o : Nat) (s : ByteArray), w.cell? ⟨g, o, none⟩ ≠ some (.string s) := by
    intro o s hs
    match o with
    | 0 => rw [c0] at hs; cases hs
    | 1 => rw [c1] at hs; cases hs
    | 2 => rw [c2] at hs; cases hs
    | 3 => rw [c3] at hs; cases hs
    | o + 4 =>
      unfold B4 at hb
      simp [World.cell?, hb] at hs
  refine ⟨reads_far h.bs ⟨g, j, none⟩ u fun b o e hn he => ?_, reads_far h.cs ⟨g, j, none⟩ u fun b o e hn he => ?_, h.hn, h.hm⟩
  · obtain ⟨b2, o2, e2, _, hc⟩ := h.bs.str hn
    rw [e] at e2
    injection e2 with e2
    injection e2 with eb eo
    subst eb
    have he' : b = g := he
    subst he'
    exact hno _ _ hc
  · obtain ⟨b2, o2, e2, _, _, hc⟩ := h.cs.wr hn
    rw [e] at e2
    injection e2 with e2
    injection e2 with eb eo
    subst eb
    have he' : b = g := he
    subst he'
    exact hno _ _ hc

/-- The block g is a call's variable. -/
def A4 (w : World) (g : Nat) (r : AR) : Prop := w.heap[g]? = some (.cells #[.int .i64 r.kind, .int .i64 r.place, .string r.data, .slice r.K r.k r.kc] 31 (0, 0))
section
variable {w w' : World} {g : Nat} {r : AR}
theorem A4.lt (h : A4 w g r) : g < w.heap.size := by
  rcases Nat.lt_or_ge g w.heap.size with hlt | hge
  · exact hlt
  · unfold A4 at h; rw [Array.getElem?_eq_none hge] at h; cases h
theorem A4.cells (h : A4 w g r) : w.cell? ⟨g, 0, none⟩ = some (.int .i64 r.kind) ∧ w.cell? ⟨g, 1, none⟩ = some (.int .i64 r.place) ∧ w.cell? ⟨g, 2, none⟩ = some (.string r.data) ∧ w.cell? ⟨g, 3, none⟩ = some (.slice r.K r.k r.kc) := by
  unfold A4 at h
  refine ⟨?_, ?_, ?_, ?_⟩ <;> simp [World.cell?, h]
theorem A4.new (w : World) (r : AR) : A4 (w.alloc (.cells #[.int .i64 r.kind, .int .i64 r.place, .string r.data, .slice r.K r.k r.kc] 31)) w.heap.size r := heap_alloc_new w _
theorem A4.step (h : A4 w g r) (hb : Below w.heap.size w w') : A4 w' g r := (hb.block g h.lt).trans h
theorem A4.far (h : A4 w g r) {p : Addr} (hp : g ≠ p.block) (u : Value) : A4 (w.setCell p u) g r := (Below.heap_setCell w p u g hp).trans h
end
theorem a4_ne_b4 {w : World} {g h : Nat} {r : AR} {a b c d : Value} (ha : A4 w h r) (hb : B4 w g a b c d) : h ≠ g := by
  intro e
  subst e
  unfold A4 at ha
  unfold B4 at hb
  rw [ha] at hb
  injection hb with hb
  injection hb with _ ht
  exact absurd ht (by decide)
theorem AOk.below {w w' : World} {B : Nat} {r : AR} (h : AOk w B r) (hb : Below B w w') : AOk w' B r := ⟨h.rd.below hb, h.le, h.cap, h.lft⟩

/-- What the walk keeps: the two devices' variables (blocks g and g + 1) hold the same device. -/
structure Pv (w wr : World) (g : Nat) (A A' B B' : Option Addr) (n c m c' b b' : Nat) (d : D) : Prop where
  below : Below w.heap.size w wr
  b0 : B4 wr g (.slice A n c) (.slice A' m c') (.int .i64 d.left) (.bool d.dead)
  b1 : B4 wr (g + 1) (.slice B n b) (.slice B' m b') (.int .i64 d.left) (.bool d.dead)
  v0 : Dv wr wr.heap.size A n A' m d
  v1 : Dv wr wr.heap.size B n B' m d
  ge : w.heap.size ≤ g
  lft : d.left ≤ 9223372036854775807
section
variable {w wr w' : World} {g n c m c' b b' : Nat} {A A' B B' : Option Addr} {d : D}
theorem Pv.step (h : Pv w wr g A A' B B' n c m c' b b' d) (hb : Below wr.heap.size wr w') : Pv w w' g A A' B B' n c m c' b b' d :=
  ⟨bstep h.below hb, h.b0.step hb, h.b1.step hb, h.v0.step hb, h.v1.step hb, h.ge, h.lft⟩
theorem Pv.alloc (h : Pv w wr g A A' B B' n c m c' b b' d) (o : Obj) : Pv w (wr.alloc o) g A A' B B' n c m c' b b' d := h.step ((Below.refl _ _).alloc (Nat.le_refl _) o)
theorem Pv.drew (h : Pv w wr g A A' B B' n c m c' b b' d) : Pv w wr.drew g A A' B B' n c m c' b b' d := h.step (Below.refl _ _).drew
end
/-- A device's variable is stored anew: cell by cell. -/
def putD (w : World) (g : Nat) (a b c d : Value) : World := (((w.setCell ⟨g, 0, none⟩ a).setCell ⟨g, 1, none⟩ b).setCell ⟨g, 2, none⟩ c).setCell ⟨g, 3, none⟩ d
section
variable {w : World} {g x y x' y' n c m c' : Nat} {A A' X X' : Option Addr} {l l2 : Int} {z z2 : Bool}
theorem putD_b4 (h : B4 w g (.slice X x y) (.slice X' x' y') (.int .i64 l) (.bool z)) : B4 (putD w g (.slice A n c) (.slice A' m c') (.int .i64 l2) (.bool z2)) g (.slice A n c) (.slice A' m c') (.int .i64 l2) (.bool z2) :=
  (((h.set0 _).set1 _).set2 _).set3 _
theorem putD_far {q : Nat} {a b c d a2 b2 c2 d2 : Value} (h : B4 w q a b c d) (hq : q ≠ g) : B4 (putD w g a2 b2 c2 d2) q a b c d := (((h.far (p := ⟨g, 0, none⟩) hq _).far (p := ⟨g, 1, none⟩) hq _).far (p := ⟨g, 2, none⟩) hq _).far (p := ⟨g, 3, none⟩) hq _
theorem putD_a4 {q : Nat} {r : AR} {a2 b2 c2 d2 : Value} (h : A4 w q r) (hq : q ≠ g) : A4 (putD w g a2 b2 c2 d2) q r := (((h.far (p := ⟨g, 0, none⟩) hq _).far (p := ⟨g, 1, none⟩) hq _).far (p := ⟨g, 2, none⟩) hq _).far (p := ⟨g, 3, none⟩) hq _
theorem putD_size (a b c d : Value) : (putD w g a b c d).heap.size = w.heap.size := by simp [putD]
theorem putD_dv (h : B4 w g (.slice X x y) (.slice X' x' y') (.int .i64 l) (.bool z)) {d : D} {E E' : Option Addr} {k k' : Nat} (hv : Dv w w.heap.size E k E' k' d) : Dv (putD w g (.slice A n c) (.slice A' m c') (.int .i64 l2) (.bool z2)) (putD w g (.slice A n c) (.slice A' m c') (.int .i64 l2) (.bool z2)).heap.size E k E' k' d := by
  rw [putD_size]
  exact dv_far (dv_far (dv_far (dv_far hv h 0 _) (h.set0 _) 1 _) ((h.set0 _).set1 _) 2 _) (((h.set0 _).set1 _).set2 _) 3 _
theorem putD_below {w0 : World} {B : Nat} {a b c d : Value} (h : Below B w0 w) (hg : B ≤ g) : Below B w0 (putD w g a b c d) :=
  (((h.setCell (p := ⟨g, 0, none⟩) hg _).setCell (p := ⟨g, 1, none⟩) hg _).setCell (p := ⟨g, 2, none⟩) hg _).setCell (p := ⟨g, 3, none⟩) hg _
end
/-- Both variables stored anew with the same device. -/
theorem Pv.put {w wr : World} {g n c m c' b b' n2 c2 m2 c2' e2 e2' : Nat} {A A' B B' A2 A2' E E' : Option Addr} {d d2 : D} (h : Pv w wr g A A' B B' n c m c' b b' d) (hv : Dv wr wr.heap.size A2 n2 A2' m2 d2) (hu : Dv wr wr.heap.size E n2 E' m2 d2) (hl : d2.left ≤ 9223372036854775807) :
    Pv w (putD (putD wr g (.slice A2 n2 c2) (.slice A2' m2 c2') (.int .i64 d2.left) (.bool d2.dead)) (g + 1) (.slice E n2 e2) (.slice E' m2 e2') (.int .i64 d2.left) (.bool d2.dead)) g A2 A2' E E' n2 c2 m2 c2' e2 e2' d2 := by
  have k1 := putD_far (g := g) (a2 := .slice A2 n2 c2) (b2 := .slice A2' m2 c2') (c2 := .int .i64 d2.left) (d2 := .bool d2.dead) h.b1 (by omega)
  exact ⟨putD_below (putD_below h.below h.ge) (Nat.le_succ_of_le h.ge), putD_far (putD_b4 h.b0) (by omega), putD_b4 k1, putD_dv k1 (putD_dv h.b0 hv), putD_dv k1 (putD_dv h.b0 hu), h.ge, hl⟩

/-- The two devices' variables hold two devices. -/
structure Pw (w wr : World) (g : Nat) (A A' B B' : Option Addr) (n c m c' n' b m' b' : Nat) (d d' : D) : Prop where
  below : Below w.heap.size w wr
  b0 : B4 wr g (.slice A n c) (.slice A' m c') (.int .i64 d.left) (.bool d.dead)
  b1 : B4 wr (g + 1) (.slice B n' b) (.slice B' m' b') (.int .i64 d'.left) (.bool d'.dead)
  v0 : Dv wr wr.heap.size A n A' m d
  v1 : Dv wr wr.heap.size B n' B' m' d'
  ge : w.heap.size ≤ g
section
variable {w wr w' : World} {g n c m c' n' b m' b' n2 c2 m2 c2' : Nat} {A A' B B' A2 A2' : Option Addr} {d d' d2 : D}
theorem Pv.two (h : Pv w wr g A A' B B' n c m c' b b' d) : Pw w wr g A A' B B' n c m c' n b m b' d d := ⟨h.below, h.b0, h.b1, h.v0, h.v1, h.ge⟩
theorem Pw.one (h : Pw w wr g A A' B B' n c m c' n b m b' d d) (hl : d.left ≤ 9223372036854775807) : Pv w wr g A A' B B' n c m c' b b' d := ⟨h.below, h.b0, h.b1, h.v0, h.v1, h.ge, hl⟩
theorem Pw.step (h : Pw w wr g A A' B B' n c m c' n' b m' b' d d') (hb : Below wr.heap.size wr w') : Pw w w' g A A' B B' n c m c' n' b m' b' d d' :=
  ⟨bstep h.below hb, h.b0.step hb, h.b1.step hb, h.v0.step hb, h.v1.step hb, h.ge⟩
theorem Pw.alloc (h : Pw w wr g A A' B B' n c m c' n' b m' b' d d') (o : Obj) : Pw w (wr.alloc o) g A A' B B' n c m c' n' b m' b' d d' := h.step ((Below.refl _ _).alloc (Nat.le_refl _) o)
theorem Pw.put0 (h : Pw w wr g A A' B B' n c m c' n' b m' b' d d') (hv : Dv wr wr.heap.size A2 n2 A2' m2 d2) :
    Pw w (putD wr g (.slice A2 n2 c2) (.slice A2' m2 c2') (.int .i64 d2.left) (.bool d2.dead)) g A2 A2' B B' n2 c2 m2 c2' n' b m' b' d2 d' :=
  ⟨putD_below h.below h.ge, putD_b4 h.b0, putD_far h.b1 (by omega), putD_dv h.b0 hv, putD_dv h.b0 h.v1, h.ge⟩
theorem Pw.put1 (h : Pw w wr g A A' B B' n c m c' n' b m' b' d d') (hv : Dv wr wr.heap.size A2 n2 A2' m2 d2) :
    Pw w (putD wr (g + 1) (.slice A2 n2 c2) (.slice A2' m2 c2') (.int .i64 d2.left) (.bool d2.dead)) g A A' A2 A2' n c m c' n2 c2 m2 c2' d d2 :=
  ⟨putD_below h.below (Nat.le_succ_of_le h.ge), putD_far h.b0 (by omega), putD_b4 h.b1, putD_dv h.b1 h.v0, putD_dv h.b1 hv, h.ge⟩
end

/-- How many more a device may do stays within Go's numbers. -/
theorem left_new (x : Int) : (newD x).left ≤ 9223372036854775807 := by
  unfold newD noD
  split <;> (dsimp only; omega)
theorem left_write {d : D} (h : d.left ≤ 9223372036854775807) (i : Int) (s : ByteArray) : (writeD d i s).1.left ≤ 9223372036854775807 := by
  unfold writeD
  split
  · exact h
  split
  · exact h
  split
  · exact h
  split
  · exact h
  dsimp only
  split <;> omega
theorem left_flush {d : D} (h : d.left ≤ 9223372036854775807) : (flushD d).1.left ≤ 9223372036854775807 := by
  unfold flushD
  split
  · exact h
  split
  · exact h
  dsimp only
  split <;> omega
theorem left_arm {d : D} (h : d.left ≤ 9223372036854775807) {i : Int} (hi : i ≤ 9223372036854775807) : (armD d i).left ≤ 9223372036854775807 := by
  unfold armD
  split
  · exact h
  dsimp only
  omega
theorem armD_bs (d : D) (i : Int) : (armD d i).bs = d.bs := by unfold armD; split <;> rfl
theorem armD_cs (d : D) (i : Int) : (armD d i).cs = d.cs := by unfold armD; split <;> rfl
theorem armT_any (A A' : Option Addr) (n c m c' : Nat) (d : D) (i : Int) (w : World) (h : Dv w w.heap.size A n A' m d) :
    Calls Try.prog 20 #[.agg #[.slice A n c, .slice A' m c', .int .i64 d.left, .bool d.dead], .int .i64 i] w fun e w' => Tells w w' (armD d i) e :=
  (arm_any A A' n c m c' d i w h).mono fun e w' ⟨A2, c2, A2', c2', he, ho, hb⟩ => ⟨A2, n, c2, A2', m, c2', he, Own.dv (d := armD d i) (by rw [armD_bs, armD_cs]; exact ho) h.hn h.hm, hb⟩
theorem refArmT_any (A A' : Option Addr) (n c m c' : Nat) (d : D) (i : Int) (w : World) (h : Dv w w.heap.size A n A' m d) :
    Calls Try.prog 21 #[.agg #[.slice A n c, .slice A' m c', .int .i64 d.left, .bool d.dead], .int .i64 i] w fun e w' => Tells w w' (armD d i) e :=
  (refArm_any A A' n c m c' d i w h).mono fun e w' ⟨A2, c2, A2', c2', he, ho, hb⟩ => ⟨A2, n, c2, A2', m, c2', he, Own.dv (d := armD d i) (by rw [armD_bs, armD_cs]; exact ho) h.hn h.hm, hb⟩

end Go.Proofs.Ytmkhffopmohdhaa
