/-
  The program's own functions of layer 14: a rule, read.
-/
import Derived.Test.YtnidkcedomhofaaGreatDoorG27
import Derived.Test.YtnidkcedomhofaaGreatDoorG28
import Derived.Test.YtnidkcedomhofaaGreatDoorG29
import Derived.Test.YtnidkcedomhofaaGreatDoorG31
namespace Go.Proofs.YtnidkcedomhofaaGreatDoor
open Go.RowKit Go.Shelf
attribute [local go_sem] Oper.semAt_some

set_option maxHeartbeats 1000000 in
theorem splitFn_any (s : ByteArray) (w : World) :
    Calls Tryz.prog 18 #[.string s, .string ⟨#[59]⟩] w fun e w' => e = .returned (.func (.func 80) #[] #[.pointer (some ⟨w.heap.size + 1, 0, none⟩), .pointer (some ⟨w.heap.size, 0, none⟩), .pointer (some ⟨w.heap.size + 2, 0, none⟩)]) ∧
      w' = ((w.alloc (.cells #[.string s] 9)).alloc (.cells #[.string ⟨#[59]⟩] 9)).alloc (.cells #[.int .i64 0] 3) := by
  go_enter Tryz.func18, Tryz.ntmps18
  go_wp2
  go_ret
  exact ⟨rfl, rfl⟩
theorem row_kept {X Y' : World} {row : Option Nat} {B n₀ size k : Nat} {e : TypeId} {v : Value} {xs : List Value} (hr0 : X.ownsRow n₀ e size v k xs) (hg : X.grownBy Y' row) (hr : ∀ r, row = some r → B ≤ r ∧ ∃ o : Obj, X.heap[r]? = some o ∧ o.isCells = false) : Y'.ownsRow n₀ e size v k xs := by
  refine hr0.kept hg ?_
  rcases hr0.2 with ⟨rfl, _⟩ | ⟨g, cap, cur, rfl, _, hgb, _⟩
  · exact .inl rfl
  · refine .inr fun e' => ?_
    obtain ⟨_, o, ho, hc⟩ := hr g (by simpa [Value.ownBlock] using e'.symm)
    rw [hgb] at ho; cases ho; cases hc
theorem row_keptX {X Y' : World} {B n₀ size k : Nat} {e : TypeId} {v : Value} {xs : List Value} (hr0 : X.ownsRow n₀ e size v k xs) (hg : X.grownBy Y' (some B)) (hB : B < n₀) : Y'.ownsRow n₀ e size v k xs := by
  refine hr0.kept hg ?_
  rcases hr0.2 with ⟨rfl, _⟩ | ⟨g, cap, cur, rfl, hb, hgb, _⟩
  · exact .inl rfl
  · refine .inr fun e' => ?_
    have : g = B := by simpa [Value.ownBlock] using e'
    omega
theorem otherV {W : World} {B b : Nat} {t : TypeId} {v : Value} (h : Boxed W B t v) (hne : B ≠ b) (u : Value) : Boxed (W.setCell ⟨b, 0, none⟩ u) B t v := (Below.heap_setCell W ⟨b, 0, none⟩ u B hne).trans h
theorem putV {W : World} {B D : Nat} {t : TypeId} {v : Value} {o : Obj} (h : Boxed W B t v) (hne : B ≠ D) : Boxed (W.putObj D o) B t v := (World.putObj_heap_other hne).trans h
theorem row_base {W : World} {b b' e size k : Nat} {v : Value} {xs : List Value} (h : W.ownsRow b e size v k xs) (hb : b' ≤ b) : W.ownsRow b' e size v k xs :=
  ⟨h.1, h.2.imp (fun h => h) (fun ⟨g, cap, cur, h1, h2, h3⟩ => ⟨g, cap, cur, h1, Nat.le_trans hb h2, h3⟩)⟩
/-- A time's second is a number of 64 bits. -/
def UOk (r : RuV) : Prop := -9223372036854775808 ≤ r.unt.secs ∧ r.unt.secs < 9223372036854775808
theorem readK_u {k : Nat} {r q : RuV} {v : List UInt8} (hu : UOk r) (h : readK k r v = some q) : UOk q := by
  unfold readK at h
  split at h
  · split at h
    · cases h
    · injection h with h; subst h; exact hu
  · split at h
    · cases h
    · injection h with h; subst h; exact hu
  · split at h
    · cases h
    · injection h with h; subst h; exact hu
  · split at h
    · injection h with h
      subst h
      rcases timV_case v with k | k
      · unfold UOk; simp only; omega
      · unfold UOk
        simp only [k]
        show (-9223372036854775808 : Int) ≤ 0 ∧ (0 : Int) < 9223372036854775808
        decide
    · cases h
  · split at h
    · cases h
    · injection h with h; subst h; exact hu
  · split at h
    · cases h
    · injection h with h; subst h; exact hu
  · split at h
    · cases h
    · injection h with h; subst h; exact hu
  · split at h
    · cases h
    · injection h with h; subst h; exact hu
  · split at h
    · cases h
    · injection h with h; subst h; exact hu
theorem foldK_u {k : Nat} : ∀ (vs : List (List UInt8)) (r q : RuV), UOk r → foldK k r vs = some q → UOk q
  | [], r, q, hu, h => by simp only [foldK, Option.some.injEq] at h; subst h; exact hu
  | v :: vs, r, q, hu, h => by
    rw [foldK] at h
    cases hx : readK k r v with
    | none => rw [hx] at h; cases h
    | some r' => rw [hx] at h; exact foldK_u vs r' q (readK_u hu hx) h
theorem runV_u : ∀ (ps : List (List UInt8)) (r : RuV) (sn : List (List UInt8)) (x : RuV × List (List UInt8)), UOk r → runV r sn ps = .ok x → UOk x.1
  | [], r, sn, x, hu, h => by simp only [runV, Except.ok.injEq] at h; subst h; exact hu
  | p :: ps, r, sn, x, hu, h => by
    rw [runV] at h
    cases hx : stepV r sn p with
    | error e => rw [hx] at h; cases h
    | ok y =>
      rw [hx] at h
      refine runV_u ps y.1 y.2 x ?_ h
      rw [stepV_beg] at hx
      cases hb : begV sn p with
      | error e => rw [hb] at hx; cases hx
      | ok z =>
        rw [hb] at hx
        simp only at hx
        cases hf : foldK z.1 r (valsK z.1 z.2.2) with
        | none => rw [hf] at hx; cases hx
        | some q => rw [hf] at hx; injection hx with hx; subst hx; exact foldK_u _ r q hu hf
def ruA (r : RuV) (v1 v2 v3 v4 : Value) : Array Value := #[.int .i64 r.freq, .int .i64 r.intv, .int .i64 r.cnt, .bool r.has, .int .i64 r.unt.secs, .bool r.unt.utc, .bool r.unt.date, v1, v2, v3, v4, .int .i64 r.wk]
def nilV : Value := .slice none 0 0
/-- A rule's variable. -/
def RVar (W : World) (g : Nat) (r : RuV) (v1 v2 v3 v4 : Value) : Prop := W.heap[g]? = some (.cells (ruA r v1 v2 v3 v4) 27 (0, 0))
/-- Between two parts. -/
def PI (H X : Nat) (w : World) (pre : List Pc) (W : World) : Prop := ∃ r sn, runV RuV.init [] (pcs pre) = .ok (r, sn) ∧ Rd (H + 1) (X + 3) r sn W ∧ RVar W H RuV.zero nilV nilV nilV nilV ∧ Boxed W (H + 2) 28 (.int .i64 0) ∧ Below H w W ∧ X + 3 ≤ W.heap.size ∧ sn.length ≤ pre.length ∧ lenR r ≤ 24 * pre.length
/-- Behind the part that is wrong. -/
def PX (H X : Nat) (w : World) (c : Code) (pre : List Pc) (W : World) : Prop := c = .exit 0 ∧ ∃ e, runV RuV.init [] (pcs pre) = .error e ∧ RVar W H RuV.zero nilV nilV nilV nilV ∧ Boxed W (H + 2) 28 (.int .i64 e) ∧ Below H w W ∧ X + 3 ≤ W.heap.size
theorem Rd.kept {X Y' : World} {row : Option Nat} {B K n : Nat} {r : RuV} {sn : List (List UInt8)} (h : Rd K n r sn X) (hg : X.grownBy Y' row) (hr : ∀ r, row = some r → B ≤ r ∧ ∃ o : Obj, X.heap[r]? = some o ∧ o.isCells = false) : Rd K n r sn Y' := by
  obtain ⟨v1, v2, v3, v4, v5, h1, h2⟩ := h
  exact ⟨v1, v2, v3, v4, v5, cells_kept hg hr h1, ⟨row_kept h2.o1 hg hr, row_kept h2.o2 hg hr, row_kept h2.o3 hg hr, row_kept h2.o4 hg hr, row_kept h2.o5 hg hr, h2.a12, h2.a14, h2.a24⟩⟩
theorem Rd.keptX {X Y' : World} {B K n : Nat} {r : RuV} {sn : List (List UInt8)} (h : Rd K n r sn X) (hg : X.grownBy Y' (some B)) (hB : B < n) (hK : K ≠ B) : Rd K n r sn Y' := by
  obtain ⟨v1, v2, v3, v4, v5, h1, h2⟩ := h
  exact ⟨v1, v2, v3, v4, v5, (hg.block K h1.lt (fun e => by injection e with e; exact hK e)).trans h1, ⟨row_keptX h2.o1 hg hB, row_keptX h2.o2 hg hB, row_keptX h2.o3 hg hB, row_keptX h2.o4 hg hB, row_keptX h2.o5 hg hB, h2.a12, h2.a14, h2.a24⟩⟩
theorem pcs_snoc (pre : List Pc) (x : ByteArray) (hx : x.size ≤ 1048576) : pcs (pre ++ [(⟨x, hx⟩ : Pc)]) = pcs pre ++ [x.data.toList] := by simp [pcs]
theorem wp_normal {P : Program} {Q : Exit → Act → World → Prop} {c : Code} {a : Act} {w : World} (h : c.wp P (fun ex a' w' => ex = .normal ∧ Q .normal a' w') a w) : c.wp P Q a w := wp_mono h (fun e a w k => by obtain ⟨rfl, k⟩ := k; exact k)
theorem begV_err {sn : List (List UInt8)} {p : List UInt8} {e : Int} (h : begV sn p = .error e) : e ≠ 0 := by
  unfold begV at h
  split at h
  · injection h with h; omega
  · split at h
    · injection h with h; omega
    · split at h
      · injection h with h; omega
      · split at h
        · injection h with h; omega
        · split at h
          · injection h with h; omega
          · cases h
theorem fnK_enters {k : Nat} (hk : k < 9) (args : Array Value) (w : World) : (callFunc (fnK k) args).run Tryz.prog w = .ok (.enter (fnK k) args) w := by
  rcases key_cases hk with rfl | rfl | rfl | rfl | rfl | rfl | rfl | rfl | rfl
  · exact enters_of Tryz.func84 (by kernel_rfl) rfl args w
  · exact enters_of Tryz.func85 (by kernel_rfl) rfl args w
  · exact enters_of Tryz.func86 (by kernel_rfl) rfl args w
  · exact enters_of Tryz.func87 (by kernel_rfl) rfl args w
  · exact enters_of Tryz.func88 (by kernel_rfl) rfl args w
  · exact enters_of Tryz.func89 (by kernel_rfl) rfl args w
  · exact enters_of Tryz.func90 (by kernel_rfl) rfl args w
  · exact enters_of Tryz.func91 (by kernel_rfl) rfl args w
  · exact enters_of Tryz.func92 (by kernel_rfl) rfl args w
/-- Between two values of a part. -/
structure IL (H X P g c k : Nat) (r q : RuV) (sn vals : List (List UInt8)) (nm : List UInt8) (j : Nat) (W0 wr : World) : Prop where
  fold : foldK k r (vals.take j) = some q
  rd : Rd (H + 1) (X + 3) q sn wr
  z : RVar wr H RuV.zero nilV nilV nilV nilV
  e : Boxed wr (H + 2) 28 (.int .i64 0)
  tx : Tx wr g c vals
  p : B3 wr P (.string (mkB nm)) (.bool (isLst k)) (.func (.func (fnK k)) #[.pointer (some ⟨H + 1, 0, none⟩)] #[])
  ch : Ch (H + 1) (X + 3) W0 wr
  ll : lenR q ≤ lenR r + j
theorem B3.keep {W W' : World} {g : Nat} {a b c : Value} (h : B3 W g a b c) (hk : KS W W') : B3 W' g a b c := hk g _ _ _ (by decide) (by decide) (by decide) h
/-- What Parse tells. -/
def RuAns (s : List UInt8) (w : World) (e : Ending) (w' : World) : Prop :=
  ∃ v1 v2 v3 v4, e = .returned (.tuple #[ruV (parV s).1 v1 v2 v3 v4, .int .i64 (parV s).2]) ∧ RuS w' (parV s).1 v1 v2 v3 v4 ∧ Below w.heap.size w w'
theorem RuS.zero (W : World) : RuS W RuV.zero nilV nilV nilV nilV :=
  ⟨⟨rfl, .inl ⟨rfl, _, _, rfl⟩⟩, ⟨rfl, .inl ⟨rfl, _, _, rfl⟩⟩, ⟨rfl, .inl ⟨rfl, _, _, rfl⟩⟩, ⟨rfl, .inl ⟨rfl, _, _, rfl⟩⟩, Nat.zero_le _, Nat.zero_le _, Nat.zero_le _, Nat.zero_le _⟩
/-- A rule is stored. -/
def put12 (w : World) (g : Nat) (u0 u1 u2 u3 u4 u5 u6 u7 u8 u9 u10 u11 : Value) : World := ((((((((((((w.setCell ⟨g, 0, none⟩ u0).setCell ⟨g, 1, none⟩ u1).setCell ⟨g, 2, none⟩ u2).setCell ⟨g, 3, none⟩ u3).setCell ⟨g, 4, none⟩ u4).setCell ⟨g, 5, none⟩ u5).setCell ⟨g, 6, none⟩ u6).setCell ⟨g, 7, none⟩ u7).setCell ⟨g, 8, none⟩ u8).setCell ⟨g, 9, none⟩ u9).setCell ⟨g, 10, none⟩ u10).setCell ⟨g, 11, none⟩ u11)
theorem heap_put12 {w : World} {g : Nat} {o0 o1 o2 o3 o4 o5 o6 o7 o8 o9 o10 o11 u0 u1 u2 u3 u4 u5 u6 u7 u8 u9 u10 u11 : Value} {T : TypeId} (h : w.heap[g]? = some (.cells #[o0, o1, o2, o3, o4, o5, o6, o7, o8, o9, o10, o11] T (0, 0))) : (put12 w g u0 u1 u2 u3 u4 u5 u6 u7 u8 u9 u10 u11).heap[g]? = some (.cells #[u0, u1, u2, u3, u4, u5, u6, u7, u8, u9, u10, u11] T (0, 0)) := by
  unfold put12
  have h0 := heap_put (k := 0) (v := u0) h (by simp)
  have h1 := heap_put (k := 1) (v := u1) h0 (by simp)
  have h2 := heap_put (k := 2) (v := u2) h1 (by simp)
  have h3 := heap_put (k := 3) (v := u3) h2 (by simp)
  have h4 := heap_put (k := 4) (v := u4) h3 (by simp)
  have h5 := heap_put (k := 5) (v := u5) h4 (by simp)
  have h6 := heap_put (k := 6) (v := u6) h5 (by simp)
  have h7 := heap_put (k := 7) (v := u7) h6 (by simp)
  have h8 := heap_put (k := 8) (v := u8) h7 (by simp)
  have h9 := heap_put (k := 9) (v := u9) h8 (by simp)
  have h10 := heap_put (k := 10) (v := u10) h9 (by simp)
  have h11 := heap_put (k := 11) (v := u11) h10 (by simp)
  simpa using h11
theorem put12_other {w : World} {g k : Nat} (hk : k ≠ g) (u0 u1 u2 u3 u4 u5 u6 u7 u8 u9 u10 u11 : Value) : (put12 w g u0 u1 u2 u3 u4 u5 u6 u7 u8 u9 u10 u11).heap[k]? = w.heap[k]? := by
  unfold put12
  rw [Below.heap_setCell _ ⟨g, 11, none⟩ _ _ hk, Below.heap_setCell _ ⟨g, 10, none⟩ _ _ hk, Below.heap_setCell _ ⟨g, 9, none⟩ _ _ hk, Below.heap_setCell _ ⟨g, 8, none⟩ _ _ hk, Below.heap_setCell _ ⟨g, 7, none⟩ _ _ hk, Below.heap_setCell _ ⟨g, 6, none⟩ _ _ hk, Below.heap_setCell _ ⟨g, 5, none⟩ _ _ hk, Below.heap_setCell _ ⟨g, 4, none⟩ _ _ hk, Below.heap_setCell _ ⟨g, 3, none⟩ _ _ hk, Below.heap_setCell _ ⟨g, 2, none⟩ _ _ hk, Below.heap_setCell _ ⟨g, 1, none⟩ _ _ hk, Below.heap_setCell _ ⟨g, 0, none⟩ _ _ hk]
theorem put12_size (w : World) (g : Nat) (u0 u1 u2 u3 u4 u5 u6 u7 u8 u9 u10 u11 : Value) : (put12 w g u0 u1 u2 u3 u4 u5 u6 u7 u8 u9 u10 u11).heap.size = w.heap.size := by simp [put12]
theorem below_put12 {B : Nat} {w : World} {g : Nat} (hg : B ≤ g) (u0 u1 u2 u3 u4 u5 u6 u7 u8 u9 u10 u11 : Value) : Below B w (put12 w g u0 u1 u2 u3 u4 u5 u6 u7 u8 u9 u10 u11) := (((((((((((((Below.refl B w).setCell (p := ⟨g, 0, none⟩) hg u0).setCell (p := ⟨g, 1, none⟩) hg u1).setCell (p := ⟨g, 2, none⟩) hg u2).setCell (p := ⟨g, 3, none⟩) hg u3).setCell (p := ⟨g, 4, none⟩) hg u4).setCell (p := ⟨g, 5, none⟩) hg u5).setCell (p := ⟨g, 6, none⟩) hg u6).setCell (p := ⟨g, 7, none⟩) hg u7).setCell (p := ⟨g, 8, none⟩) hg u8).setCell (p := ⟨g, 9, none⟩) hg u9).setCell (p := ⟨g, 10, none⟩) hg u10).setCell (p := ⟨g, 11, none⟩) hg u11)
theorem Rw.put12 {W : World} {g n : Nat} {r : RuV} {sn : List (List UInt8)} {v1 v2 v3 v4 v5 : Value} (hK : g < n) (h : Rw W n r sn v1 v2 v3 v4 v5) (u0 u1 u2 u3 u4 u5 u6 u7 u8 u9 u10 u11 : Value) : Rw (Go.Proofs.YtnidkcedomhofaaGreatDoor.put12 W g u0 u1 u2 u3 u4 u5 u6 u7 u8 u9 u10 u11) n r sn v1 v2 v3 v4 v5 := ((((((((((((h.set hK u0).set hK u1).set hK u2).set hK u3).set hK u4).set hK u5).set hK u6).set hK u7).set hK u8).set hK u9).set hK u10).set hK u11)
theorem Sl.putObj {W : World} {D k size : Nat} {o o' : Obj} {v : Value} {cs : List Value} (h : Sl W v k size cs) (ho : W.heap[D]? = some o) (hc : o.isCells = false) : Sl (W.putObj D o') v k size cs := by
  refine ⟨h.1, ?_⟩
  rcases h.2 with h2 | ⟨b, of, c, h2, h3, h4⟩
  · exact .inl h2
  · refine .inr ⟨b, of, c, h2, by simpa using h3, fun j u hj => ?_⟩
    have hcell := h4 j u hj
    have hne : b ≠ D := by
      rintro rfl
      unfold World.cell? at hcell
      rw [ho] at hcell
      cases o <;> simp_all [Obj.isCells]
    exact (World.cell?_of_block (a := ⟨b, of + j, none⟩) (World.putObj_heap_other hne)).trans hcell
theorem RuS.putObj {W : World} {D : Nat} {o o' : Obj} {r : RuV} {v1 v2 v3 v4 : Value} (h : RuS W r v1 v2 v3 v4) (ho : W.heap[D]? = some o) (hc : o.isCells = false) : RuS (W.putObj D o') r v1 v2 v3 v4 :=
  ⟨h.s1.putObj ho hc, h.s2.putObj ho hc, h.s3.putObj ho hc, h.s4.putObj ho hc, h.l1, h.l2, h.l3, h.l4⟩
theorem RVar.drew {w : World} {g : Nat} {r : RuV} {v1 v2 v3 v4 : Value} (h : RVar w g r v1 v2 v3 v4) : RVar w.drew g r v1 v2 v3 v4 := h
theorem heap_drew {w : World} {k : Nat} {o : Obj} (h : w.heap[k]? = some o) : w.drew.heap[k]? = some o := h
theorem load_ru {W : World} {g : Nat} {r : RuV} {a1 a2 a3 a4 : Option Addr} {n1 n2 n3 n4 c1 c2 c3 c4 : Nat} (h : RVar W g r (.slice a1 n1 c1) (.slice a2 n2 c2) (.slice a3 n3 c3) (.slice a4 n4 c4)) : (Go.loadVar 27 ⟨g, 0, none⟩).run Tryz.prog W = .ok (ruV r (.slice a1 n1 c1) (.slice a2 n2 c2) (.slice a3 n3 c3) (.slice a4 n4 c4)) W := by
  have t0 : W.cell? ⟨g, 0, none⟩ = some (.int .i64 r.freq) := cell_of h rfl
  have t1 : W.cell? ⟨g, 1, none⟩ = some (.int .i64 r.intv) := cell_of h rfl
  have t2 : W.cell? ⟨g, 2, none⟩ = some (.int .i64 r.cnt) := cell_of h rfl
  have t3 : W.cell? ⟨g, 3, none⟩ = some (.bool r.has) := cell_of h rfl
  have t4 : W.cell? ⟨g, 4, none⟩ = some (.int .i64 r.unt.secs) := cell_of h rfl
  have t5 : W.cell? ⟨g, 5, none⟩ = some (.bool r.unt.utc) := cell_of h rfl
  have t6 : W.cell? ⟨g, 6, none⟩ = some (.bool r.unt.date) := cell_of h rfl
  have t7 : W.cell? ⟨g, 7, none⟩ = some (.slice a1 n1 c1) := cell_of h rfl
  have t8 : W.cell? ⟨g, 8, none⟩ = some (.slice a2 n2 c2) := cell_of h rfl
  have t9 : W.cell? ⟨g, 9, none⟩ = some (.slice a3 n3 c3) := cell_of h rfl
  have t10 : W.cell? ⟨g, 10, none⟩ = some (.slice a4 n4 c4) := cell_of h rfl
  have t11 : W.cell? ⟨g, 11, none⟩ = some (.int .i64 r.wk) := cell_of h rfl
  unfold loadVar ruV
  go_simp
set_option maxRecDepth 100000 in
set_option maxHeartbeats 8000000 in
theorem pParse14_any (s : ByteArray) (hs : s.size ≤ 1048576) (w : World) (hv : VV w) :
    Calls Tryz.prog 7 #[.string s] w (RuAns s.data.toList w) := by
  have cg := fun w => great_any s (by omega) w
  have HVV := Lib.hid hv
  have HPV : Hid (parV s.data.toList = endV (runV RuV.init [] (splitC 59 [] (upL s.data.toList)))) := Lib.hid rfl
  have hgs : (⟨(upL s.data.toList).toArray⟩ : ByteArray).size ≤ 1048576 := by
    have := bsize s
    rw [bsize]
    simp [upL]
    omega
  have HGS := Lib.hid hgs
  clear hgs
  have hnum : (splitC 59 [] (upL s.data.toList)).length ≤ 1048577 := by
    have h1 := List.count_le_length (a := (59 : UInt8)) (l := upL s.data.toList)
    have h2 := bsize s
    rw [splitC_len]
    simp only [upL, List.length_map] at h1 ⊢
    omega
  refine (callsIn_wide (n := 3)).1 ?_
  refine callsIn_of_wp_marks Tryz.func7 rfl trivial ?_ rfl
  refine wpIn_wide.2 ?_
  simp only [Tryz.ntmps7, List.size_toArray, List.length_cons, List.length_nil, Nat.reduceAdd, Nat.reduceSub, Array.replicate_succ, Array.replicate_zero, List.push_toArray, List.append_toArray, List.nil_append, List.cons_append]
  go_wp2
  go_step3
  go_wp2
  go_step3
  have hb0 : Below w.heap.size w (((w.alloc (.cells #[.int .i64 0, .int .i64 0, .int .i64 0, .bool false, .int .i64 0, .bool false, .bool false, .slice none 0 0, .slice none 0 0, .slice none 0 0, .slice none 0 0, .int .i64 0] 27)).alloc (.cells #[.int .i64 0, .int .i64 1, .int .i64 0, .bool false, .int .i64 0, .bool false, .bool false, .slice none 0 0, .slice none 0 0, .slice none 0 0, .slice none 0 0, .int .i64 0, .slice none 0 0] 43)).alloc (.cells #[.int .i64 0] 28)) := (((Below.refl _ w).alloc (Nat.le_refl _) _).alloc (by simp) _).alloc (by simp; omega) _
  have z0 : RVar (((w.alloc (.cells #[.int .i64 0, .int .i64 0, .int .i64 0, .bool false, .int .i64 0, .bool false, .bool false, .slice none 0 0, .slice none 0 0, .slice none 0 0, .slice none 0 0, .int .i64 0] 27)).alloc (.cells #[.int .i64 0, .int .i64 1, .int .i64 0, .bool false, .int .i64 0, .bool false, .bool false, .slice none 0 0, .slice none 0 0, .slice none 0 0, .slice none 0 0, .int .i64 0, .slice none 0 0] 43)).alloc (.cells #[.int .i64 0] 28)) w.heap.size RuV.zero nilV nilV nilV nilV := ((Below.heap_alloc _ _ _ (by simp; omega)).trans (Below.heap_alloc _ _ _ (by simp))).trans (heap_alloc_new w _)
  have z1 : RB (((w.alloc (.cells #[.int .i64 0, .int .i64 0, .int .i64 0, .bool false, .int .i64 0, .bool false, .bool false, .slice none 0 0, .slice none 0 0, .slice none 0 0, .slice none 0 0, .int .i64 0] 27)).alloc (.cells #[.int .i64 0, .int .i64 1, .int .i64 0, .bool false, .int .i64 0, .bool false, .bool false, .slice none 0 0, .slice none 0 0, .slice none 0 0, .slice none 0 0, .int .i64 0, .slice none 0 0] 43)).alloc (.cells #[.int .i64 0] 28)) (w.heap.size + 1) (rdA RuV.init nilV nilV nilV nilV nilV) := by
    have := heap_alloc_new (w.alloc (.cells #[.int .i64 0, .int .i64 0, .int .i64 0, .bool false, .int .i64 0, .bool false, .bool false, .slice none 0 0, .slice none 0 0, .slice none 0 0, .slice none 0 0, .int .i64 0] 27)) (.cells #[.int .i64 0, .int .i64 1, .int .i64 0, .bool false, .int .i64 0, .bool false, .bool false, .slice none 0 0, .slice none 0 0, .slice none 0 0, .slice none 0 0, .int .i64 0, .slice none 0 0] 43)
    rw [World.size_alloc] at this
    exact (Below.heap_alloc _ _ _ (by simp)).trans this
  have z2 := Boxed.new ((w.alloc (.cells #[.int .i64 0, .int .i64 0, .int .i64 0, .bool false, .int .i64 0, .bool false, .bool false, .slice none 0 0, .slice none 0 0, .slice none 0 0, .slice none 0 0, .int .i64 0] 27)).alloc (.cells #[.int .i64 0, .int .i64 1, .int .i64 0, .bool false, .int .i64 0, .bool false, .bool false, .slice none 0 0, .slice none 0 0, .slice none 0 0, .slice none 0 0, .int .i64 0, .slice none 0 0] 43)) 28 (.int .i64 0)
  simp only [World.size_alloc] at z2
  have e3 : (((w.alloc (.cells #[.int .i64 0, .int .i64 0, .int .i64 0, .bool false, .int .i64 0, .bool false, .bool false, .slice none 0 0, .slice none 0 0, .slice none 0 0, .slice none 0 0, .int .i64 0] 27)).alloc (.cells #[.int .i64 0, .int .i64 1, .int .i64 0, .bool false, .int .i64 0, .bool false, .bool false, .slice none 0 0, .slice none 0 0, .slice none 0 0, .slice none 0 0, .int .i64 0, .slice none 0 0] 43)).alloc (.cells #[.int .i64 0] 28)).heap.size = w.heap.size + 3 := by simp
  simp only [Nat.add_assoc, Nat.reduceAdd] at z2 ⊢
  obtain ⟨H, hH⟩ : ∃ H, w.heap.size = H := ⟨_, rfl⟩
  rw [hH] at hb0 z0 z1 z2 e3
  simp only [hH]
  generalize ((w.alloc (.cells #[.int .i64 0, .int .i64 0, .int .i64 0, .bool false, .int .i64 0, .bool false, .bool false, .slice none 0 0, .slice none 0 0, .slice none 0 0, .slice none 0 0, .int .i64 0] 27)).alloc (.cells #[.int .i64 0, .int .i64 1, .int .i64 0, .bool false, .int .i64 0, .bool false, .bool false, .slice none 0 0, .slice none 0 0, .slice none 0 0, .slice none 0 0, .int .i64 0, .slice none 0 0] 43)).alloc (.cells #[.int .i64 0] 28) = w2 at hb0 z0 z1 z2 e3 ⊢
  have Z := Lib.hid (And.intro hb0 (And.intro z0 (And.intro z1 (And.intro z2 e3))))
  clear hb0 z0 z1 z2 e3
  go_wp2_with (first
    | (go_at_call 19; refine (cg _).mono ?_; rintro e w3 ⟨rfl, hb3⟩; clear cg)
    | (go_at_call 18; refine (splitFn_any _ _).mono ?_; rintro e w' ⟨rfl, hw⟩; subst w'))
  refine (wpIn_wide (n := 3)).1 ?_
  obtain ⟨hb0, z0, z1, z2, e3⟩ := Z.out
  obtain ⟨X, hX⟩ : ∃ X, w3.heap.size = X := ⟨_, rfl⟩
  have hX3 : H + 3 ≤ X := by have := hb3.size; omega
  obtain ⟨G, hG⟩ : ∃ G : ByteArray, (⟨(upL s.data.toList).toArray⟩ : ByteArray) = G := ⟨_, rfl⟩
  have hgs := HGS.out
  rw [hG] at hgs
  have hgl : G.data.toList = upL s.data.toList := by rw [← hG]
  have hb3w : Below H w w3 := hb0.trans (hb3.mono (by omega))
  have y0 := (hb3.block H (by omega)).trans z0
  have y1 : RB w3 (H + 1) (rdA RuV.init nilV nilV nilV nilV nilV) := z1.step hb3
  have y2 := (hb3.block (H + 2) (by omega)).trans z2
  have b3 := ((Boxed.new w3 9 (.string G)).alloc (.cells #[.string ⟨#[59]⟩] 9)).alloc (.cells #[.int .i64 0] 3)
  have b4 := (Boxed.new (w3.alloc (.cells #[.string G] 9)) 9 (.string ⟨#[59]⟩)).alloc (.cells #[.int .i64 0] 3)
  have b5 := Boxed.new ((w3.alloc (.cells #[.string G] 9)).alloc (.cells #[.string ⟨#[59]⟩] 9)) 3 (.int .i64 0)
  have hal : Below w3.heap.size w3 (((w3.alloc (.cells #[.string G] 9)).alloc (.cells #[.string ⟨#[59]⟩] 9)).alloc (.cells #[.int .i64 0] 3)) := (((Below.refl _ w3).alloc (Nat.le_refl _) _).alloc (by simp) _).alloc (by simp; omega) _
  have e6 : (((w3.alloc (.cells #[.string G] 9)).alloc (.cells #[.string ⟨#[59]⟩] 9)).alloc (.cells #[.int .i64 0] 3)).heap.size = X + 3 := by simp [hX]
  simp only [World.size_alloc, hX, Nat.add_assoc, Nat.reduceAdd] at b3 b4 b5
  simp only [hG, hX]
  generalize ((w3.alloc (.cells #[.string G] 9)).alloc (.cells #[.string ⟨#[59]⟩] 9)).alloc (.cells #[.int .i64 0] 3) = w6 at b3 b4 b5 hal e6 ⊢
  have x0 : RVar w6 H RuV.zero nilV nilV nilV nilV := (hal.block H (by omega)).trans y0
  have x1 : RB w6 (H + 1) (rdA RuV.init nilV nilV nilV nilV nilV) := y1.step hal
  have x2 : Boxed w6 (H + 2) 28 (.int .i64 0) := (hal.block (H + 2) (by omega)).trans y2
  have hb6 : Below H w w6 := hb3w.trans (hal.mono (by omega))
  clear hb0 z0 z1 z2 e3 y0 y1 y2 Z hal hb3 hb3w
  have hpcs : splitC 59 [] G.data.toList = splitC 59 [] (upL s.data.toList) := by rw [hgl]
  refine rangeFunc_box (n := 3) (gf := 80) (lb := #[.pointer (some ⟨X + 1, 0, none⟩), .pointer (some ⟨X, 0, none⟩), .pointer (some ⟨X + 2, 0, none⟩)]) rfl (enters_of Tryz.func80 (by kernel_rfl) rfl)
    (X := X) (by omega) (split_x X H G hgs w6 (by omega) b3.cell b3.frozen b4.cell b5.cell) KpS.trans (fun W o o' ho hc => kpS_put (z := X + 3) (by omega) (by omega) W _ o o' (by omega) ho hc) (Below.refl _ _) (fun _ => rfl)
    (PI H X w) (PX H X w) ?own ?ownx ?box ⟨RuV.init, [], rfl, ⟨nilV, nilV, nilV, nilV, nilV, x1, ⟨World.ownsRow_nil _ _ _ _, World.ownsRow_nil _ _ _ _, World.ownsRow_nil _ _ _ _, World.ownsRow_nil _ _ _ _, World.ownsRow_nil _ _ _ _, .inl rfl, .inl rfl, .inl rfl⟩⟩, x0, x2, hb6, by omega, Nat.zero_le _, Nat.zero_le _⟩
    (fun x => { tmps := #[.string s, undef, .pointer (some ⟨H, 0, none⟩), .int .i64 0, .pointer (some ⟨H + 1, 0, none⟩), .pointer (some ⟨H + 2, 0, none⟩), .string x.1, undef, undef, undef, undef, undef, .agg #[.int .i64 0, .int .i64 1, .int .i64 0, .bool false, .int .i64 0, .bool false, .bool false, .slice none 0 0, .slice none 0 0, .slice none 0 0, .slice none 0 0, .int .i64 0], .agg #[.int .i64 0, .int .i64 1, .int .i64 0, .bool false, .int .i64 0, .bool false, .bool false, .slice none 0 0, .slice none 0 0, .slice none 0 0, .slice none 0 0, .int .i64 0, .slice none 0 0], .string s, .string G, .func (.func 80) #[] #[.pointer (some ⟨X + 1, 0, none⟩), .pointer (some ⟨X, 0, none⟩), .pointer (some ⟨X + 2, 0, none⟩)], .string x.1, undef, undef, undef, undef, undef, undef, undef, undef, undef, undef, undef, undef, undef, undef, undef, undef, undef, undef, undef, undef, undef, undef, undef, undef, undef, undef, undef, undef, undef, undef, undef, undef, undef, undef, undef, undef, undef, undef, undef, undef], defers := [] }) ?assign ?body ?done ?stop
  case own =>
    rintro pre A B row ⟨r, sn, h1, h2, h3, h4, h5, h6, h7, h8⟩ hg hr
    exact ⟨r, sn, h1, h2.kept hg hr, cells_kept hg hr h3, cells_kept hg hr h4, h5.grown hg (by omega) (fun j ej => by have := (hr j ej).1; omega), Nat.le_trans h6 hg.size, h7, h8⟩
  case ownx =>
    rintro c pre A B row ⟨h1, e, h2, h3, h4, h5, h6⟩ hg hr
    exact ⟨h1, e, h2, cells_kept hg hr h3, cells_kept hg hr h4, h5.grown hg (by omega) (fun j ej => by have := (hr j ej).1; omega), Nat.le_trans h6 hg.size⟩
  case box =>
    rintro pre A B ⟨r, sn, h1, h2, h3, h4, h5, h6, h7, h8⟩ hg
    have ne : ∀ k, k ≤ H + 2 → some k ≠ some X := fun k hk e => by injection e with e; omega
    exact ⟨r, sn, h1, h2.keptX hg (by omega) (by omega), (hg.block H (by omega) (ne _ (by omega))).trans h3, h4.kept hg (ne _ (by omega)), h5.grown hg (by omega) (fun j ej => by injection ej with ej; omega), Nat.le_trans h6 hg.size, h7, h8⟩
  case assign =>
    intro l x W K hK
    gi_wp2
    exact hK
  case body =>
    rintro l pre ⟨x, hx⟩ W ⟨r, sn, hrun, hRd, hZ, hE, hB, hsz, hsn, hlr⟩ hN
    have hpl : pre.length ≤ 1048577 := by rw [hpcs] at hN; omega
    have HPL := Lib.hid hpl
    have cb := begin14_any x hx (H + 1) (X + 3) r sn W (by omega) hsz (by omega) (HVV.out.step (by rw [hH]; exact hB)) hRd
    have HRUN : Hid (runV RuV.init [] (pcs (pre ++ [(⟨x, hx⟩ : Pc)])) = stepV r sn x.data.toList) := Lib.hid (by rw [pcs_snoc, runV_snoc, hrun])
    have HST := Lib.hid (stepV_beg r sn x.data.toList)
    have BB := Lib.hid (And.intro hZ (And.intro hE (And.intro hB hsz)))
    have HXS := Lib.hid (And.intro hx (And.intro hsn hlr))
    have hE2 := hE.lt
    rcases hbg : begV sn x.data.toList with f | ⟨k, nm, v⟩
    · have hfb : (f != 0) = true := by simpa using begV_err hbg
      have HBG := Lib.hid hbg
      have HE0 : Hid (stepV r sn x.data.toList = .error f) := Lib.hid (by rw [HST.out, hbg])
      clear b3 b4 b5 x0 x1 x2 hb6 hRd hrun hbg hsn hlr hN hpl hZ hE hB
      dsimp only
      gi_wp2_with (refine ⟨trivial, ?_⟩; gi_at_call 20; refine (CallsIn.inRound l (callsIn_wide.2 cb)).mono ?_; rintro e W1 hba
                   unfold BgAns at hba
                   rw [HBG.out] at hba
                   dsimp only at hba
                   obtain ⟨rfl, hb1⟩ := hba
                   have hst0 : ∀ (a : Addr) (m : Mode) (W : World), Sem.run Tryz.prog (store a .nilFunc m) W = stored Tryz.prog W a .nilFunc m := fun a m W => run_store _ W a _ m rfl
                   obtain ⟨hZ, hE, hB, hsz2⟩ := BB.out
                   have k0 : RVar W1 H RuV.zero nilV nilV nilV nilV := (hb1.block H (by omega)).trans hZ
                   have k2 : Boxed W1 (H + 2) 28 (.int .i64 0) := (hb1.block _ hE.lt).trans hE
                   have c2 := k2.cell
                   have f2 := k2.frozen
                   have hl2 := k2.lt
                   have c2a := (k2.alloc (.cells #[.string ⟨#[]⟩, .bool false, .nilFunc] 48)).cell
                   have f2a := (k2.alloc (.cells #[.string ⟨#[]⟩, .bool false, .nilFunc] 48)).frozen
                   have n1 : ¬ W1.heap.size = H + 2 := by omega
                   have n2 : ¬ H + 2 = W1.heap.size := by omega
                   have HK := Lib.hid (And.intro k0 (And.intro k2 hb1))
                   clear hZ hE hB k0 k2 hb1)
      obtain ⟨hZ, hE, hB, hsz2⟩ := BB.out
      obtain ⟨k0, k2, hb1⟩ := HK.out
      have hs1 := hb1.size
      refine ⟨(keepV hb1).trans (((KeepsOthers.setCell _ _ _).from _).trans ((KeepsOthers.alloc _ _).from _)), rfl, f, ?_, ?_, ?_, ?_, ?_⟩
      · rw [HRUN.out, HE0.out]
      · exact (Below.heap_alloc _ _ _ (by simp; omega)).trans ((Below.heap_setCell W1 ⟨H + 2, 0, none⟩ _ H (by show H ≠ H + 2; omega)).trans k0)
      · exact (k2.set (.int .i64 f)).alloc _
      · exact (hB.trans (hb1.mono (by omega))).trans (((Below.refl H W1).setCell (p := ⟨H + 2, 0, none⟩) (by show H ≤ H + 2; omega) _).alloc (by simp; omega) _)
      · simp; omega
    · have HBG := Lib.hid hbg
      have HK9 : ∀ args W, k < 9 → (callFunc (fnK k) args).run Tryz.prog W = .ok (.enter (fnK k) args) W := fun args W h => fnK_enters h args W
      have HEK := Lib.hid HK9
      clear b3 b4 b5 x0 x1 x2 hb6 hRd hrun hbg hsn hlr hN hpl hZ hE hB HK9
      dsimp only
      gi_wp2_with (refine ⟨trivial, ?_⟩; gi_at_call 20; refine (CallsIn.inRound l (callsIn_wide.2 cb)).mono ?_; rintro e W1 hba
                   unfold BgAns at hba
                   rw [HBG.out] at hba
                   dsimp only at hba
                   obtain ⟨g, c, rfl, hgW, hTx, h24, hk9, hpls, hCh, hRd⟩ := hba
                   obtain ⟨hZ, hE, hB, hsz2⟩ := BB.out
                   have k0 : RVar W1 H RuV.zero nilV nilV nilV nilV := (hCh.rest H (by omega) (by omega)).trans hZ
                   have k2 : Boxed W1 (H + 2) 28 (.int .i64 0) := (hCh.rest _ (by omega) (by omega)).trans hE
                   have hst : ∀ (a : Addr) (m : Mode) (W : World), Sem.run Tryz.prog (store a (.func (.func (fnK k)) #[.pointer (some ⟨H + 1, 0, none⟩)] #[]) m) W = stored Tryz.prog W a (.func (.func (fnK k)) #[.pointer (some ⟨H + 1, 0, none⟩)] #[]) m := fun a m W => run_store _ W a _ m rfl
                   have hal : Below W1.heap.size W1 (W1.alloc (.cells #[.string (mkB nm), .bool (isLst k), .func (.func (fnK k)) #[.pointer (some ⟨H + 1, 0, none⟩)] #[]] 48)) := (Below.refl _ _).alloc (Nat.le_refl _) _
                   have hIL : IL H X W1.heap.size g c k r r (sn ++ [nm]) (valsK k v) nm 0 W (W1.alloc (.cells #[.string (mkB nm), .bool (isLst k), .func (.func (fnK k)) #[.pointer (some ⟨H + 1, 0, none⟩)] #[]] 48)) := ⟨by rw [List.take_zero, foldK], hRd.below hal, (hal.block H (by have := hCh.below.size; omega)).trans k0, (hal.block _ k2.lt).trans k2, hTx.keep (KS.of_below hal), B3.new W1 _ _ _, hCh.trans (Ch.of_below (by have := hCh.below.size; omega) (by have := hCh.below.size; omega) hal), Nat.le_refl _⟩
                   have HIL := Lib.hid hIL
                   have HQ := Lib.hid (And.intro hgW (And.intro h24 (And.intro hk9 hpls)))
                   have hml : ((valsK k v).length : Int) ≤ 24 := by omega
                   clear hTx hCh hRd hZ hE hB k0 k2 hal hIL hpls)
      obtain ⟨PP, hPP⟩ : ∃ PP, W1.heap.size = PP := ⟨_, rfl⟩
      rw [hPP] at HIL
      simp only [hPP]
      generalize W1.alloc (.cells #[.string (mkB nm), .bool (isLst k), .func (.func (fnK k)) #[.pointer (some ⟨H + 1, 0, none⟩)] #[]] 48) = W1a at HIL ⊢
      gi_loopw [29] (fun p wr => ∃ (j : Nat) (q : RuV), p = .int .i64 j ∧ j ≤ (valsK k v).length ∧ Hid (IL H X PP g c k r q (sn ++ [nm]) (valsK k v) nm j W wr)) (fun p _ => (valsK k v).length - (intOf p).toNat)
      case atStart => exact ⟨0, r, rfl, Nat.zero_le _, HIL⟩
      case round =>
        obtain ⟨j, q, rfl, hj, HI⟩ := hrel
        obtain ⟨hgW, h24, hk9, hpls⟩ := HQ.out
        have hI := HI.out
        obtain ⟨hZ0, hE0, hB0, hsz0⟩ := BB.out
        have hbw : Below H w wr := hB0.trans (hI.ch.below.mono (by omega))
        have hszr : X + 3 ≤ wr.heap.size := by have := hI.ch.below.size; omega
        by_cases hlt : j < (valsK k v).length
        · obtain ⟨vj, hvj⟩ : ∃ vj, (valsK k v)[j]? = some vj := ⟨_, List.getElem?_eq_getElem hlt⟩
          have hji : (j : Int) < ((valsK k v).length : Int) := by omega
          have hj1 : (j : Int) + 1 ≤ 25 := by omega
          have ct := hI.tx.cell j vj hvj
          obtain ⟨p0, p1, p2⟩ := hI.p.cells
          have cr := read_any k hk9 (mkB vj) (by rw [bsize, mkB_list]; have h1 := hpls vj (List.mem_of_getElem? hvj); have h2 := bsize x; have h3 := HXS.out.1; omega) (H + 1) (X + 3) q (sn ++ [nm]) wr (by omega) hszr (by have h1 := hI.ll; have h2 := HXS.out.2.2; have h3 := HPL.out; omega) (HVV.out.step (by rw [hH]; exact hbw)) hI.rd
          rw [mkB_list] at cr
          have ek : ∀ args W, (callFunc (fnK k) args).run Tryz.prog W = .ok (.enter (fnK k) args) W := fun args W => HEK.out args W hk9
          have CR := Lib.hid cr
          have HVJ := Lib.hid hvj
          have HSR := Lib.hid (And.intro hbw hszr)
          cases hrk : readK k q vj with
          | none =>
            have HRK := Lib.hid hrk
            clear hI hZ0 hE0 hB0 hbw cr hvj hrk hpls
            gi_wp2_with (refine ⟨trivial, ?_⟩; gi_at_fn (fnK k); refine (CallsIn.inRound l (callsIn_wide.2 CR.out)).mono ?_; rintro e W2 ⟨b, q2, rfl, hCh, hKS, hRd2, hans⟩
                         have hbf : b = false := (by
                           cases b
                           · rfl
                           · rw [HRK.out] at hans; cases hans)
                         subst hbf
                         have k2 : Boxed W2 (H + 2) 28 (.int .i64 0) := (hCh.rest _ (by omega) (by omega)).trans HI.out.e
                         have c2 := k2.cell
                         have f2 := k2.frozen
                         have hl2 := k2.lt
                         have HK := Lib.hid (And.intro k2 hCh)
                         clear k2 hCh hKS hRd2 hans)
            obtain ⟨k2, hCh⟩ := HK.out
            refine ⟨(HI.out.ch.keeps _).trans ((hCh.keeps _).trans ((KeepsOthers.setCell _ _ _).from _)), rfl, 10, ?_, ?_, ?_, ?_, ?_⟩
            · rw [HRUN.out, HST.out, HBG.out]
              simp only
              have h1 : foldK k r (valsK k v) = none := by
                rw [← List.take_append_drop j (valsK k v), foldK_app k _ _ r q HI.out.fold, List.drop_eq_getElem_cons hlt, foldK]
                have : (valsK k v)[j] = vj := by have := HVJ.out; rw [List.getElem?_eq_getElem hlt] at this; exact Option.some.inj this
                rw [this, HRK.out]
              rw [h1]
            · exact (Below.heap_setCell W2 ⟨H + 2, 0, none⟩ _ H (by show H ≠ H + 2; omega)).trans ((hCh.rest H (by omega) (by omega)).trans HI.out.z)
            · exact k2.set (.int .i64 10)
            · exact (HSR.out.1.trans (hCh.below.mono (by omega))).setCell (p := ⟨H + 2, 0, none⟩) (by show H ≤ H + 2; omega) _
            · have := hCh.below.size
              have := HSR.out.2
              simp; omega
          | some q3 =>
            have HRK := Lib.hid hrk
            clear hI hZ0 hE0 hB0 hbw cr hvj hrk hpls
            gi_wp2_with (refine ⟨trivial, ?_⟩; gi_at_fn (fnK k); refine (CallsIn.inRound l (callsIn_wide.2 CR.out)).mono ?_; rintro e W2 ⟨b, q2, rfl, hCh, hKS, hRd2, hans⟩
                         have hbt : b = true ∧ q2 = q3 := (by
                           rw [HRK.out] at hans
                           cases b
                           · cases hans
                           · exact ⟨rfl, (Option.some.inj hans).symm⟩)
                         obtain ⟨rfl, hq⟩ := hbt
                         have HK := Lib.hid (And.intro hCh (And.intro hKS (And.intro hRd2 hq)))
                         clear hCh hKS hRd2 hans hq)
            go_roundw
            case rel =>
              obtain ⟨hCh, hKS, hRd2, rfl⟩ := HK.out
              have hI := HI.out
              refine ⟨j + 1, q2, by go_num, by omega, Lib.hid ⟨?_, hRd2, (hCh.rest H (by omega) (by omega)).trans hI.z, (hCh.rest _ (by omega) (by omega)).trans hI.e, hI.tx.keep hKS, hI.p.keep hKS, hI.ch.trans hCh, ?_⟩⟩
              · rw [List.take_add_one, HVJ.out]
                show foldK k r ((valsK k v).take j ++ [vj]) = some q2
                rw [foldK_snoc, hI.fold]
                exact HRK.out
              · have := readK_len HRK.out
                have := hI.ll
                omega
            case measure => simp [intOf]; omega
        · obtain rfl : j = (valsK k v).length := by omega
          have hji : ¬ ((valsK k v).length : Int) < ((valsK k v).length : Int) := by omega
          have HSR := Lib.hid (And.intro hbw hszr)
          clear hI hZ0 hE0 hB0 hbw hpls
          gi_wp2
          have hI := HI.out
          refine ⟨hI.ch.keeps _, ⟨hI.ch.below.mono (by omega), hI.ch.rest X (by omega) (by omega), hI.ch.rest (X + 1) (by omega) (by omega), hI.ch.rest (X + 2) (by omega) (by omega)⟩, ⟨q, sn ++ [nm], ?_, hI.rd, hI.z, hI.e, HSR.out.1, HSR.out.2, ?_, ?_⟩⟩
          · rw [HRUN.out, HST.out, HBG.out]
            simp only
            have := hI.fold
            rw [List.take_length] at this
            rw [this]
          · have := HXS.out.2.1
            simp; omega
          · have h1 := hI.ll
            have h2 := HXS.out.2.2
            simp; omega
  case done =>
    rintro D ys W hD hys ⟨r, sn, hrun, hRd, hZ, hE, hB, hsz, hsn, hlr⟩ hK
    have hD6 : X + 3 ≤ D := by omega
    have HF : Hid (parV s.data.toList = endV (.ok (r, sn))) := Lib.hid (by rw [HPV.out, ← hrun, hys, hpcs])
    have hyl : ys.length ≤ 1048577 := by
      have : (pcs ys).length = (splitC 59 [] G.data.toList).length := by rw [hys]
      rw [hpcs] at this
      simp only [pcs, List.length_map] at this
      omega
    have hU : UOk r := runV_u _ _ _ (r, sn) (show UOk RuV.init from ⟨by decide, by decide⟩) hrun
    obtain ⟨v1, v2, v3, v4, v5, hRB, hRw⟩ := hRd
    have hS : RuS W r v1 v2 v3 v4 := ⟨Sl.of_own hRw.o1, Sl.of_own hRw.o2, Sl.of_own hRw.o3, Sl.of_own hRw.o4, by unfold lenR at hlr; omega, by unfold lenR at hlr; omega, by unfold lenR at hlr; omega, by unfold lenR at hlr; omega⟩
    obtain ⟨a1, c1, rfl⟩ := hS.s1.lit
    obtain ⟨a2, c2, rfl⟩ := hS.s2.lit
    obtain ⟨a3, c3, rfl⟩ := hS.s3.lit
    obtain ⟨a4, c4, rfl⟩ := hS.s4.lit
    have c2e := hE.cell
    have hdw : D < W.heap.size := (Array.getElem?_eq_some_iff.1 hK).1
    have z0 : W.cell? ⟨H, 0, none⟩ = some (.int .i64 0) := cell_of hZ rfl
    have z1 : W.cell? ⟨H, 1, none⟩ = some (.int .i64 0) := cell_of hZ rfl
    have z2 : W.cell? ⟨H, 2, none⟩ = some (.int .i64 0) := cell_of hZ rfl
    have z3 : W.cell? ⟨H, 3, none⟩ = some (.bool false) := cell_of hZ rfl
    have z4 : W.cell? ⟨H, 4, none⟩ = some (.int .i64 0) := cell_of hZ rfl
    have z5 : W.cell? ⟨H, 5, none⟩ = some (.bool false) := cell_of hZ rfl
    have z6 : W.cell? ⟨H, 6, none⟩ = some (.bool false) := cell_of hZ rfl
    have z7 : W.cell? ⟨H, 7, none⟩ = some (.slice none 0 0) := cell_of hZ rfl
    have z8 : W.cell? ⟨H, 8, none⟩ = some (.slice none 0 0) := cell_of hZ rfl
    have z9 : W.cell? ⟨H, 9, none⟩ = some (.slice none 0 0) := cell_of hZ rfl
    have z10 : W.cell? ⟨H, 10, none⟩ = some (.slice none 0 0) := cell_of hZ rfl
    have z11 : W.cell? ⟨H, 11, none⟩ = some (.int .i64 0) := cell_of hZ rfl
    have k0 : W.cell? ⟨H + 1, 0, none⟩ = some (.int .i64 r.freq) := hRB.cell (j := 0) rfl
    have k1 : W.cell? ⟨H + 1, 1, none⟩ = some (.int .i64 r.intv) := hRB.cell (j := 1) rfl
    have k2 : W.cell? ⟨H + 1, 2, none⟩ = some (.int .i64 r.cnt) := hRB.cell (j := 2) rfl
    have k3 : W.cell? ⟨H + 1, 3, none⟩ = some (.bool r.has) := hRB.cell (j := 3) rfl
    have k4 : W.cell? ⟨H + 1, 4, none⟩ = some (.int .i64 r.unt.secs) := hRB.cell (j := 4) rfl
    have k5 : W.cell? ⟨H + 1, 5, none⟩ = some (.bool r.unt.utc) := hRB.cell (j := 5) rfl
    have k6 : W.cell? ⟨H + 1, 6, none⟩ = some (.bool r.unt.date) := hRB.cell (j := 6) rfl
    have k7 : W.cell? ⟨H + 1, 7, none⟩ = some (.slice a1 r.mon.length c1) := hRB.cell (j := 7) rfl
    have k8 : W.cell? ⟨H + 1, 8, none⟩ = some (.slice a2 r.md.length c2) := hRB.cell (j := 8) rfl
    have k9 : W.cell? ⟨H + 1, 9, none⟩ = some (.slice a3 r.dys.length c3) := hRB.cell (j := 9) rfl
    have k10 : W.cell? ⟨H + 1, 10, none⟩ = some (.slice a4 r.pos.length c4) := hRB.cell (j := 10) rfl
    have k11 : W.cell? ⟨H + 1, 11, none⟩ = some (.int .i64 r.wk) := hRB.cell (j := 11) rfl
    have HALL := Lib.hid (And.intro hRB (And.intro hRw (And.intro hZ (And.intro hE (And.intro hB (And.intro hK (And.intro hS hU)))))))
    have frH : ∀ k, W.frozen? ⟨H, k, none⟩ = false := fun k => by
      have := HALL.out.2.2.1
      unfold RVar at this
      simp [World.frozen?, this]
    have hHW : H < W.heap.size := by omega
    clear hRB hRw hZ hE hB hK hS hU hrun hys hsn hlr hyl b3 b4 b5 x0 x1 x2 hb6
    by_cases hfr : r.freq = 0
    · have hfb : (r.freq == 0) = true := by rw [beq_iff_eq]; exact hfr
      have HF2 : Hid (parV s.data.toList = (RuV.zero, 26)) := Lib.hid (by rw [HF.out, endV]; simp only; rw [if_pos hfr])
      clear hfr
      go_wp2
      obtain ⟨hRB, hRw, hZ, hE, hB, hK, hS, hU⟩ := HALL.out
      have hq : RVar (put12 W H (.int .i64 0) (.int .i64 0) (.int .i64 0) (.bool false) (.int .i64 0) (.bool false) (.bool false) (.slice none 0 0) (.slice none 0 0) (.slice none 0 0) (.slice none 0 0) (.int .i64 0)) H RuV.zero (.slice none 0 0) (.slice none 0 0) (.slice none 0 0) (.slice none 0 0) := heap_put12 hZ
      have hkk : (put12 W H (.int .i64 0) (.int .i64 0) (.int .i64 0) (.bool false) (.int .i64 0) (.bool false) (.bool false) (.slice none 0 0) (.slice none 0 0) (.slice none 0 0) (.slice none 0 0) (.int .i64 0)).heap[D]? = some (.deferred (some [])) := (put12_other (by omega) (.int .i64 0) (.int .i64 0) (.int .i64 0) (.bool false) (.int .i64 0) (.bool false) (.bool false) (.slice none 0 0) (.slice none 0 0) (.slice none 0 0) (.slice none 0 0) (.int .i64 0)).trans hK
      try rw [Exit.noGoto_ret]
      refine ⟨by simp, .inl ⟨_, _, rfl, run_takeDeferred hkk, ?_⟩⟩
      have hq2 : RVar ((put12 W H (.int .i64 0) (.int .i64 0) (.int .i64 0) (.bool false) (.int .i64 0) (.bool false) (.bool false) (.slice none 0 0) (.slice none 0 0) (.slice none 0 0) (.slice none 0 0) (.int .i64 0)).putObj D (.deferred none)) H RuV.zero (.slice none 0 0) (.slice none 0 0) (.slice none 0 0) (.slice none 0 0) := (World.putObj_heap_other (by omega)).trans hq
      refine ⟨_, results_cell2 rfl _ rfl rfl (load_ru hq2), ?_⟩
      refine ⟨_, _, _, _, by rw [HF2.out]; rfl, ?_, ?_⟩
      · rw [HF2.out]
        exact RuS.zero _
      · rw [hH]
        exact (hB.trans (below_put12 (Nat.le_refl _) (.int .i64 0) (.int .i64 0) (.int .i64 0) (.bool false) (.int .i64 0) (.bool false) (.bool false) (.slice none 0 0) (.slice none 0 0) (.slice none 0 0) (.slice none 0 0) (.int .i64 0))).trans (belowV_put (z := H) (Nat.le_refl _) (by omega) _ _ _ hkk rfl)
    · have hfb : (r.freq == 0) = false := by rw [beq_eq_false_iff_ne]; exact hfr
      have cF := pFit14_any r (.slice a1 r.mon.length c1) (.slice a2 r.md.length c2) (.slice a3 r.dys.length c3) (.slice a4 r.pos.length c4) W (HVV.out.step (by rw [hH]; exact HALL.out.2.2.2.2.1)) HALL.out.2.2.2.2.2.2.2 HALL.out.2.2.2.2.2.2.1
      unfold ruV at cF
      cases hfit : fitV r
      · have HF2 : Hid (parV s.data.toList = (RuV.zero, 14)) := Lib.hid (by rw [HF.out, endV]; simp only; rw [if_neg hfr, if_neg (by rw [hfit]; decide)])
        rw [hfit] at cF
        clear hfr hfit
        go_wp2_with (go_at_call 11; refine cF.mono ?_; rintro e W2 ⟨rfl, hb2⟩
                     have hZ2 : RVar W2 H RuV.zero nilV nilV nilV nilV := (hb2.block H hHW).trans HALL.out.2.2.1
                     have frH2 : ∀ k, W2.frozen? ⟨H, k, none⟩ = false := (fun k => by
                       unfold RVar at hZ2
                       simp [World.frozen?, hZ2])
                     have y0 : W2.cell? ⟨H, 0, none⟩ = some (.int .i64 0) := cell_of hZ2 rfl
                     have y1 : W2.cell? ⟨H, 1, none⟩ = some (.int .i64 0) := cell_of hZ2 rfl
                     have y2 : W2.cell? ⟨H, 2, none⟩ = some (.int .i64 0) := cell_of hZ2 rfl
                     have y3 : W2.cell? ⟨H, 3, none⟩ = some (.bool false) := cell_of hZ2 rfl
                     have y4 : W2.cell? ⟨H, 4, none⟩ = some (.int .i64 0) := cell_of hZ2 rfl
                     have y5 : W2.cell? ⟨H, 5, none⟩ = some (.bool false) := cell_of hZ2 rfl
                     have y6 : W2.cell? ⟨H, 6, none⟩ = some (.bool false) := cell_of hZ2 rfl
                     have y7 : W2.cell? ⟨H, 7, none⟩ = some (.slice none 0 0) := cell_of hZ2 rfl
                     have y8 : W2.cell? ⟨H, 8, none⟩ = some (.slice none 0 0) := cell_of hZ2 rfl
                     have y9 : W2.cell? ⟨H, 9, none⟩ = some (.slice none 0 0) := cell_of hZ2 rfl
                     have y10 : W2.cell? ⟨H, 10, none⟩ = some (.slice none 0 0) := cell_of hZ2 rfl
                     have y11 : W2.cell? ⟨H, 11, none⟩ = some (.int .i64 0) := cell_of hZ2 rfl
                     have HW2 := Lib.hid (And.intro hZ2 hb2)
                     clear hZ2 hb2)
        obtain ⟨hRB, hRw, hZ, hE, hB, hK, hS, hU⟩ := HALL.out
        obtain ⟨hZ2, hb2⟩ := HW2.out
        have hq : RVar (put12 W2 H (.int .i64 0) (.int .i64 0) (.int .i64 0) (.bool false) (.int .i64 0) (.bool false) (.bool false) (.slice none 0 0) (.slice none 0 0) (.slice none 0 0) (.slice none 0 0) (.int .i64 0)) H RuV.zero (.slice none 0 0) (.slice none 0 0) (.slice none 0 0) (.slice none 0 0) := heap_put12 hZ2
        have hkk : (put12 W2 H (.int .i64 0) (.int .i64 0) (.int .i64 0) (.bool false) (.int .i64 0) (.bool false) (.bool false) (.slice none 0 0) (.slice none 0 0) (.slice none 0 0) (.slice none 0 0) (.int .i64 0)).heap[D]? = some (.deferred (some [])) := (put12_other (by omega) (.int .i64 0) (.int .i64 0) (.int .i64 0) (.bool false) (.int .i64 0) (.bool false) (.bool false) (.slice none 0 0) (.slice none 0 0) (.slice none 0 0) (.slice none 0 0) (.int .i64 0)).trans ((hb2.block D hdw).trans hK)
        try rw [Exit.noGoto_ret]
        refine ⟨by simp, .inl ⟨_, _, rfl, run_takeDeferred hkk, ?_⟩⟩
        have hq2 : RVar ((put12 W2 H (.int .i64 0) (.int .i64 0) (.int .i64 0) (.bool false) (.int .i64 0) (.bool false) (.bool false) (.slice none 0 0) (.slice none 0 0) (.slice none 0 0) (.slice none 0 0) (.int .i64 0)).putObj D (.deferred none)) H RuV.zero (.slice none 0 0) (.slice none 0 0) (.slice none 0 0) (.slice none 0 0) := (World.putObj_heap_other (by omega)).trans hq
        refine ⟨_, results_cell2 rfl _ rfl rfl (load_ru hq2), ?_⟩
        refine ⟨_, _, _, _, by rw [HF2.out]; rfl, ?_, ?_⟩
        · rw [HF2.out]
          exact RuS.zero _
        · rw [hH]
          exact ((hB.trans (hb2.mono (by omega))).trans (below_put12 (Nat.le_refl _) (.int .i64 0) (.int .i64 0) (.int .i64 0) (.bool false) (.int .i64 0) (.bool false) (.bool false) (.slice none 0 0) (.slice none 0 0) (.slice none 0 0) (.slice none 0 0) (.int .i64 0))).trans (belowV_put (z := H) (Nat.le_refl _) (by omega) _ _ _ hkk rfl)
      · have HF2 : Hid (parV s.data.toList = (r, 0)) := Lib.hid (by rw [HF.out, endV]; simp only; rw [if_neg hfr, if_pos hfit])
        rw [hfit] at cF
        clear hfr hfit
        go_wp2_with (go_at_call 11; refine cF.mono ?_; rintro e W2 ⟨rfl, hb2⟩
                     have hZ2 : RVar W2 H RuV.zero nilV nilV nilV nilV := (hb2.block H hHW).trans HALL.out.2.2.1
                     have frH2 : ∀ k, W2.frozen? ⟨H, k, none⟩ = false := (fun k => by
                       unfold RVar at hZ2
                       simp [World.frozen?, hZ2])
                     have y0 : W2.cell? ⟨H, 0, none⟩ = some (.int .i64 0) := cell_of hZ2 rfl
                     have y1 : W2.cell? ⟨H, 1, none⟩ = some (.int .i64 0) := cell_of hZ2 rfl
                     have y2 : W2.cell? ⟨H, 2, none⟩ = some (.int .i64 0) := cell_of hZ2 rfl
                     have y3 : W2.cell? ⟨H, 3, none⟩ = some (.bool false) := cell_of hZ2 rfl
                     have y4 : W2.cell? ⟨H, 4, none⟩ = some (.int .i64 0) := cell_of hZ2 rfl
                     have y5 : W2.cell? ⟨H, 5, none⟩ = some (.bool false) := cell_of hZ2 rfl
                     have y6 : W2.cell? ⟨H, 6, none⟩ = some (.bool false) := cell_of hZ2 rfl
                     have y7 : W2.cell? ⟨H, 7, none⟩ = some (.slice none 0 0) := cell_of hZ2 rfl
                     have y8 : W2.cell? ⟨H, 8, none⟩ = some (.slice none 0 0) := cell_of hZ2 rfl
                     have y9 : W2.cell? ⟨H, 9, none⟩ = some (.slice none 0 0) := cell_of hZ2 rfl
                     have y10 : W2.cell? ⟨H, 10, none⟩ = some (.slice none 0 0) := cell_of hZ2 rfl
                     have y11 : W2.cell? ⟨H, 11, none⟩ = some (.int .i64 0) := cell_of hZ2 rfl
                     have hRB2 := HALL.out.1.step hb2
                     have m0 : W2.cell? ⟨H + 1, 0, none⟩ = some (.int .i64 r.freq) := hRB2.cell (j := 0) rfl
                     have m1 : W2.cell? ⟨H + 1, 1, none⟩ = some (.int .i64 r.intv) := hRB2.cell (j := 1) rfl
                     have m2 : W2.cell? ⟨H + 1, 2, none⟩ = some (.int .i64 r.cnt) := hRB2.cell (j := 2) rfl
                     have m3 : W2.cell? ⟨H + 1, 3, none⟩ = some (.bool r.has) := hRB2.cell (j := 3) rfl
                     have m4 : W2.cell? ⟨H + 1, 4, none⟩ = some (.int .i64 r.unt.secs) := hRB2.cell (j := 4) rfl
                     have m5 : W2.cell? ⟨H + 1, 5, none⟩ = some (.bool r.unt.utc) := hRB2.cell (j := 5) rfl
                     have m6 : W2.cell? ⟨H + 1, 6, none⟩ = some (.bool r.unt.date) := hRB2.cell (j := 6) rfl
                     have m7 : W2.cell? ⟨H + 1, 7, none⟩ = some (.slice a1 r.mon.length c1) := hRB2.cell (j := 7) rfl
                     have m8 : W2.cell? ⟨H + 1, 8, none⟩ = some (.slice a2 r.md.length c2) := hRB2.cell (j := 8) rfl
                     have m9 : W2.cell? ⟨H + 1, 9, none⟩ = some (.slice a3 r.dys.length c3) := hRB2.cell (j := 9) rfl
                     have m10 : W2.cell? ⟨H + 1, 10, none⟩ = some (.slice a4 r.pos.length c4) := hRB2.cell (j := 10) rfl
                     have m11 : W2.cell? ⟨H + 1, 11, none⟩ = some (.int .i64 r.wk) := hRB2.cell (j := 11) rfl
                     have HW2 := Lib.hid (And.intro hZ2 hb2)
                     clear hZ2 hb2 hRB2)
        obtain ⟨hRB, hRw, hZ, hE, hB, hK, hS, hU⟩ := HALL.out
        obtain ⟨hZ2, hb2⟩ := HW2.out
        have hRw2 := (hRw.below hb2).put12 (g := H) (by omega) (.int .i64 r.freq) (.int .i64 r.intv) (.int .i64 r.cnt) (.bool r.has) (.int .i64 r.unt.secs) (.bool r.unt.utc) (.bool r.unt.date) (.slice a1 r.mon.length c1) (.slice a2 r.md.length c2) (.slice a3 r.dys.length c3) (.slice a4 r.pos.length c4) (.int .i64 r.wk)
        have hq : RVar (put12 W2 H (.int .i64 r.freq) (.int .i64 r.intv) (.int .i64 r.cnt) (.bool r.has) (.int .i64 r.unt.secs) (.bool r.unt.utc) (.bool r.unt.date) (.slice a1 r.mon.length c1) (.slice a2 r.md.length c2) (.slice a3 r.dys.length c3) (.slice a4 r.pos.length c4) (.int .i64 r.wk)) H r (.slice a1 r.mon.length c1) (.slice a2 r.md.length c2) (.slice a3 r.dys.length c3) (.slice a4 r.pos.length c4) := heap_put12 hZ2
        have hkk : (put12 W2 H (.int .i64 r.freq) (.int .i64 r.intv) (.int .i64 r.cnt) (.bool r.has) (.int .i64 r.unt.secs) (.bool r.unt.utc) (.bool r.unt.date) (.slice a1 r.mon.length c1) (.slice a2 r.md.length c2) (.slice a3 r.dys.length c3) (.slice a4 r.pos.length c4) (.int .i64 r.wk)).heap[D]? = some (.deferred (some [])) := (put12_other (by omega) (.int .i64 r.freq) (.int .i64 r.intv) (.int .i64 r.cnt) (.bool r.has) (.int .i64 r.unt.secs) (.bool r.unt.utc) (.bool r.unt.date) (.slice a1 r.mon.length c1) (.slice a2 r.md.length c2) (.slice a3 r.dys.length c3) (.slice a4 r.pos.length c4) (.int .i64 r.wk)).trans ((hb2.block D hdw).trans hK)
        try rw [Exit.noGoto_ret]
        refine ⟨by simp, .inl ⟨_, _, rfl, run_takeDeferred hkk, ?_⟩⟩
        have hq2 : RVar ((put12 W2 H (.int .i64 r.freq) (.int .i64 r.intv) (.int .i64 r.cnt) (.bool r.has) (.int .i64 r.unt.secs) (.bool r.unt.utc) (.bool r.unt.date) (.slice a1 r.mon.length c1) (.slice a2 r.md.length c2) (.slice a3 r.dys.length c3) (.slice a4 r.pos.length c4) (.int .i64 r.wk)).putObj D (.deferred none)) H r (.slice a1 r.mon.length c1) (.slice a2 r.md.length c2) (.slice a3 r.dys.length c3) (.slice a4 r.pos.length c4) := (World.putObj_heap_other (by omega)).trans hq
        refine ⟨_, results_cell2 rfl _ rfl rfl (load_ru hq2), ?_⟩
        refine ⟨_, _, _, _, by rw [HF2.out]; rfl, ?_, ?_⟩
        · rw [HF2.out]
          exact RuS.putObj ⟨Sl.of_own hRw2.o1, Sl.of_own hRw2.o2, Sl.of_own hRw2.o3, Sl.of_own hRw2.o4, hS.l1, hS.l2, hS.l3, hS.l4⟩ hkk rfl
        · rw [hH]
          exact ((hB.trans (hb2.mono (by omega))).trans (below_put12 (Nat.le_refl _) (.int .i64 r.freq) (.int .i64 r.intv) (.int .i64 r.cnt) (.bool r.has) (.int .i64 r.unt.secs) (.bool r.unt.utc) (.bool r.unt.date) (.slice a1 r.mon.length c1) (.slice a2 r.md.length c2) (.slice a3 r.dys.length c3) (.slice a4 r.pos.length c4) (.int .i64 r.wk))).trans (belowV_put (z := H) (Nat.le_refl _) (by omega) _ _ _ hkk rfl)
  case stop =>
    rintro D c pre W hD hSp ⟨rfl, e, hrun, hZ, hE, hB, hsz⟩ hK
    have he0 : e ≠ 0 := run_err _ _ _ _ hrun
    have heb : (e != 0) = true := by simpa using he0
    have HF2 : Hid (parV s.data.toList = (RuV.zero, e)) := Lib.hid (by
      obtain ⟨rest, hrest⟩ := hSp
      rw [HPV.out, ← hpcs, ← hrest, runV_pre _ _ _ _ _ hrun]
      rfl)
    have hD6 : X + 3 ≤ D := by omega
    have c2e := hE.cell
    have hdw : D < W.heap.size := (Array.getElem?_eq_some_iff.1 hK).1
    have hmo : Tryz.prog.follows .mixedOrders = true := by kernel_rfl
    have frH : ∀ k, W.frozen? ⟨H, k, none⟩ = false := fun k => by
      unfold RVar at hZ
      simp [World.frozen?, hZ]
    have z0 : W.cell? ⟨H, 0, none⟩ = some (.int .i64 0) := cell_of hZ rfl
    have z1 : W.cell? ⟨H, 1, none⟩ = some (.int .i64 0) := cell_of hZ rfl
    have z2 : W.cell? ⟨H, 2, none⟩ = some (.int .i64 0) := cell_of hZ rfl
    have z3 : W.cell? ⟨H, 3, none⟩ = some (.bool false) := cell_of hZ rfl
    have z4 : W.cell? ⟨H, 4, none⟩ = some (.int .i64 0) := cell_of hZ rfl
    have z5 : W.cell? ⟨H, 5, none⟩ = some (.bool false) := cell_of hZ rfl
    have z6 : W.cell? ⟨H, 6, none⟩ = some (.bool false) := cell_of hZ rfl
    have z7 : W.cell? ⟨H, 7, none⟩ = some (.slice none 0 0) := cell_of hZ rfl
    have z8 : W.cell? ⟨H, 8, none⟩ = some (.slice none 0 0) := cell_of hZ rfl
    have z9 : W.cell? ⟨H, 9, none⟩ = some (.slice none 0 0) := cell_of hZ rfl
    have z10 : W.cell? ⟨H, 10, none⟩ = some (.slice none 0 0) := cell_of hZ rfl
    have z11 : W.cell? ⟨H, 11, none⟩ = some (.int .i64 0) := cell_of hZ rfl
    have HALL := Lib.hid (And.intro hZ (And.intro hE (And.intro hB hK)))
    clear hZ hE hB hK hrun hSp he0 b3 b4 b5 x0 x1 x2 hb6
    refine wpIn_wide.2 (wp_exit ?_)
    go_wp2
    refine wp_normal ?_
    refine wp_region_till (fun w' => w'.cell? ⟨H + 2, 0, none⟩ = some (.int .i64 e)) 3 4 hmo (by kernel_rfl) ?_
    have HS : W.drew.cell? ⟨H + 2, 0, none⟩ = some (.int .i64 e) := c2e
    refine till_take (i := 0) _ (.agg #[.int .i64 0, .int .i64 0, .int .i64 0, .bool false, .int .i64 0, .bool false, .bool false, .slice none 0 0, .slice none 0 0, .slice none 0 0, .slice none 0 0, .int .i64 0]) [0] rfl (by kernel_rfl) (by kernel_rfl) (by kernel_rfl) (by kernel_rfl) (fun _ _ _ h => by cases h.1) (.inl ⟨by rfl, fun w' hS => ?_⟩) HS ?_
    · go_simp
    try simp only [Act.put, List.setIfInBounds_toArray]
    refine till_take (i := 1) _ (.int .i64 e) [1] rfl (by kernel_rfl) (by kernel_rfl) (by kernel_rfl) (by kernel_rfl) (fun _ _ _ h => by cases h.1) (.inl ⟨by rfl, fun w' hS => ?_⟩) HS ?_
    · go_simp
    try simp only [Act.put]
    refine till_one (i := 2) _ (by kernel_rfl) rfl rfl (fun K0 hK0 => ?_)
    go_simp
    refine hK0.out _ _ (fun _ _ => ?_) ?_
    · go_simp
    try simp only [Act.put, List.setIfInBounds_toArray, List.set_cons_zero, List.set_cons_succ]
    clear hK0 K0
    refine till_one (i := 3) _ (by kernel_rfl) rfl rfl (fun K0 hK0 => ?_)
    go_simp
    refine hK0.out _ _ (fun h _ => absurd rfl h) ?_
    try simp only [Act.put, List.setIfInBounds_toArray, List.set_cons_zero, List.set_cons_succ]
    clear hK0 K0
    refine till_done (by kernel_rfl) ⟨rfl, ?_⟩
    go_wp2
    obtain ⟨hZ, hE, hB, hK⟩ := HALL.out
    have hq : RVar (put12 W H (.int .i64 0) (.int .i64 0) (.int .i64 0) (.bool false) (.int .i64 0) (.bool false) (.bool false) (.slice none 0 0) (.slice none 0 0) (.slice none 0 0) (.slice none 0 0) (.int .i64 0)).drew H RuV.zero (.slice none 0 0) (.slice none 0 0) (.slice none 0 0) (.slice none 0 0) := RVar.drew (heap_put12 hZ)
    have hkk : (put12 W H (.int .i64 0) (.int .i64 0) (.int .i64 0) (.bool false) (.int .i64 0) (.bool false) (.bool false) (.slice none 0 0) (.slice none 0 0) (.slice none 0 0) (.slice none 0 0) (.int .i64 0)).drew.heap[D]? = some (.deferred (some [])) := heap_drew ((put12_other (by omega) (.int .i64 0) (.int .i64 0) (.int .i64 0) (.bool false) (.int .i64 0) (.bool false) (.bool false) (.slice none 0 0) (.slice none 0 0) (.slice none 0 0) (.slice none 0 0) (.int .i64 0)).trans hK)
    try rw [Exit.noGoto_ret]
    refine ⟨by simp, .inl ⟨_, _, rfl, run_takeDeferred hkk, ?_⟩⟩
    have hq2 : RVar ((put12 W H (.int .i64 0) (.int .i64 0) (.int .i64 0) (.bool false) (.int .i64 0) (.bool false) (.bool false) (.slice none 0 0) (.slice none 0 0) (.slice none 0 0) (.slice none 0 0) (.int .i64 0)).drew.putObj D (.deferred none)) H RuV.zero (.slice none 0 0) (.slice none 0 0) (.slice none 0 0) (.slice none 0 0) := (World.putObj_heap_other (by omega)).trans hq
    refine ⟨_, results_cell2 rfl _ rfl rfl (load_ru hq2), ?_⟩
    refine ⟨_, _, _, _, by rw [HF2.out]; rfl, ?_, ?_⟩
    · rw [HF2.out]
      exact RuS.zero _
    · rw [hH]
      exact ((hB.trans (below_put12 (Nat.le_refl _) (.int .i64 0) (.int .i64 0) (.int .i64 0) (.bool false) (.int .i64 0) (.bool false) (.bool false) (.slice none 0 0) (.slice none 0 0) (.slice none 0 0) (.slice none 0 0) (.int .i64 0))).drew).trans (belowV_put (z := H) (Nat.le_refl _) (by omega) _ _ _ hkk rfl)
end Go.Proofs.YtnidkcedomhofaaGreatDoor
