/-
  A row of the call's own, cut: what is ahead of the cut stays, one number is appended to what is behind it.
-/
import Derived.Test.YtpdfkakhahfcjaaGreatG16
import Derived.Deep.AppendSrc
import Derived.Test.YtpdfkakhahfcjaaGreatG09
import Derived.Test.YtpdfkakhahfcjaaGreatG13
import Derived.DeepKeys
namespace Go.Proofs.YtpdfkakhahfcjaaGreat
open Go.RowKit

/-- A row of the call's own. -/
def ownV (base : Nat) (l : List Nat) : Value → World → Prop := fun v w => ∃ A c, v = .slice A l.length c ∧ w.ownsRow base 3 1 (.slice A l.length c) l.length (encN l)
theorem ownV_out {base : Nat} {l : List Nat} {v : Value} {w : World} (h : ownV base l v w) : ∃ x : Option Addr × Nat, v = .slice x.1 l.length x.2 ∧ w.ownsRow base 3 1 (.slice x.1 l.length x.2) l.length (encN l) := by
  obtain ⟨A, c, h⟩ := h
  exact ⟨(A, c), h⟩
theorem ownV.step {base : Nat} {l : List Nat} {v : Value} {w w' : World} (h : ownV base l v w) (hb : Below w.heap.size w w') : ownV base l v w' := by
  obtain ⟨A, c, e, h⟩ := h
  exact ⟨A, c, e, own_below h hb⟩
/-- Where what is behind the cut lies. -/
def restA (A : Option Addr) (q c : Nat) : Option Addr := match A with
  | none => none
  | some a => if c = q then some a else some { a with off := a.off + q }
theorem own_nil_or {w : World} {base : Nat} {A : Option Addr} {n c : Nat} {l : List Nat} (h : w.ownsRow base 3 1 (.slice A n c) n (encN l)) : (A = none ∧ c = 0 ∧ n = 0) ∨ ∃ b, A = some ⟨b, 0, none⟩ := by
  rcases h.2 with h0 | ⟨g, cap, cur, e, _⟩
  · left
    obtain ⟨e, h1⟩ := h0
    injection e with e1 e2 e3
    exact ⟨e1, e3, e2⟩
  · right
    injection e with e1
    exact ⟨g, e1⟩
theorem own_le {w : World} {base : Nat} {A : Option Addr} {n c : Nat} {l : List Nat} (h : w.ownsRow base 3 1 (.slice A n c) n (encN l)) : n ≤ c := by
  obtain ⟨_, _, e, h1, _⟩ := own_slice h
  injection e with _ _ e3
  omega
/-- The row's block, if it has one. -/
theorem own_block {w : World} {base b n c : Nat} {l : List Nat} (h : w.ownsRow base 3 1 (.slice (some ⟨b, 0, none⟩) n c) n (encN l)) : base ≤ b ∧ b < w.heap.size ∧ ∃ cur, w.heap[b]? = some (.cells cur 3 (0, 0)) ∧ cur.size = c ∧ cur.toList.take n = encN l ∧ c ≤ maxLen := by
  rcases h.2 with ⟨e, _⟩ | ⟨g, cap, cur, e, hb, hg, _, hm, hs, ht⟩
  · simp at e
  · injection e with e1 _ e3
    injection e1 with e1
    injection e1 with e1
    subst e1; subst e3
    refine ⟨hb, (Array.getElem?_eq_some_iff.1 hg).1, cur, hg, by omega, by rw [Nat.mul_one] at ht; exact ht, hm⟩
/-- The numbers ahead of the cut. -/
theorem reads_take {w : World} {B n q : Nat} {A : Option Addr} {l : List Nat} (h : Reads w B 1 A n (encN l)) (hq : q ≤ n) : Reads w B 1 A q (encN (l.take q)) := by
  have hl := h.lenN
  refine ⟨by rw [encN_length, List.length_take]; omega, fun h0 => ?_⟩
  obtain ⟨b, o, e, hb, hc⟩ := h.2 (by omega)
  refine ⟨b, o, e, hb, fun j u hu => hc j u ?_⟩
  have hj : j < q := by have := (List.getElem?_eq_some_iff.1 hu).1; rw [encN_length, List.length_take] at this; omega
  rw [encN_get (by rw [List.length_take]; omega)] at hu
  rw [encN_get (by omega), ← hu, List.getD_eq_getElem?_getD, List.getD_eq_getElem?_getD, List.getElem?_take, if_pos hj]
/-- The numbers behind it. -/
theorem reads_rest {w : World} {base q L c : Nat} {A : Option Addr} {l : List Nat} (h : w.ownsRow base 3 1 (.slice A L c) L (encN l)) (hq : q ≤ L) : Reads w w.heap.size 1 (restA A q c) (L - q) (encN (l.drop q)) := by
  have hl := (Reads.of_own h).lenN
  refine ⟨by rw [encN_length, List.length_drop]; omega, fun h0 => ?_⟩
  obtain ⟨b, o, rfl, hb, hc⟩ := (Reads.of_own h).2 (by omega)
  have hle := own_le h
  refine ⟨b, o + q, by simp only [restA]; rw [if_neg (by omega)], hb, fun j u hu => ?_⟩
  have hj : j < L - q := by have := (List.getElem?_eq_some_iff.1 hu).1; rw [encN_length, List.length_drop] at this; omega
  rw [Nat.add_assoc]
  refine hc (q + j) u ?_
  rw [encN_get (by rw [List.length_drop]; omega)] at hu
  rw [encN_get (by omega), ← hu, List.getD_eq_getElem?_getD, List.getD_eq_getElem?_getD, List.getElem?_drop]
set_option maxRecDepth 100000 in
/-- One number appended to what is behind the cut. -/
theorem append_rest (ty : TypeId) {w : World} {base q L c x : Nat} {A : Option Addr} {l : List Nat} (h : w.ownsRow base 3 1 (.slice A L c) L (encN l)) (hq : q ≤ L) (hL : L ≤ 1000) (hbase : base ≤ w.heap.size)
    (ad : Addr) (cc : Nat) (hx : w.cell? ad = some (.int .i64 (x : Int))) (hspot : ad.spot = none) :
    ∃ A' c' w', (Builtin.append_ #[49, 49] ty #[.slice (restA A q c) (L - q) (c - q), .slice (some ad) 1 cc]).run Tryz.prog w = .ok (.slice A' (L - q + 1) c') w' ∧ Below base w w' ∧ L - q + 1 ≤ c' ∧
      Reads w' w'.heap.size 1 A' (L - q + 1) (encN (l.drop q ++ [x])) ∧ Reads w' w'.heap.size 1 A q (encN (l.take q)) ∧ (∀ k, k < w.heap.size → (∀ b, A = some ⟨b, 0, none⟩ → k ≠ b) → w'.heap[k]? = w.heap[k]?) := by
  obtain ⟨i0, hi0, hz0, hz1, hz2⟩ := info_parts infoI
  have hl := (Reads.of_own h).lenN
  have hle := own_le h
  have hst := reads_take (Reads.of_own h) hq
  have hrs := reads_rest h hq
  have hxs : ∀ W : World, W.cell? ad = some (.int .i64 (x : Int)) → Src Tryz.prog i0.size 49 (.slice (some ad) 1 cc) 1 [.int .i64 (x : Int)] W := fun W hW =>
    Src.ofSlice W Tryz.underlying49 ad 1 cc _ (by rw [hz1]; rfl) (fun j u hu => by
      cases j with
      | zero =>
        have hu : Value.int .i64 (x : Int) = u := by simpa using hu
        rw [← hu, ← hW]
        cases ad
        simp only at hspot
        subst hspot
        rw [Go.WideShapes.add_plain]; rfl
      | succ j => simp at hu) (by simp [Value.oneCell'])
  by_cases hroom : L < c
  · obtain ⟨b, rfl⟩ : ∃ b, A = some ⟨b, 0, none⟩ := by
      rcases own_nil_or h with ⟨_, h2, _⟩ | h1
      · omega
      · exact h1
    obtain ⟨hb1, hb2, cur, hcur, hcs, hct, hcm⟩ := own_block h
    have e1 : restA (some (⟨b, 0, none⟩ : Addr)) q c = some ⟨b, q, none⟩ := by
      simp only [restA]; rw [if_neg (by omega), Nat.zero_add]
    have hcell : ∀ j, w.cell? ⟨b, j, none⟩ = cur[j]? := fun j => by simp [World.cell?, hcur]
    have hrun := run_append_room_src (P := Tryz.prog) w 49 49 ty 3 i0 Tryz.underlying49 hi0 b q (L - q) (c - q) (.slice (some ad) 1 cc) 1 [.int .i64 (x : Int)] (hxs w hx) (by omega)
      (fun j hj => by
        have hj : j = 0 := by simpa using hj
        subst hj
        rw [hcell, hz1, Array.getElem?_eq_getElem (by omega)]; rfl) (fun j _ => by simp [World.frozen?, hcur])
    rw [e1]
    rw [e1] at hrs
    refine ⟨_, _, _, hrun, ?_, by omega, ?_, ?_, ?_⟩
    · simp only [World.setCells]
      exact (Below.refl _ _).setCell (p := ⟨b, _, none⟩) hb1 _
    · simp only [World.setCells, hz1]
      rw [show q + (L - q) * 1 = L by omega]
      have hsz : (w.setCell ⟨b, L, none⟩ (.int .i64 (x : Int))).heap.size = w.heap.size := by simp [World.setCell]
      refine ⟨by rw [encN_length, List.length_append, List.length_drop]; simp; omega, fun _ => ⟨b, q, rfl, by rw [hsz]; exact hb2, fun j u hu => ?_⟩⟩
      have hj : j < L - q + 1 := by have := (List.getElem?_eq_some_iff.1 hu).1; rw [encN_length, List.length_append, List.length_drop] at this; simp at this; omega
      by_cases hjl : j = L - q
      · subst hjl
        rw [show q + (L - q) = L by omega]
        rw [encN_app, List.getElem?_append_right (by rw [encN_length, List.length_drop]; omega), encN_length, List.length_drop, show L - q - (l.length - q) = 0 by omega] at hu
        have hu : Value.int .i64 (x : Int) = u := by simpa [encN] using hu
        rw [← hu]
        simp [World.cell?, World.setCell, Array.getElem?_modify, hcur, hcs, hroom]
      · have hu2 : (encN (l.drop q))[j]? = some u := by
          rw [encN_app, List.getElem?_append_left (by rw [encN_length, List.length_drop]; omega)] at hu
          exact hu
        obtain ⟨b', o', e', _, hc⟩ := hrs.2 (by omega)
        injection e' with e'
        injection e' with e1 e2
        subst e1; subst e2
        have := hc j u hu2
        rw [← this]
        simp [World.cell?, World.setCell, Array.getElem?_modify, hcur, show ¬ L = q + j by omega]
    · simp only [World.setCells, hz1]
      rw [show q + (L - q) * 1 = L by omega]
      refine ⟨hst.1, fun h0 => ?_⟩
      obtain ⟨b', o', e', hb', hc⟩ := hst.2 h0
      have e' := e'
      injection e' with e'
      injection e' with e1 e2
      subst e1; subst e2
      refine ⟨b, 0, rfl, by simpa [World.setCell] using hb', fun j u hu => ?_⟩
      have hj : j < q := by have := (List.getElem?_eq_some_iff.1 hu).1; rw [encN_length, List.length_take] at this; omega
      have := hc j u hu
      rw [← this]
      simp [World.cell?, World.setCell, Array.getElem?_modify, hcur, show ¬ L = j by omega]
    · intro k _ hk
      simp only [World.setCells]
      exact Below.heap_setCell _ _ _ _ (hk b rfl)
  · have hLc : L = c := by omega
    have hold : Src Tryz.prog i0.size 49 (.slice (restA A q c) (L - q) (c - q)) (L - q) (encN (l.drop q)) w := by
      rcases own_nil_or h with ⟨rfl, h2, h3⟩ | ⟨b, rfl⟩
      · subst h3
        obtain rfl : q = 0 := by omega
        rw [show encN (l.drop 0) = [] by rw [List.drop_zero]; exact List.eq_nil_of_length_eq_zero (by rw [encN_length]; omega)]
        exact Src.ofNil w Tryz.underlying49 _
      · have e1 : ∃ a : Addr, restA (some (⟨b, 0, none⟩ : Addr)) q c = some a := by
          simp only [restA]; split <;> exact ⟨_, rfl⟩
        obtain ⟨a, e1⟩ := e1
        rw [e1] at hrs ⊢
        refine Src.ofSlice w Tryz.underlying49 a (L - q) (c - q) _ (by rw [hz1]; exact hrs.1) (fun j u hu => ?_) (encN_one _)
        have hj := (List.getElem?_eq_some_iff.1 hu).1
        rw [encN_length, List.length_drop] at hj
        obtain ⟨b', o', e', _, hc⟩ := hrs.2 (by omega)
        injection e' with e'
        subst e'
        rw [Go.WideShapes.add_plain]
        exact hc j u hu
    have hg : c - q < L - q + 1 := by omega
    have hrun := run_append_grow_src (P := Tryz.prog) w 49 49 ty 3 i0 (.int .i64 0) Tryz.underlying49 hi0 hz0 (restA A q c) (L - q) (c - q) _ hold.cellsD (.slice (some ad) 1 cc) 1 [.int .i64 (x : Int)] (hxs w hx) hg (by omega)
      (growslice_fits hg (by rw [hz2]; omega))
    have hge := grownCap_ge w (L - q + 1) (c - q) 3
    have hb : Below w.heap.size w (w.drew.alloc (.cells ((encN (l.drop q) ++ [Value.int .i64 (x : Int)]).toArray ++ Builtin.zeroCells (Value.int .i64 0).cells (grownCap w (L - q + 1) (c - q) 3 - (L - q + 1))) 3)) := ((Below.refl _ w).drew).alloc (Nat.le_refl _) _
    refine ⟨_, _, _, hrun, hb.mono hbase, by omega, ?_, (hst.step hb), fun k hk _ => hb.block k hk⟩
    refine ⟨by rw [encN_length, List.length_append, List.length_drop]; simp; omega, fun _ => ⟨w.heap.size, 0, rfl, by simp, fun j u hu => ?_⟩⟩
    rw [Nat.zero_add]
    have e1 : (w.drew.alloc (.cells ((encN (l.drop q) ++ [Value.int .i64 (x : Int)]).toArray ++ Builtin.zeroCells (Value.int .i64 0).cells (grownCap w (L - q + 1) (c - q) 3 - (L - q + 1))) 3)).cell? ⟨w.heap.size, j, none⟩ = _ := World.cell?_alloc_new w.drew _ _ j
    have hj := (List.getElem?_eq_some_iff.1 hu).1
    rw [encN_app] at hu hj
    rw [e1, Array.getElem?_append_left (by simpa [encN] using hj)]
    simpa [encN] using hu

theorem wpList_append_rest (w : World) {ops : Array Oper} {rest : List Oper} {o : Oper} {a : Act} {Q : Exit → Act → World → Prop} (hgd : o.guard = none) (s x : Operand)
    (ho : o.op = .call { callee := .builtin .append, args := #[s, x], argTypes := #[49, 49] })
    {base q L c xv : Nat} {A : Option Addr} {l : List Nat} (h : w.ownsRow base 3 1 (.slice A L c) L (encN l)) (hq : q ≤ L) (hL : L ≤ 1000) (hbase : base ≤ w.heap.size)
    (ad : Addr) (cc : Nat) (hx : w.cell? ad = some (.int .i64 (xv : Int))) (hspot : ad.spot = none) (hs : a.eval s = .slice (restA A q c) (L - q) (c - q)) (hv : a.eval x = .slice (some ad) 1 cc)
    (hK : ∀ A' c' w', Below base w w' → L - q + 1 ≤ c' → Reads w' w'.heap.size 1 A' (L - q + 1) (encN (l.drop q ++ [xv])) → Reads w' w'.heap.size 1 A q (encN (l.take q)) →
      (∀ k, k < w.heap.size → (∀ b, A = some ⟨b, 0, none⟩ → k ≠ b) → w'.heap[k]? = w.heap[k]?) → wpList Tryz.prog ops Q rest (a.put o.dst (.slice A' (L - q + 1) c')) w') : wpList Tryz.prog ops Q (o :: rest) a w := by
  refine wpList_plain hgd fun K hKK => ?_
  obtain ⟨A', c', w', hrun, h1, h2, h3, h4, h5⟩ := append_rest o.type h hq hL hbase ad cc hx hspot
  unfold Oper.wp execOp
  simp only [ho, resolve, invoke, builtin, Sem.run_bind, Sem.run_pure, Result.andThen_ok, List.map_toArray, List.map_cons, List.map_nil, hs, hv, hrun]
  exact hKK _ _ (hK A' c' w' h1 h2 h3 h4 h5)
theorem cell_new1 (w : World) (u : Value) (e : TypeId) : (w.alloc (.cells #[u] e)).cell? ⟨w.heap.size, 0, none⟩ = some u := cell_of_row (w.alloc (.cells #[u] e)) w.heap.size 0 #[u] e (0, 0) (heap_alloc_new w _)
/-- A walk stands still at what bears this name. -/
def StopHere (p : Prop) : Prop := p
theorem StopHere.mk {p : Prop} (h : StopHere p) : p := h
theorem But.cell {g b o : Nat} {w w' : World} (h : But g w w') (hb : b < w.heap.size) (hne : b ≠ g) : w'.cell? ⟨b, o, none⟩ = w.cell? ⟨b, o, none⟩ := by
  simp [World.cell?, h.block b hb hne]

end Go.Proofs.YtpdfkakhahfcjaaGreat

/-
  The law for drawn regions with guards, and with relations that hold only till another operation is carried out.
-/
namespace Go.Proofs.YtpdfkakhahfcjaaGreat

section
variable {P : Program} {ops : Array Oper} {Q : Exit → Act → World → Prop}
/-- A guarded operation: carried out if its guard wants it, else its slot stays undefined. -/
def GivesG (P : Program) (ops : Array Oper) (o : Oper) (a : Act) (w : World) (T : Value → World → Prop) : Prop :=
  match o.guard with
  | none => Gives P o a w T
  | some (g, want) => if yielded ops a.tmps g = some want then Gives P o a w T else T undef w
/-- Its operands that the region writes are those of operations that it waits for; no guard; each slot is written once. -/
def relOk3 (ops : Array Oper) (n : Nat) : Bool := (List.range ops.size).all fun i => match ops[i]? with
  | none => true
  | some o => o.after.all (fun e => !Region.binds .any e || decide (e.on < i)) && (match o.guard with | none => true | some (g, _) => (o.after.any fun e => decide (e.on = g) && Region.binds .any e) && ((ops[g]?).bind (·.dst)).isSome) && !Oper.isSel o && (match o.dst with | none => true | some d => decide (d < n)) && (List.range ops.size).all fun j => match ops[j]? with
    | none => true
    | some oj => match oj.dst with
      | none => true
      | some t => (decide (j = i) || decide (o.dst ≠ some t)) && (!(Oper.reads o).contains t || o.after.any fun e => decide (e.on = j) && Region.binds .any e)
theorem relOk3_spec {n : Nat} (h : relOk3 ops n = true) {i : Nat} {o : Oper} (hi : ops[i]? = some o) : (∀ e ∈ o.after, Region.binds .any e = true → e.on < i) ∧ (∀ g want, o.guard = some (g, want) → (∃ e ∈ o.after, e.on = g ∧ Region.binds .any e = true) ∧ ∃ og t, ops[g]? = some og ∧ og.dst = some t) ∧ (∀ cs b, o.op ≠ .select cs b) ∧ (∀ d, o.dst = some d → d < n) ∧
    ∀ j oj t, ops[j]? = some oj → oj.dst = some t → (j ≠ i → o.dst ≠ some t) ∧ (t ∈ Oper.reads o → ∃ e ∈ o.after, e.on = j ∧ Region.binds .any e = true) := by
  have hlt : i < ops.size := (Array.getElem?_eq_some_iff.1 hi).1
  have h1 := List.all_eq_true.1 h i (List.mem_range.2 hlt)
  simp only [hi, Bool.and_eq_true] at h1
  obtain ⟨⟨⟨⟨ha, hg⟩, hs⟩, hd⟩, hall⟩ := h1
  refine ⟨fun e he hb => by have h := Array.all_eq_true_iff_forall_mem.1 ha e he; rw [hb] at h; simpa using h, fun g want e => by
    simp only [e, Bool.and_eq_true, Array.any_eq_true, decide_eq_true_eq] at hg
    obtain ⟨⟨k, hk, hon, hb⟩, hs⟩ := hg
    refine ⟨⟨_, Array.getElem_mem hk, hon, hb⟩, ?_⟩
    cases hog : ops[g]? with
    | none => simp [hog] at hs
    | some og =>
      simp only [hog, Option.bind_some] at hs
      obtain ⟨t, ht⟩ := Option.isSome_iff_exists.1 hs
      exact ⟨og, t, rfl, ht⟩, fun cs b e => by simp [Oper.isSel, e] at hs, fun d e => by simpa [e] using hd, fun j oj t hj ht => ?_⟩
  have hjlt : j < ops.size := (Array.getElem?_eq_some_iff.1 hj).1
  have h2 := List.all_eq_true.1 hall j (List.mem_range.2 hjlt)
  simp only [hj, ht, Bool.and_eq_true, Bool.or_eq_true, decide_eq_true_eq, Bool.not_eq_true', Array.any_eq_true] at h2
  refine ⟨fun hne => h2.1.resolve_left hne, fun hm => ?_⟩
  rcases h2.2 with hc | ⟨k, hk, hon, hb⟩
  · have : (Oper.reads o).contains t = true := by simpa using hm
    rw [this] at hc; cases hc
  · exact ⟨_, Array.getElem_mem hk, hon, hb⟩

/-- THE LAW. C: what every world of the region meets, by what has been carried out; St i: what operation i may do to the world; R i: what i's value and the world meet from i on. -/
theorem wp_region_rel3 (C : (Nat → Bool) → World → Prop) (St : Nat → World → World → Prop) (R : Nat → (Nat → Bool) → Value → World → Prop) {id : Nat} {a0 : Act} {w : World} (hm : P.follows .mixedOrders = true) (hok : relOk3 ops a0.tmps.size = true) (hC0 : C (fun _ => false) w.drew)
    (hC : ∀ i L w w', L i = false → C L w → St i w w' → C (fun j => if j = i then true else L j) w') (hR : ∀ i j L v w w', i ≠ j → L j = true → L i = false → St i w w' → R j L v w → R j (fun k => if k = i then true else L k) v w')
    (hops : RelL (fun i o => ∀ (V : Nat → Value) (L : Nat → Bool) (w : World), L i = false → C L w → AllL (fun j => L j = true ∧ R j L (V j) w) (waitsL o.after.toList) →
      GivesG P ops o (laidL V ops.toList 0 a0) w (fun v w' => St i w w' ∧ R i (fun k => if k = i then true else L k) v w')) ops.toList 0)
    (hend : ∀ (V : Nat → Value) (L : Nat → Bool) (w : World), (∀ i, i < ops.size → L i = true) → C L w → (∀ i, i < ops.size → R i L (V i) w) → Q .normal (laidL V ops.toList 0 a0) w) : (Code.region id ops true).wp P Q a0 w := by
  refine wp_region_any hm ?_
  have key : ∀ (f : Nat) (listed : Array Bool) (a : Act) (w : World), listed.size = ops.size → (listed.toList.filter (! ·)).length ≤ f →
      (∃ V : Nat → Value, a.defers = a0.defers ∧ a.tmps.size = a0.tmps.size ∧ (∀ i o d, ops[i]? = some o → o.dst = some d → listed.getD i false = true → a.tmps[d]? = some (V i)) ∧
        (∀ t, (∀ i o, ops[i]? = some o → listed.getD i false = true → o.dst ≠ some t) → a.tmps[t]? = a0.tmps[t]?) ∧ C (fun j => listed.getD j false) w ∧ ∀ i, listed.getD i false = true → R i (fun j => listed.getD j false) (V i) w) → wpAny P .any ops Q f listed a w := by
    intro f
    induction f with
    | zero =>
      intro listed a w hsz hf ⟨V, hdef, hsza, hin, hout, hCw, hRw⟩
      have hall : ∀ i, i < ops.size → listed.getD i false = true := fun i hi => by
        have hnil : listed.toList.filter (! ·) = [] := List.eq_nil_of_length_eq_zero (by omega)
        rw [List.filter_eq_nil_iff] at hnil
        have hi' : i < listed.size := by omega
        have := hnil listed[i] (by simp)
        simpa [Array.getD, hi'] using this
      have hready : Region.ready .any ops listed = [] := by
        rw [List.eq_nil_iff_forall_not_mem]
        intro j hj
        obtain ⟨h1, oj, hoj, _⟩ := mem_ready.1 hj
        have hjlt : j < ops.size := (Array.getElem?_eq_some_iff.1 hoj).1
        have := hall j hjlt
        simp [Array.getD, show j < listed.size by omega] at this h1
        rw [this] at h1; cases h1
      refine ⟨hready, ?_⟩
      have hend' := hend V _ w hall hCw (fun i hi => hRw i (hall i hi))
      have e : a = laidL V ops.toList 0 a0 := by
        have h1 : a.tmps = (laidL V ops.toList 0 a0).tmps := Array.ext_getElem? fun t => by
          by_cases ht : ∃ (i : Nat) (o : Oper), ops[i]? = some o ∧ o.dst = some t
          · obtain ⟨i, o, hi, hd⟩ := ht
            have hlt : i < ops.size := (Array.getElem?_eq_some_iff.1 hi).1
            rw [hin i o t hi hd (hall i hlt), laidL_in V t ops.toList 0 a0 i o (by simpa using hi) hd ((relOk3_spec hok hi).2.2.2.1 t hd) (fun j o' hj hji => by
              have := ((relOk3_spec hok (i := j) (o := o') (by simpa using hj)).2.2.2.2 i o t hi hd).1
              exact this (Ne.symm hji))]
            rw [Nat.zero_add]
          · rw [hout t (fun i o hi _ hd => ht ⟨i, o, hi, hd⟩), laidL_out V t ops.toList 0 a0 (fun o ho hd => by
              obtain ⟨i, hi⟩ := List.getElem?_of_mem ho
              exact ht ⟨i, o, by simpa using hi, hd⟩)]
        have h2 : a.defers = (laidL V ops.toList 0 a0).defers := by rw [laidL_defers, hdef]
        generalize laidL V ops.toList 0 a0 = b at h1 h2
        cases a; cases b
        simp only at h1 h2
        rw [h1, h2]
      rw [e]
      exact hend'
    | succ f ih =>
      intro listed a w hsz hf ⟨V, hdef, hsza, hin, hout, hCw, hRw⟩
      refine ⟨fun hr => ?_, fun i hi => ?_⟩
      · have hall : ∀ i, i < ops.size → listed.getD i false = true := by
          intro i
          induction i using Nat.strongRecOn with
          | _ i ihi =>
            intro hi
            have ho : ops[i]? = some ops[i] := Array.getElem?_eq_getElem hi
            cases hl : listed.getD i false with
            | true => rfl
            | false =>
              have : i ∈ Region.ready .any ops listed := mem_ready.2 ⟨by simpa [Array.getD, show i < listed.size by omega] using hl, _, ho, fun e he hbd => by
                have hlt := (relOk3_spec hok ho).1 e he hbd
                exact ihi _ hlt (by omega)⟩
              rw [hr] at this
              cases this
        have h0 := ih listed a w hsz (by
          have : listed.toList.filter (! ·) = [] := by
            rw [List.filter_eq_nil_iff]
            intro x hx
            obtain ⟨i, hi, rfl⟩ := List.mem_iff_getElem.1 hx
            have hi' : i < listed.size := by simpa using hi
            have := hall i (by omega)
            simpa [Array.getD, hi'] using this
          rw [this]; simp) ⟨V, hdef, hsza, hin, hout, hCw, hRw⟩
        cases f with
        | zero => exact h0.2
        | succ f => exact h0.1 hr
      · obtain ⟨hun, o, ho, hall⟩ := mem_ready.1 hi
        have hlt : i < ops.size := (Array.getElem?_eq_some_iff.1 ho).1
        obtain ⟨_, hg, hsel, hdn, hdeps⟩ := relOk3_spec hok ho
        have hdep : ∀ j ∈ waitsL o.after.toList, listed.getD j false = true := fun j hj => by
          obtain ⟨e, he, hon, hb⟩ := waitsL_mem hj
          have := hall e (by simpa using he) hb
          rwa [hon] at this
        have hgv := RelL.get hops i o (by simpa using ho) V (fun j => listed.getD j false) w (by simpa [Array.getD, show i < listed.size by omega] using hun) (by simpa using hCw) (AllL.mk fun j hj => ⟨hdep j hj, hRw j (hdep j hj)⟩)
        rw [Nat.zero_add] at hgv
        unfold wpOp
        simp only [ho]
        have hils : i < listed.size := by omega
        have hev : ∀ t, (∀ j oj, ops[j]? = some oj → oj.dst = some t → listed.getD j false = true) → a.tmps[t]? = (laidL V ops.toList 0 a0).tmps[t]? := fun t hdl => by
          by_cases ht : ∃ (j : Nat) (oj : Oper), ops[j]? = some oj ∧ oj.dst = some t
          · obtain ⟨j, oj, hj, hd⟩ := ht
            rw [hin j oj t hj hd (hdl j oj hj hd), laidL_in V t ops.toList 0 a0 j oj (by simpa using hj) hd ((relOk3_spec hok hj).2.2.2.1 t hd) (fun k o' hk hkj => by
              have := ((relOk3_spec hok (i := k) (o := o') (by simpa using hk)).2.2.2.2 j oj t hj hd).1
              exact this (Ne.symm hkj)), Nat.zero_add]
          · rw [hout t (fun k o' hk _ hd => ht ⟨k, o', hk, hd⟩), laidL_out V t ops.toList 0 a0 (fun o' ho' hd => by
              obtain ⟨k, hk⟩ := List.getElem?_of_mem ho'
              exact ht ⟨k, o', by simpa using hk, hd⟩)]
        have hstep : ∀ v w', St i w w' ∧ R i (fun k => if k = i then true else listed.getD k false) v w' → wpAny P .any ops Q f (listed.setIfInBounds i true) (a.put o.dst v) w' := fun v w' hT => by
          have eL : (fun j => (listed.setIfInBounds i true).getD j false) = fun j => if j = i then true else listed.getD j false := funext fun j => by
            by_cases hji : j = i
            · subst hji; rw [if_pos rfl]; simp [Array.getD, hils]
            · rw [getD_set_ne false (Ne.symm hji), if_neg hji]
          refine ih _ _ _ (by simpa using hsz) ?_ ⟨fun k => if k = i then v else V k, by rw [put_defers]; exact hdef, by rw [put_size]; exact hsza, fun j oj d hj hd hl => ?_, fun t ht => ?_, by
            have h := hC i _ w w' (by simpa [Array.getD, show i < listed.size by omega] using hun) hCw hT.1
            have e : (fun j => (listed.setIfInBounds i true).getD j false) = fun j => if j = i then true else listed.getD j false := funext fun j => by
              by_cases hji : j = i
              · subst hji; rw [if_pos rfl]; simp [Array.getD, hils]
              · rw [getD_set_ne false (Ne.symm hji), if_neg hji]
            rw [e]; exact h, fun j hl => ?_⟩
          · have := unlisted_set listed.toList i (by rw [Array.getElem?_toList, Array.getElem?_eq_getElem hils]; simpa [Array.getD, hils] using hun)
            rw [Array.toList_setIfInBounds]; omega
          · by_cases hji : j = i
            · subst hji
              obtain rfl : o = oj := Option.some.inj (ho.symm.trans hj)
              show (a.put o.dst v).tmps[d]? = some (if j = j then v else V j)
              rw [hd, if_pos rfl]
              simp [Act.put, Array.getElem?_setIfInBounds_self_of_lt (show d < a.tmps.size by rw [hsza]; exact hdn d hd)]
            · rw [getD_set_ne false (Ne.symm hji)] at hl
              show (a.put o.dst v).tmps[d]? = some (if j = i then v else V j)
              rw [if_neg hji, ← hin j oj d hj hd hl]
              have hne := (hdeps j oj d hj hd).1 hji
              cases hdo : o.dst with
              | none => rfl
              | some d' =>
                have : d' ≠ d := fun e => hne (by rw [hdo, e])
                simp [Act.put, Array.getElem?_setIfInBounds_ne this]
          · have hne : o.dst ≠ some t := ht i o ho (by simp [Array.getD, hils])
            rw [← hout t (fun k ok hk hl => ht k ok hk (getD_set_true hl))]
            cases hdo : o.dst with
            | none => rfl
            | some d' =>
              have : d' ≠ t := fun e => hne (by rw [hdo, e])
              simp [Act.put, Array.getElem?_setIfInBounds_ne this]
          · by_cases hji : j = i
            · subst hji
              show R j (fun k => (listed.setIfInBounds j true).getD k false) (if j = j then v else V j) w'
              rw [if_pos rfl, eL]; exact hT.2
            · rw [getD_set_ne false (Ne.symm hji)] at hl
              show R j (fun k => (listed.setIfInBounds i true).getD k false) (if j = i then v else V j) w'
              rw [if_neg hji, eL]
              exact hR i j _ _ w w' (Ne.symm hji) hl (by simpa [Array.getD, show i < listed.size by omega] using hun) hT.1 (hRw j hl)
        cases hgd : o.guard with
        | none =>
          have hw : Region.wanted o (yielded ops a.tmps) = true := by simp [Region.wanted, hgd]
          rw [if_pos hw]
          unfold GivesG at hgv
          rw [hgd] at hgv
          exact .inl (Gives.at_ (b := laidL V ops.toList 0 a0) (by rw [laidL_defers]; exact hdef) (fun d hd => by rw [laidL_size]; exact hdn d hd) (execOp_congr o hsel fun x hx => eval_slots fun t e => by
            subst e
            have hread : t ∈ Oper.reads o := List.mem_filterMap.2 ⟨.tmp t, by simpa using hx, rfl⟩
            exact hev t fun j oj hj hd => by
              obtain ⟨e, he, hon, hb⟩ := (hdeps j oj t hj hd).2 hread
              have := hall e he hb
              rwa [hon] at this) hgv hstep)
        | some gw =>
          obtain ⟨g, want⟩ := gw
          obtain ⟨⟨e, he, hon, hb⟩, og, tg, hog, htg⟩ := hg g want hgd
          have hlg : listed.getD g false = true := by have := hall e he hb; rwa [hon] at this
          have hy : yielded ops a.tmps g = yielded ops (laidL V ops.toList 0 a0).tmps g := by
            unfold yielded
            rw [hog]
            simp only [Option.bind_some, htg]
            rw [hev tg fun j oj hj hd => by
              by_cases hjg : j = g
              · subst hjg; exact hlg
              · have := (relOk3_spec hok hj).2.2.2.2 g og tg hog htg
                exact absurd hd (this.1 (Ne.symm hjg))]
          unfold GivesG at hgv
          rw [hgd] at hgv
          dsimp only at hgv
          by_cases hwt : yielded ops (laidL V ops.toList 0 a0).tmps g = some want
          · have hw : Region.wanted o (yielded ops a.tmps) = true := by simp [Region.wanted, hgd, hy, hwt]
            rw [if_pos hw]
            rw [if_pos hwt] at hgv
            exact .inl (Gives.at_ (b := laidL V ops.toList 0 a0) (by rw [laidL_defers]; exact hdef) (fun d hd => by rw [laidL_size]; exact hdn d hd) (execOp_congr o hsel fun x hx => eval_slots fun t e => by
              subst e
              have hread : t ∈ Oper.reads o := List.mem_filterMap.2 ⟨.tmp t, by simpa using hx, rfl⟩
              exact hev t fun j oj hj hd => by
                obtain ⟨e, he, hon, hb⟩ := (hdeps j oj t hj hd).2 hread
                have := hall e he hb
                rwa [hon] at this) hgv hstep)
          · have hw : ¬ Region.wanted o (yielded ops a.tmps) = true := by simp [Region.wanted, hgd, hy, hwt]
            rw [if_neg hw]
            rw [if_neg hwt] at hgv
            exact hstep undef w hgv
  refine key ops.size _ a0 _ (by simp) (by simp) ⟨fun _ => undef, rfl, rfl, fun i o d _ _ hl => ?_, fun t _ => rfl, by
    have e : (fun j => (Array.replicate ops.size false).getD j false) = fun _ => false := funext fun j => by
      rw [Array.getD_eq_getD_getElem?, Array.getElem?_replicate]; split <;> rfl
    rw [e]; exact hC0, fun i hl => ?_⟩
  · rw [Array.getD_eq_getD_getElem?, Array.getElem?_replicate] at hl; split at hl <;> cases hl
  · rw [Array.getD_eq_getD_getElem?, Array.getElem?_replicate] at hl; split at hl <;> cases hl
end

end Go.Proofs.YtpdfkakhahfcjaaGreat

/-
  Two records, held against each other.
-/
namespace Go.Proofs.YtpdfkakhahfcjaaGreat
open Go.RowKit

def litN (k : Nat) : Lit := .int .i64 (k : Int)
theorem litN_wf {k : Nat} (h : k ≤ 9223372036854775807) : (litN k).wf = true := by
  simp only [litN, Lit.wf, Bool.and_eq_true, decide_eq_true_iff]
  exact ⟨by rw [show IntKind.i64.min = -9223372036854775808 by decide]; omega, by rw [show IntKind.i64.max = 9223372036854775807 by decide]; omega⟩
theorem litN_inj {a b : Nat} (h : litN a = litN b) : a = b := by
  simp only [litN, Lit.int.injEq, true_and] at h
  omega
theorem litsN_inj : ∀ {l m : List Nat}, l.map litN = m.map litN → l = m
  | [], [], _ => rfl
  | a :: l, b :: m, h => by
    simp only [List.map_cons, List.cons.injEq] at h
    rw [litN_inj h.1, litsN_inj h.2]
  | [], _ :: _, h => by simp at h
  | _ :: _, [], h => by simp at h

theorem lits_int {P : Program} {t : TypeId} (hu : P.underlying t = some (.int .i64)) (d : Nat) {k : Nat} (hk : k ≤ 9223372036854775807) : P.keyLits (d + 1) t [.int .i64 (k : Int)] = some [litN k] := by
  simp only [Program.keyLits, hu]
  rw [if_pos ⟨trivial, litN_wf hk⟩]
  rfl
theorem mapM_some {α β : Type} (f : α → Option β) (g : α → β) : ∀ l : List α, (∀ a ∈ l, f a = some (g a)) → l.mapM f = some (l.map g)
  | [], _ => rfl
  | a :: l, h => by
    rw [List.mapM_cons, h a (by simp), mapM_some f g l (fun b hb => h b (by simp [hb]))]
    rfl
theorem flat_one {α β : Type} (f : α → β) : ∀ l : List α, (l.map fun a => [f a]).flatten = l.map f
  | [] => rfl
  | a :: l => by rw [List.map_cons, List.flatten_cons, flat_one f l]; rfl
theorem lits_row {P : Program} {t e : TypeId} {n : Nat} (hu : P.underlying t = some (.array n e)) (he : P.underlying e = some (.int .i64)) (h1 : P.cellsOf e = 1) (hn : P.cellsOf t = n) {l : List Nat} (hl : l.length = n) (hb : ∀ k ∈ l, k ≤ 9223372036854775807) (d : Nat) :
    P.keyLits (d + 2) t (encN l) = some (l.map litN) := by
  have hm : (List.range n).mapM (fun i => P.keyLits (d + 1) e (((encN l).drop (i * P.cellsOf e)).take (P.cellsOf e))) = some ((List.range n).map fun i => [litN (l.getD i 0)]) := by
    refine mapM_some _ _ _ fun i hi => ?_
    have hi : i < l.length := by rw [hl]; simpa using hi
    rw [h1, Nat.mul_one, show ((encN l).drop i).take 1 = [.int .i64 ((l.getD i 0 : Nat) : Int)] by
      rw [List.drop_eq_getElem_cons (by rw [encN_length]; exact hi)]
      simp [encN, hi]]
    exact lits_int he d (by rw [List.getD_eq_getElem?_getD, List.getElem?_eq_getElem hi]; exact hb _ (List.getElem_mem hi))
  have hf : ((List.range n).map fun i => [litN (l.getD i 0)]).flatten = l.map litN := by
    rw [flat_one]
    subst hl
    refine List.ext_getElem? fun i => ?_
    by_cases hi : i < l.length
    · simp [hi]
    · simp [hi]
  unfold Program.keyLits
  simp only [hu]
  rw [if_pos (by rw [encN_length, hl, hn]), hm, Option.map_some, hf]

/-- No number greater than an int. -/
structure BigR (r : RecI) : Prop where
  bl : ∀ k ∈ r.bl, k ≤ 9223372036854775807
  ls : ∀ k ∈ r.ls, k ≤ 9223372036854775807
def litsI (r : RecI) : List Lit := litN r.kind :: litN r.size :: (r.bl.map litN ++ [litN r.ind])
def litsR (r : RecI) : List Lit := litN r.num :: (litsI r ++ r.ls.map litN)
theorem litsR_inj {r s : RecI} (hr : OkR r) (hs : OkR s) (h : litsR r = litsR s) : r = s := by
  obtain ⟨n1, k1, z1, b1, i1, l1⟩ := r
  obtain ⟨n2, k2, z2, b2, i2, l2⟩ := s
  have e1 : b1.length = b2.length := hr.bl.trans hs.bl.symm
  simp only [litsR, litsI, List.cons.injEq, List.cons_append, List.append_assoc] at h
  obtain ⟨h1, h2, h3, h4⟩ := h
  obtain ⟨h4, h5⟩ := List.append_inj h4 (by simpa using e1)
  simp only [List.cons.injEq] at h5
  rw [litN_inj h1, litN_inj h2, litN_inj h3, litsN_inj h4, litN_inj h5.1, litsN_inj h5.2]

theorem litsI_some {r : RecI} (h : OkR r) (hb : BigR r) (d : Nat) : Tryz.prog.keyLits (d + 3) 47 (cellsI r) = some (litsI r) := by
  have hi := lits_int Tryz.underlying3
  have ha := lits_row (P := Tryz.prog) Tryz.underlying45 Tryz.underlying3 (by kernel_rfl) (by kernel_rfl) h.bl hb.bl d
  have h1 := h.kind
  have h2 := h.size
  have h3 := h.ind
  have c1 : Tryz.prog.cellsOf 3 = 1 := by kernel_rfl
  have c4 : Tryz.prog.cellsOf 45 = 4 := by kernel_rfl
  have c7 : Tryz.prog.cellsOf 47 = 7 := by kernel_rfl
  have e4 : ((encN r.bl ++ [Value.int .i64 (r.ind : Int)]).take 4) = encN r.bl := by rw [List.take_append_of_le_length (by rw [encN_length, h.bl]; omega), List.take_of_length_le (by rw [encN_length, h.bl]; omega)]
  have e6 : (encN r.bl ++ [Value.int .i64 (r.ind : Int)]).drop 4 = [Value.int .i64 (r.ind : Int)] := by rw [List.drop_append, List.drop_of_length_le (by rw [encN_length, h.bl]; omega), encN_length, h.bl]; rfl
  unfold Program.keyLits
  simp only [Tryz.underlying47]
  rw [if_pos ⟨by rw [cellsI_length h, c7], by kernel_rfl⟩]
  simp only [List.mapM_cons, List.mapM_nil, cellsI, List.drop_succ_cons, List.drop_zero, c1, c4, e4, e6, ha, List.take_succ_cons, List.take_zero]
  rw [hi (d + 1) (by omega), hi (d + 1) (by omega), hi (d + 1) (by omega)]
  simp [litsI]

theorem litsR_some {r : RecI} (h : OkR r) (hb : BigR r) (d : Nat) : Tryz.prog.keyLits (d + 4) 62 (cellsR r) = some (litsR r) := by
  have hi := lits_int Tryz.underlying59
  have ha := lits_row (P := Tryz.prog) Tryz.underlying60 Tryz.underlying3 (by kernel_rfl) (by kernel_rfl) h.ls hb.ls (d + 1)
  have h1 := h.num
  have c1 : Tryz.prog.cellsOf 59 = 1 := by kernel_rfl
  have c4 : Tryz.prog.cellsOf 60 = 64 := by kernel_rfl
  have c7 : Tryz.prog.cellsOf 47 = 7 := by kernel_rfl
  have c72 : Tryz.prog.cellsOf 62 = 72 := by kernel_rfl
  have e4 : (cellsI r ++ encN r.ls).take 7 = cellsI r := by rw [List.take_append_of_le_length (by rw [cellsI_length h]; omega), List.take_of_length_le (by rw [cellsI_length h]; omega)]
  have e6 : (cellsI r ++ encN r.ls).drop 7 = encN r.ls := by rw [List.drop_append, List.drop_of_length_le (by rw [cellsI_length h]; omega), cellsI_length h]; rfl
  have e7 : (encN r.ls).take 64 = encN r.ls := List.take_of_length_le (by rw [encN_length, h.ls]; omega)
  unfold Program.keyLits
  simp only [Tryz.underlying62]
  rw [if_pos ⟨by rw [cellsR_length h, c72], by kernel_rfl⟩]
  simp only [List.mapM_cons, List.mapM_nil, cellsR, List.drop_succ_cons, List.drop_zero, c1, c4, c7, e4, e6, e7, ha, litsI_some h hb d, List.take_succ_cons, List.take_zero]
  rw [hi (d + 2) (by omega)]
  simp [litsR]

theorem formedR {r : RecI} (h : OkR r) : (valR r).formed Tryz.prog 62 = true := by
  have c72 : Tryz.prog.cellsOf 62 = 72 := by kernel_rfl
  unfold valR
  simp [Value.formed, Tryz.underlying62, c72, cellsR_length h]

theorem neqR_run {r s : RecI} (hr : OkR r) (hs : OkR s) (br : BigR r) (bs : BigR s) (W : World) : (binOp .neq 62 (valR r) (valR s)).run Tryz.prog W = .ok (.bool (!decide (r = s))) W := by
  obtain ⟨b, hb, hi⟩ := run_equalIn_deep (P := Tryz.prog) 9996 4 62 (by kernel_rfl) W 4 4 (valR r) (valR s) (litsR r) (litsR s) (formedR hr) (formedR hs) (litsR_some hr br 0) (litsR_some hs bs 0)
  unfold valR at hb ⊢
  rw [run_neq_struct, hb]
  have : b = decide (r = s) := by
    rw [Bool.eq_iff_iff, hi, decide_eq_true_iff]
    exact ⟨litsR_inj hr hs, fun e => by rw [e]⟩
  rw [this]
  rfl

end Go.Proofs.YtpdfkakhahfcjaaGreat
