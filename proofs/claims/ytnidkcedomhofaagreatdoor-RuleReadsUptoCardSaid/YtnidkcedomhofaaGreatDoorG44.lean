/-
  The document's own answers of layer 14: the memory in which a part's value is read into a rule.
-/
import Derived.Test.YtnidkcedomhofaaGreatDoorG43
import Derived.Test.YtnidkcedomhofaaGreatDoorG25
namespace Go.Proofs.YtnidkcedomhofaaGreatDoor
open Go.RowKit

/-- All blocks but rules and rows of numbers and days are kept. -/
def KI (W W' : World) : Prop := ∀ (g : Nat) (C : Array Value) (T : TypeId) (f : Nat × Nat), T ≠ 3 → T ≠ 57 → T ≠ 27 → W.heap[g]? = some (.cells C T f) → W'.heap[g]? = some (.cells C T f)
theorem KI.refl (W : World) : KI W W := fun _ _ _ _ _ _ _ h => h
theorem KI.trans {A B C : World} (h : KI A B) (k : KI B C) : KI A C := fun g D T f e1 e2 e3 e => k g D T f e1 e2 e3 (h g D T f e1 e2 e3 e)
theorem KI.of_below {W W' : World} (hb : Below W.heap.size W W') : KI W W' := fun g _ _ _ _ _ _ h => (hb.block g (Array.getElem?_eq_some_iff.1 h).1).trans h
theorem KI.set {W : World} {K : Nat} {C : Array Value} {f : Nat × Nat} (h : W.heap[K]? = some (.cells C 27 f)) (j : Nat) (v : Value) : KI W (W.setCell ⟨K, j, none⟩ v) := fun g D T f' _ _ h3 e => by
  refine (Below.heap_setCell W ⟨K, j, none⟩ v g (fun ee => ?_)).trans e
  have : g = K := ee
  subst this
  rw [h] at e
  simp only [Option.some.injEq, Obj.cells.injEq] at e
  exact h3 e.2.1.symm
theorem own_ne {W : World} {n e size k K : Nat} {C : Array Value} {T : TypeId} {f : Nat × Nat} {v : Value} {xs : List Value} (h : W.ownsRow n e size v k xs) (hK : W.heap[K]? = some (.cells C T f)) (hT : T ≠ e) : v.ownBlock ≠ some K := by
  rcases h.2 with ⟨rfl, _⟩ | ⟨g, cap, cur, rfl, _, hb, _⟩
  · simp [Value.ownBlock]
  · intro ee
    simp [Value.ownBlock] at ee
    subst ee
    rw [hK] at hb
    simp only [Option.some.injEq, Obj.cells.injEq] at hb
    exact hT hb.2.1
theorem KI.append {W w1 : World} {n size k : Nat} {e : TypeId} {v : Value} {xs : List Value} {tmp : Obj} (he : e = 3 ∨ e = 57) (h : W.ownsRow n e size v k xs) (hg : (W.alloc tmp).grownBy w1 v.ownBlock) : KI W w1 := fun g D T f h1 h2 _ ee => by
  have hl := (Array.getElem?_eq_some_iff.1 ee).1
  refine ((hg.block g (by simp; omega) (fun ej => ?_)).trans (Below.heap_alloc W tmp g hl)).trans ee
  exact own_ne h ee (by rcases he with he | he <;> rw [he] <;> assumption) ej.symm
theorem own_ki {W W' : World} {n e size k : Nat} {v : Value} {xs : List Value} (h : W.ownsRow n e size v k xs) (h1 : e ≠ 3) (h2 : e ≠ 57) (h3 : e ≠ 27) (hk : KI W W') : W'.ownsRow n e size v k xs := by
  refine ⟨h.1, ?_⟩
  rcases h.2 with h' | ⟨g, cap, cur, hv, hb, hg, hr⟩
  · exact .inl h'
  · exact .inr ⟨g, cap, cur, hv, hb, hk g cur e _ h1 h2 h3 hg, hr⟩
theorem own_setT {W : World} {n e size k K j : Nat} {C : Array Value} {T : TypeId} {f : Nat × Nat} {v : Value} {xs : List Value} (h : W.ownsRow n e size v k xs) (hK : W.heap[K]? = some (.cells C T f)) (hT : T ≠ e) (u : Value) : (W.setCell ⟨K, j, none⟩ u).ownsRow n e size v k xs := by
  refine ⟨h.1, ?_⟩
  rcases h.2 with h' | ⟨g, cap, cur, hv, hb, hg, hr⟩
  · exact .inl h'
  · refine .inr ⟨g, cap, cur, hv, hb, (Below.heap_setCell W ⟨K, j, none⟩ u g (fun ee => ?_)).trans hg, hr⟩
    have : g = K := ee
    subst this
    rw [hK] at hg
    simp only [Option.some.injEq, Obj.cells.injEq] at hg
    exact hT hg.2.1
theorem Rw.setR {W : World} {n K j : Nat} {C : Array Value} {f : Nat × Nat} {r : RuV} {sn : List (List UInt8)} {v1 v2 v3 v4 v5 : Value} (h : Rw W n r sn v1 v2 v3 v4 v5) (hK : W.heap[K]? = some (.cells C 27 f)) (u : Value) : Rw (W.setCell ⟨K, j, none⟩ u) n r sn v1 v2 v3 v4 v5 :=
  ⟨own_setT h.o1 hK (by decide) u, own_setT h.o2 hK (by decide) u, own_setT h.o3 hK (by decide) u, own_setT h.o4 hK (by decide) u, own_setT h.o5 hK (by decide) u, h.a12, h.a14, h.a24⟩
theorem blk_append {W w1 : World} {n e size k K : Nat} {C : Array Value} {T : TypeId} {f : Nat × Nat} {v : Value} {xs : List Value} {tmp : Obj} (hK : W.heap[K]? = some (.cells C T f)) (hT : T ≠ e) (h : W.ownsRow n e size v k xs) (hg : (W.alloc tmp).grownBy w1 v.ownBlock) : w1.heap[K]? = some (.cells C T f) := by
  have hl := (Array.getElem?_eq_some_iff.1 hK).1
  exact ((hg.block K (by simp; omega) (fun ej => own_ne h hK hT ej.symm)).trans (Below.heap_alloc W tmp K hl)).trans hK

/-- Where the reading of a part stands: the rule's variable, the result's, the rows. -/
structure KO (n : Nat) (W0 W : World) (r : RuV) (sn : List (List UInt8)) (v1 v2 v3 v4 v5 : Value) : Prop where
  var : RVar W W0.heap.size r v1 v2 v3 v4
  res : RVar W (W0.heap.size + 1) RuV.zero nilV nilV nilV nilV
  rw : Rw W n r sn v1 v2 v3 v4 v5
  bel : Below n W0 W
  ki : KI W0 W
  base : n ≤ W0.heap.size
section
variable {n : Nat} {W0 W W' w1 : World} {r : RuV} {sn : List (List UInt8)} {v1 v2 v3 v4 v5 v' : Value} {tmp : Obj}
theorem KO.size (h : KO n W0 W r sn v1 v2 v3 v4 v5) : W0.heap.size + 1 < W.heap.size := h.res.lt
theorem KO.step (h : KO n W0 W r sn v1 v2 v3 v4 v5) (hb : Below W.heap.size W W') : KO n W0 W' r sn v1 v2 v3 v4 v5 :=
  ⟨h.var.step hb, h.res.step hb, h.rw.below hb, h.bel.trans (hb.mono (by have := h.size; have := h.base; omega)), h.ki.trans (KI.of_below hb), h.base⟩
theorem KO.drew (h : KO n W0 W r sn v1 v2 v3 v4 v5) : KO n W0 W.drew r sn v1 v2 v3 v4 v5 := h.step (Below.refl _ _).drew
/-- A scalar of the rule's variable is stored. -/
theorem KO.setv (h : KO n W0 W r sn v1 v2 v3 v4 v5) {j : Nat} {u : Value} (q : RuV) (e : (ruA r v1 v2 v3 v4).setIfInBounds j u = ruA q v1 v2 v3 v4) (hj : j < 12) (e1 : q.mon = r.mon) (e2 : q.md = r.md) (e3 : q.dys = r.dys) (e4 : q.pos = r.pos) : KO n W0 (W.setCell ⟨W0.heap.size, j, none⟩ u) q sn v1 v2 v3 v4 v5 := by
  refine ⟨?_, ?_, (h.rw.setR h.var u).re q e1 e2 e3 e4, h.bel.setCell (p := ⟨W0.heap.size, j, none⟩) h.base u, h.ki.trans (KI.set h.var j u), h.base⟩
  · have := heap_put (k := j) (v := u) h.var (by simpa [ruA] using hj)
    rw [e] at this
    exact this
  · exact (Below.heap_setCell W ⟨W0.heap.size, j, none⟩ u (W0.heap.size + 1) (by show W0.heap.size + 1 ≠ W0.heap.size; omega)).trans h.res
theorem KO.grown {e size k : Nat} {v : Value} {xs : List Value} (h : KO n W0 W r sn v1 v2 v3 v4 v5) (he : e = 3 ∨ e = 57) (hv : W.ownsRow n e size v k xs) (hg : (W.alloc tmp).grownBy w1 v.ownBlock) :
    RVar w1 W0.heap.size r v1 v2 v3 v4 ∧ RVar w1 (W0.heap.size + 1) RuV.zero nilV nilV nilV nilV ∧ Below n W0 w1 ∧ KI W0 w1 :=
  have hn : n ≤ W.heap.size := by have := h.size; have := h.base; omega
  have hT : 27 ≠ e := by rcases he with he | he <;> rw [he] <;> decide
  ⟨blk_append h.var hT hv hg, blk_append h.res hT hv hg, h.bel.trans (Ch.append (K := n) (Nat.le_refl n) hn hv hg).below, h.ki.trans (KI.append he hv hg)⟩
/-- A rule's own variable, a row of it grown and stored again. -/
theorem KO.put {j : Nat} {q : RuV} {u1 u2 u3 u4 u : Value} (hv : RVar w1 W0.heap.size r v1 v2 v3 v4) (hz : RVar w1 (W0.heap.size + 1) RuV.zero nilV nilV nilV nilV) (hb : Below n W0 w1) (hk : KI W0 w1) (hbase : n ≤ W0.heap.size) (hr : Rw w1 n q sn u1 u2 u3 u4 v5) (e : (ruA r v1 v2 v3 v4).setIfInBounds j u = ruA q u1 u2 u3 u4) (hj : j < 12) :
    KO n W0 (w1.setCell ⟨W0.heap.size, j, none⟩ u) q sn u1 u2 u3 u4 v5 := by
  refine ⟨?_, ?_, hr.setR hv u, hb.setCell (p := ⟨W0.heap.size, j, none⟩) hbase u, hk.trans (KI.set hv j u), hbase⟩
  · have := heap_put (k := j) (v := u) hv (by simpa [ruA] using hj)
    rw [e] at this
    exact this
  · exact (Below.heap_setCell w1 ⟨W0.heap.size, j, none⟩ u (W0.heap.size + 1) (by show W0.heap.size + 1 ≠ W0.heap.size; omega)).trans hz
theorem Rw.lits (h : Rw W n r sn v1 v2 v3 v4 v5) : ∃ a1 c1 a2 c2 a3 c3 a4 c4, v1 = .slice a1 r.mon.length c1 ∧ v2 = .slice a2 r.md.length c2 ∧ v3 = .slice a3 r.dys.length c3 ∧ v4 = .slice a4 r.pos.length c4 := by
  obtain ⟨a1, c1, e1⟩ := (Sl.of_own h.o1).lit
  obtain ⟨a2, c2, e2⟩ := (Sl.of_own h.o2).lit
  obtain ⟨a3, c3, e3⟩ := (Sl.of_own h.o3).lit
  obtain ⟨a4, c4, e4⟩ := (Sl.of_own h.o4).lit
  exact ⟨a1, c1, a2, c2, a3, c3, a4, c4, e1, e2, e3, e4⟩
theorem RVar.frozen (h : RVar W n r v1 v2 v3 v4) : ∀ k, W.frozen? ⟨n, k, none⟩ = false := fun k => by
  unfold RVar at h
  simp [World.frozen?, h]
end
/-- The world behind the beginning: the rule's variable, the result's. -/
def OW (w : World) (r : RuV) (v1 v2 v3 v4 : Value) : World := (w.alloc (.cells (ruA r v1 v2 v3 v4) 27)).alloc (.cells (ruA RuV.zero nilV nilV nilV nilV) 27)
theorem KO.begin {n : Nat} {w : World} {r : RuV} {sn : List (List UInt8)} {v1 v2 v3 v4 v5 : Value} (h : Rw w n r sn v1 v2 v3 v4 v5) (hn : n ≤ w.heap.size) : KO n w (OW w r v1 v2 v3 v4) r sn v1 v2 v3 v4 v5 := by
  have h1 := (Below.refl w.heap.size w).alloc (Nat.le_refl _) (.cells (ruA r v1 v2 v3 v4) 27)
  have hx := (Below.refl _ (w.alloc (.cells (ruA r v1 v2 v3 v4) 27))).alloc (Nat.le_refl _) (.cells (ruA RuV.zero nilV nilV nilV nilV) 27)
  have h2 := bstep h1 hx
  refine ⟨RVar.step (RVar.new w r v1 v2 v3 v4) hx, ?_, h.below h2, h2.mono hn, KI.of_below h2, hn⟩
  have := RVar.new (w.alloc (.cells (ruA r v1 v2 v3 v4) 27)) RuV.zero nilV nilV nilV nilV
  have e : (w.alloc (.cells (ruA r v1 v2 v3 v4) 27)).heap.size = w.heap.size + 1 := by simp
  rw [e] at this
  exact this
/-- What a part's value is read to. -/
noncomputable def oneL (k : Nat) (r : RuV) (v : List UInt8) : Except Int RuV :=
  if isLst k = true ∧ 24 < (splitC 44 [] v).length then .error 27
  else match foldK k r (valsK k v) with
    | none => .error (if k = 0 then 21 else 10)
    | some q => .ok q
def OneA (n k : Nat) (r : RuV) (sn : List (List UInt8)) (v5 : Value) (v : List UInt8) (w : World) (e : Ending) (w' : World) : Prop :=
  ∃ (q : RuV) (u1 u2 u3 u4 : Value) (c : Int), e = .returned (.tuple #[ruV q u1 u2 u3 u4, .int .i64 c]) ∧ Below n w w' ∧ KI w w' ∧ Rw w' n q sn u1 u2 u3 u4 v5 ∧ lenR q ≤ lenR r + 24 ∧ ((c = 0 ∧ oneL k r v = .ok q) ∨ (c ≠ 0 ∧ oneL k r v = .error c))
/-- At the end: the rule's variable copied into the result's. -/
theorem one_post {n : Nat} {w W : World} {q : RuV} {sn : List (List UInt8)} {u1 u2 u3 u4 v5 : Value} (h : KO n w W q sn u1 u2 u3 u4 v5) :
    RVar (put12 W (w.heap.size + 1) (.int .i64 q.freq) (.int .i64 q.intv) (.int .i64 q.cnt) (.bool q.has) (.int .i64 q.unt.secs) (.bool q.unt.utc) (.bool q.unt.date) u1 u2 u3 u4 (.int .i64 q.wk)) (w.heap.size + 1) q u1 u2 u3 u4 ∧
    Below n w (put12 W (w.heap.size + 1) (.int .i64 q.freq) (.int .i64 q.intv) (.int .i64 q.cnt) (.bool q.has) (.int .i64 q.unt.secs) (.bool q.unt.utc) (.bool q.unt.date) u1 u2 u3 u4 (.int .i64 q.wk)) ∧
    KI w (put12 W (w.heap.size + 1) (.int .i64 q.freq) (.int .i64 q.intv) (.int .i64 q.cnt) (.bool q.has) (.int .i64 q.unt.secs) (.bool q.unt.utc) (.bool q.unt.date) u1 u2 u3 u4 (.int .i64 q.wk)) ∧
    Rw (put12 W (w.heap.size + 1) (.int .i64 q.freq) (.int .i64 q.intv) (.int .i64 q.cnt) (.bool q.has) (.int .i64 q.unt.secs) (.bool q.unt.utc) (.bool q.unt.date) u1 u2 u3 u4 (.int .i64 q.wk)) n q sn u1 u2 u3 u4 v5 := by
  have hb := h.base
  refine ⟨heap_put12 h.res, h.bel.trans (below_put12 (by omega) _ _ _ _ _ _ _ _ _ _ _ _), ?_, ?_⟩
  · intro g C T f e1 e2 e3 he
    have hk := h.ki g C T f e1 e2 e3 he
    refine (put12_other (fun ee => ?_) _ _ _ _ _ _ _ _ _ _ _ _).trans hk
    subst ee
    have := h.res
    unfold RVar at this
    rw [this] at hk
    simp only [Option.some.injEq, Obj.cells.injEq] at hk
    exact e3 hk.2.1.symm
  · have key : ∀ {e size k : Nat} {v : Value} {xs : List Value}, W.ownsRow n e size v k xs → 27 ≠ e → (put12 W (w.heap.size + 1) (.int .i64 q.freq) (.int .i64 q.intv) (.int .i64 q.cnt) (.bool q.has) (.int .i64 q.unt.secs) (.bool q.unt.utc) (.bool q.unt.date) u1 u2 u3 u4 (.int .i64 q.wk)).ownsRow n e size v k xs := fun {e size k v xs} ho hT => by
      refine ⟨ho.1, ?_⟩
      rcases ho.2 with h' | ⟨g, cap, cur, hv, hbb, hg, hr⟩
      · exact .inl h'
      · refine .inr ⟨g, cap, cur, hv, hbb, (put12_other (fun ee => ?_) _ _ _ _ _ _ _ _ _ _ _ _).trans hg, hr⟩
        subst ee
        have := h.res
        unfold RVar at this
        rw [this] at hg
        simp only [Option.some.injEq, Obj.cells.injEq] at hg
        exact hT hg.2.1
    have r := h.rw
    exact ⟨key r.o1 (by decide), key r.o2 (by decide), key r.o3 (by decide), key r.o4 (by decide), key r.o5 (by decide), r.a12, r.a14, r.a24⟩
theorem foldK_len {k : Nat} : ∀ (vs : List (List UInt8)) (r q : RuV), foldK k r vs = some q → lenR q ≤ lenR r + vs.length
  | [], r, q, h => by simp only [foldK, Option.some.injEq] at h; subst h; exact Nat.le_refl _
  | x :: vs, r, q, h => by
    rw [foldK] at h
    cases hx : readK k r x with
    | none => rw [hx] at h; cases h
    | some r' =>
      rw [hx] at h
      have h1 := readK_len hx
      have h2 := foldK_len vs r' q h
      simp only [List.length_cons]
      omega
theorem oneL_one {k : Nat} (r : RuV) (v : List UInt8) (h : isLst k = false) : oneL k r v = match readK k r v with | none => .error (if k = 0 then 21 else 10) | some q => .ok q := by
  unfold oneL valsK
  rw [h, if_neg (by simp), if_neg (by simp), fold_one]
theorem oneL_0 (r : RuV) (v : List UInt8) : oneL 0 r v = if freqL v = 0 then .error 21 else .ok { r with freq := freqL v } := by
  rw [oneL_one r v rfl]
  unfold readK
  by_cases h : freqL v = 0 <;> simp [h]
theorem oneL_1 (r : RuV) (v : List UInt8) : oneL 1 r v = if cntL v 1000 = 0 then .error 10 else .ok { r with intv := cntL v 1000 } := by
  rw [oneL_one r v rfl]
  unfold readK
  by_cases h : cntL v 1000 = 0 <;> simp [h]
theorem oneL_2 (r : RuV) (v : List UInt8) : oneL 2 r v = if cntL v 1000 = 0 then .error 10 else .ok { r with cnt := cntL v 1000 } := by
  rw [oneL_one r v rfl]
  unfold readK
  by_cases h : cntL v 1000 = 0 <;> simp [h]
theorem oneL_3 (r : RuV) (v : List UInt8) : oneL 3 r v = if (timV v).2 = 0 then .ok { r with unt := (timV v).1, has := true } else .error 10 := by
  rw [oneL_one r v rfl]
  unfold readK
  by_cases h : (timV v).2 = 0 <;> simp [h]
theorem oneL_8 (r : RuV) (v : List UInt8) : oneL 8 r v = if dayL v < 0 then .error 10 else .ok { r with wk := dayL v } := by
  rw [oneL_one r v rfl]
  unfold readK
  by_cases h : dayL v < 0 <;> simp [h]
theorem oneL_many {k : Nat} {r : RuV} {v : List UInt8} (h : isLst k = true) (h2 : 24 < (splitC 44 [] v).length) : oneL k r v = .error 27 := by
  unfold oneL
  rw [if_pos ⟨h, h2⟩]
theorem oneL_list {k : Nat} {r : RuV} {v : List UInt8} (h : isLst k = true) (h2 : ¬ 24 < (splitC 44 [] v).length) : oneL k r v = match foldK k r (splitC 44 [] v) with | none => .error 10 | some q => .ok q := by
  have hk : k ≠ 0 := by rintro rfl; cases h
  unfold oneL valsK
  rw [if_neg (fun x => h2 x.2), if_pos h, if_neg hk]
theorem splitC_le (c : UInt8) : ∀ (l acc : List UInt8), ∀ p ∈ splitC c acc l, p.length ≤ acc.length + l.length
  | [], acc, p, hp => by simp only [splitC, List.mem_singleton] at hp; subst hp; simp
  | x :: l, acc, p, hp => by
    rw [splitC] at hp
    split at hp
    · rcases List.mem_cons.1 hp with rfl | hp
      · simp
      · have := splitC_le c l [] p hp
        simp only [List.length_nil, List.length_cons] at this ⊢
        omega
    · have := splitC_le c l _ p hp
      simp only [List.length_append, List.length_cons, List.length_nil] at this ⊢
      omega
theorem refStarts_k {k : Nat} (hk : k < 9) (w : World) : Calls Tryz.prog 55 #[.string ⟨(nameB.getD k []).toArray⟩, .string ⟨#[66, 89]⟩] w fun e w' => e = .returned (.bool (isLst k)) ∧ w' = w := by
  rcases key_cases hk with rfl | rfl | rfl | rfl | rfl | rfl | rfl | rfl | rfl
  all_goals
    simp only [nameB, List.getD_cons_zero, List.getD_cons_succ]
    go_enter Tryz.func55, Tryz.ntmps55
    go_wp2
    go_ret
    refine ⟨?_, rfl⟩
    show Ending.returned (.bool _) = Ending.returned (.bool _)
    congr 2
    rw [Lib.toList_data]
    rfl
end Go.Proofs.YtnidkcedomhofaaGreatDoor

/-
  The document's own answers of layer 14: a part's value read into a rule: INTERVAL and COUNT.
-/
namespace Go.Proofs.YtnidkcedomhofaaGreatDoor
open Go.RowKit

set_option maxRecDepth 100000 in
set_option maxHeartbeats 8000000 in
theorem one1_any (r : RuV) (v1 v2 v3 v4 v5 : Value) (sn : List (List UInt8)) (s : ByteArray) (hs : s.size ≤ 1048576) (n : Nat) (w : World) (h : Rw w n r sn v1 v2 v3 v4 v5) (hn : n ≤ w.heap.size) (hl : lenR r ≤ 50000000) :
    Calls Tryz.prog 26 #[ruV r v1 v2 v3 v4, .string ⟨#[73, 78, 84, 69, 82, 86, 65, 76]⟩, .string s] w (OneA n 1 r sn v5 s.data.toList w) := by
  have H0 := Lib.hid (KO.begin h hn)
  obtain ⟨a1, e1, a2, e2, a3, e3, a4, e4, rfl, rfl, rfl, rfl⟩ := h.lits
  have HL := Lib.hid hl
  clear h hn hl
  have cs := refSplit_any 44 s hs
  rw [show (((44 : UInt8).toNat : Nat) : Int) = 44 from rfl] at cs
  have cb : ∀ W, Calls Tryz.prog 55 #[.string ⟨#[73, 78, 84, 69, 82, 86, 65, 76]⟩, .string ⟨#[66, 89]⟩] W fun e w' => e = .returned (.bool false) ∧ w' = W := fun W => refStarts_k (k := 1) (by decide) W
  go_enter Tryz.func26, Tryz.ntmps26
  go_upto_region 1 with fail
  change Code.wp _ _ _ _ (OW w r (.slice a1 r.mon.length e1) (.slice a2 r.md.length e2) (.slice a3 r.dys.length e3) (.slice a4 r.pos.length e4))
  generalize OW w r (.slice a1 r.mon.length e1) (.slice a2 r.md.length e2) (.slice a3 r.dys.length e3) (.slice a4 r.pos.length e4) = w1 at H0 ⊢
  generalize ruV r (.slice a1 r.mon.length e1) (.slice a2 r.md.length e2) (.slice a3 r.dys.length e3) (.slice a4 r.pos.length e4) = VA
  have cn := fun W => refNum0_any s hs 1000 (by omega) W
  have EQ := Lib.hid (oneL_1 r s.data.toList)
  generalize cntL s.data.toList 1000 = N at cn EQ
  go_upto_region 32 with (first
    | (go_at_call 16; refine (cs _).mono ?_; rintro e w2 ⟨l, rfl, ho, hb2⟩; clear cs
       obtain ⟨al, cl, rfl⟩ := (Sl.of_own ho).lit
       have H2 := Lib.hid (H0.out.step hb2)
       have HO := Lib.hid ho
       clear hb2 ho H0
       obtain ⟨x0, x1, x2, x3, x4, x5, x6, x7, x8, x9, x10, x11⟩ := H2.out.var.cells
       have xf := H2.out.var.frozen)
    | (go_at_call 55; refine (cb _).mono ?_; rintro e w' ⟨rfl, hw⟩; subst w'; clear cb)
    | (go_at_call 56; refine (cn _).mono ?_; rintro e w' ⟨rfl, hw⟩; subst w'; clear cn))
  obtain ⟨q, hq⟩ : ∃ q : RuV, q = { r with intv := N } := ⟨_, rfl⟩
  have H3 := Lib.hid (H2.out.setv (j := 1) (u := .int .i64 N) q (by rw [hq]; rfl) (by decide) (by rw [hq]) (by rw [hq]) (by rw [hq]) (by rw [hq]))
  have hqi : q.intv = N := by rw [hq]
  have HL2 : Hid (lenR q ≤ lenR r + 24) := Lib.hid (by rw [hq]; unfold lenR; simp only; omega)
  have HQ := Lib.hid hq
  clear H2 x0 x1 x2 x3 x4 x5 x6 x7 x8 x9 x10 x11 xf hq
  generalize w2.setCell ⟨w.heap.size, 1, none⟩ (.int .i64 N) = w3 at H3 ⊢
  have HX := Lib.hid hqi
  obtain ⟨x0, x1, x2, x3, x4, x5, x6, x7, x8, x9, x10, x11⟩ := H3.out.var.cells
  have xf := H3.out.var.frozen
  obtain ⟨z0, z1, z2, z3, z4, z5, z6, z7, z8, z9, z10, z11⟩ := H3.out.res.cells
  simp only [RuV.zero, Wh.zero, nilV] at z0 z1 z2 z3 z4 z5 z6 z7 z8 z9 z10 z11
  have zf := H3.out.res.frozen
  clear hqi
  by_cases h0 : q.intv = 0
  · have h0b : (q.intv == 0) = true := by rw [beq_iff_eq]; exact h0
    have HE : Hid (oneL 1 r s.data.toList = .error 10) := Lib.hid (by rw [EQ.out, if_pos (by rw [← HX.out]; exact h0)])
    clear h0
    go_wp2
    obtain ⟨p1, p2, p3, p4⟩ := one_post H3.out
    exact bodyPost_ret (results_cell2 rfl _ rfl rfl (load_ru p1)) rfl ⟨q, _, _, _, _, 10, rfl, p2, p3, p4, HL2.out, .inr ⟨by decide, HE.out⟩⟩
  · have h0b : (q.intv == 0) = false := by rw [beq_eq_false_iff_ne]; exact h0
    have HE : Hid (oneL 1 r s.data.toList = .ok q) := Lib.hid (by rw [EQ.out, if_neg (by rw [← HX.out]; exact h0), HQ.out])
    clear h0
    go_wp2
    obtain ⟨p1, p2, p3, p4⟩ := one_post H3.out
    exact bodyPost_ret (results_cell2 rfl _ rfl rfl (load_ru p1)) rfl ⟨q, _, _, _, _, 0, rfl, p2, p3, p4, HL2.out, .inl ⟨rfl, HE.out⟩⟩
set_option maxRecDepth 100000 in
set_option maxHeartbeats 8000000 in
theorem one2_any (r : RuV) (v1 v2 v3 v4 v5 : Value) (sn : List (List UInt8)) (s : ByteArray) (hs : s.size ≤ 1048576) (n : Nat) (w : World) (h : Rw w n r sn v1 v2 v3 v4 v5) (hn : n ≤ w.heap.size) (hl : lenR r ≤ 50000000) :
    Calls Tryz.prog 26 #[ruV r v1 v2 v3 v4, .string ⟨#[67, 79, 85, 78, 84]⟩, .string s] w (OneA n 2 r sn v5 s.data.toList w) := by
  have H0 := Lib.hid (KO.begin h hn)
  obtain ⟨a1, e1, a2, e2, a3, e3, a4, e4, rfl, rfl, rfl, rfl⟩ := h.lits
  have HL := Lib.hid hl
  clear h hn hl
  have cs := refSplit_any 44 s hs
  rw [show (((44 : UInt8).toNat : Nat) : Int) = 44 from rfl] at cs
  have cb : ∀ W, Calls Tryz.prog 55 #[.string ⟨#[67, 79, 85, 78, 84]⟩, .string ⟨#[66, 89]⟩] W fun e w' => e = .returned (.bool false) ∧ w' = W := fun W => refStarts_k (k := 2) (by decide) W
  go_enter Tryz.func26, Tryz.ntmps26
  go_upto_region 1 with fail
  change Code.wp _ _ _ _ (OW w r (.slice a1 r.mon.length e1) (.slice a2 r.md.length e2) (.slice a3 r.dys.length e3) (.slice a4 r.pos.length e4))
  generalize OW w r (.slice a1 r.mon.length e1) (.slice a2 r.md.length e2) (.slice a3 r.dys.length e3) (.slice a4 r.pos.length e4) = w1 at H0 ⊢
  generalize ruV r (.slice a1 r.mon.length e1) (.slice a2 r.md.length e2) (.slice a3 r.dys.length e3) (.slice a4 r.pos.length e4) = VA
  have cn := fun W => refNum0_any s hs 1000 (by omega) W
  have EQ := Lib.hid (oneL_2 r s.data.toList)
  generalize cntL s.data.toList 1000 = N at cn EQ
  go_upto_region 36 with (first
    | (go_at_call 16; refine (cs _).mono ?_; rintro e w2 ⟨l, rfl, ho, hb2⟩; clear cs
       obtain ⟨al, cl, rfl⟩ := (Sl.of_own ho).lit
       have H2 := Lib.hid (H0.out.step hb2)
       have HO := Lib.hid ho
       clear hb2 ho H0
       obtain ⟨x0, x1, x2, x3, x4, x5, x6, x7, x8, x9, x10, x11⟩ := H2.out.var.cells
       have xf := H2.out.var.frozen)
    | (go_at_call 55; refine (cb _).mono ?_; rintro e w' ⟨rfl, hw⟩; subst w'; clear cb)
    | (go_at_call 56; refine (cn _).mono ?_; rintro e w' ⟨rfl, hw⟩; subst w'; clear cn))
  obtain ⟨q, hq⟩ : ∃ q : RuV, q = { r with cnt := N } := ⟨_, rfl⟩
  have H3 := Lib.hid (H2.out.setv (j := 2) (u := .int .i64 N) q (by rw [hq]; rfl) (by decide) (by rw [hq]) (by rw [hq]) (by rw [hq]) (by rw [hq]))
  have hqi : q.cnt = N := by rw [hq]
  have HL2 : Hid (lenR q ≤ lenR r + 24) := Lib.hid (by rw [hq]; unfold lenR; simp only; omega)
  have HQ := Lib.hid hq
  clear H2 x0 x1 x2 x3 x4 x5 x6 x7 x8 x9 x10 x11 xf hq
  generalize w2.setCell ⟨w.heap.size, 2, none⟩ (.int .i64 N) = w3 at H3 ⊢
  have HX := Lib.hid hqi
  obtain ⟨x0, x1, x2, x3, x4, x5, x6, x7, x8, x9, x10, x11⟩ := H3.out.var.cells
  have xf := H3.out.var.frozen
  obtain ⟨z0, z1, z2, z3, z4, z5, z6, z7, z8, z9, z10, z11⟩ := H3.out.res.cells
  simp only [RuV.zero, Wh.zero, nilV] at z0 z1 z2 z3 z4 z5 z6 z7 z8 z9 z10 z11
  have zf := H3.out.res.frozen
  clear hqi
  by_cases h0 : q.cnt = 0
  · have h0b : (q.cnt == 0) = true := by rw [beq_iff_eq]; exact h0
    have HE : Hid (oneL 2 r s.data.toList = .error 10) := Lib.hid (by rw [EQ.out, if_pos (by rw [← HX.out]; exact h0)])
    clear h0
    go_wp2
    obtain ⟨p1, p2, p3, p4⟩ := one_post H3.out
    exact bodyPost_ret (results_cell2 rfl _ rfl rfl (load_ru p1)) rfl ⟨q, _, _, _, _, 10, rfl, p2, p3, p4, HL2.out, .inr ⟨by decide, HE.out⟩⟩
  · have h0b : (q.cnt == 0) = false := by rw [beq_eq_false_iff_ne]; exact h0
    have HE : Hid (oneL 2 r s.data.toList = .ok q) := Lib.hid (by rw [EQ.out, if_neg (by rw [← HX.out]; exact h0), HQ.out])
    clear h0
    go_wp2
    obtain ⟨p1, p2, p3, p4⟩ := one_post H3.out
    exact bodyPost_ret (results_cell2 rfl _ rfl rfl (load_ru p1)) rfl ⟨q, _, _, _, _, 0, rfl, p2, p3, p4, HL2.out, .inl ⟨rfl, HE.out⟩⟩
end Go.Proofs.YtnidkcedomhofaaGreatDoor
