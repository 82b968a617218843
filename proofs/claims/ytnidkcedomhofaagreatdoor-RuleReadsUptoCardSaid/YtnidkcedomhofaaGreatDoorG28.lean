/-
  A range over a function whose iterator keeps state of its own in a variable that it has captured: what the iterator and the caller owe one another, and the law of the loop.
-/
import Derived.RangeFuncNested
import Derived.Test.YtnidkcedomhofaaGreatDoorG11
import Derived.Test.YtnidkcedomhofaaGreatDoorG12
import Derived.Test.YtnidkcedomhofaaGreatDoorG18
namespace Go.Proofs.YtnidkcedomhofaaGreatDoor
open Go.RowKit Go.Shelf

/-- Whatever the depth. -/
theorem round_deepV {m m' : Nat} {P : Program} {l : Nat} {f : FuncId} {tmps : Array Value} {assign body : Code} {w : World} {R : Ending → World → Prop} (h : RoundIn Fence.wide m P l f tmps assign body w R) : RoundIn Fence.wide m' P l f tmps assign body w R := ⟨h.1, fun c cs _ => h.2 c cs (fun d hd => by cases hd)⟩
theorem yield_deepV {m : Nat} (m' : Nat) {P : Program} {l : Nat} {args : Array Value} {W : World} {R : Ending → World → Prop} (h : YieldAt Fence.wide m P l args W R) : YieldAt Fence.wide m' P l args W R := by
  obtain ⟨fn, tmps, assign, body, hy, hR⟩ := h
  exact ⟨fn, tmps, assign, body, hy, round_deepV hR⟩
/-- The iterator's side: over whatever abides what is laid and turned behind the call's own heap, and what is written into its own variable X. -/
def SeqX {α : Type} (P : Program) (g : Nat) (lb : Array Value) (encs : α → Array Value) (Kp : World → World → Prop) (S Sp : List α → Prop) (X N : Nat) (w : World) : Prop :=
  ∀ (l : Nat) (J Jx : List α → World → Prop) (W : World), Below w.heap.size w W → OwnFrom W.heap.size J → (∀ s A B, J s A → A.grownBy B (some X) → J s B) →
    (∀ pre x W1, J pre W1 → pre.length < N → YieldAt Fence.wide 0 P l (encs x) W1 fun e W' =>
      (e = .returned (.bool true) ∧ J (pre ++ [x]) W' ∧ Kp W1 W') ∨ (e = .returned (.bool false) ∧ Jx (pre ++ [x]) W')) →
    J [] W →
    Calls P g (#[.func (.yield l) #[] #[]] ++ lb) W fun e W' => (∃ v, e = .returned v) ∧ ((∃ xs, S xs ∧ J xs W') ∨ (∃ pre, Sp pre ∧ Jx pre W'))
theorem ownFrom_upV {β : Type} {B B' : Nat} {I : β → World → Prop} (h : OwnFrom B I) (hB : B ≤ B') : OwnFrom B' I := fun s W W' row hs hg hr => h s W W' row hs hg (fun r e => ⟨by have := (hr r e).1; omega, (hr r e).2⟩)
theorem ownFrom_blockV {β : Type} {B k : Nat} {o : Obj} (hk : k < B) : OwnFrom B (fun (_ : β) W => W.heap[k]? = some o) := fun s W W' row hs hg hr =>
  (hg.block k (Array.getElem?_eq_some_iff.1 hs).1 (fun e => by have := (hr k e.symm).1; omega)).trans hs
/-- The loop's side. -/
theorem rangeFunc_box {P : Program} {α : Type} {g : Operand} {ps : Array Tmp} {assign body : Code} {Q : Exit → Act → World → Prop} {a : Act} {w : World} {n : Nat}
    {gf : Nat} {lb : Array Value} (hg : a.eval g = .func (.func gf) #[] lb) (eg : ∀ args w, (callFunc gf args).run P w = .ok (.enter gf args) w)
    {encs : α → Array Value} {Kp : World → World → Prop} {S Sp : List α → Prop} {w0 : World} {X N : Nat} (hXw : X < w.heap.size) (hseq : SeqX P gf lb encs Kp S Sp X N w0)
    (hKt : ∀ {A B C : World}, Kp A B → Kp B C → Kp A C) (hKb : ∀ (W : World) (o o' : Obj), W.heap[w.heap.size + 1]? = some o → o.isCells = false → Kp W (W.putObj (w.heap.size + 1) o')) (hb0 : Below w0.heap.size w0 w) (hps : ∀ x, (encs x).size = ps.size)
    (I : List α → World → Prop) (Ix : Code → List α → World → Prop) (hI : OwnFrom w.heap.size I) (hIx : ∀ c, OwnFrom w.heap.size (Ix c)) (hIX : ∀ s A B, I s A → A.grownBy B (some X) → I s B) (h0 : I [] w) (a₁ : α → Act)
    (hassign : ∀ (l : Nat) (x : α) (W : World) (K : Act → World → Prop), K (a₁ x) W →
      assign.wpIn (Fence.wide.inRound l) n P (Exit.then K (fun _ _ _ => False)) { tmps := (ps.zip (encs x)).foldl (fun t (p, v) => t.setIfInBounds p v) a.tmps, defers := [] } W)
    (hbody : ∀ (l : Nat) (pre : List α) (x : α) (W : World), I pre W → pre.length < N → body.wpIn (Fence.wide.inRound l) n P (ownPostG w.heap.size Kp I Ix (pre ++ [x]) W) (a₁ x) W)
    (hdone : ∀ (D : Nat) (xs : List α) (W : World), w.heap.size ≤ D → S xs → I xs W → W.heap[D]? = some (.deferred (some [])) → Q .normal { a with defers := { target := .collected D, args := #[] } :: a.defers } W)
    (hstop : ∀ (D : Nat) (c : Code) (pre : List α) (W : World), w.heap.size ≤ D → Sp pre → Ix c pre W → W.heap[D]? = some (.deferred (some [])) → c.wpIn Fence.wide n P Q { a with defers := { target := .collected D, args := #[] } :: a.defers } W) :
    (Code.rangeFunc g ps assign body).wpIn Fence.wide n P Q a w := by
  refine wpIn_rangeFunc fun fn hfn => ?_
  show ∃ (l : Nat) (mark : List Deferred) (w₁ : World) (d : Deferred) (w₁' : World) (f : FuncId) (args : Array Value) (w₂ : World), (Instr.enterLoop fn a.tmps ps assign body none).run P w = .ok (l, mark) w₁ ∧ _
  obtain ⟨rec, hrec⟩ : ∃ rec : LoopState → Option Code → Loop, rec = fun st pe => { state := st, pending := pe, fn, tmps := a.tmps, params := ps, assign, body, defers := w.heap.size } := ⟨_, rfl⟩
  obtain ⟨W1, hW1⟩ : ∃ W1, (w.alloc (.deferred (some []))).alloc (.loop (rec .ready none)) = W1 := ⟨_, rfl⟩
  have hsz : W1.heap.size = w.heap.size + 2 := by rw [← hW1]; simp
  have hL1 : W1.heap[w.heap.size + 1]? = some (.loop (rec .ready none)) := by
    have := World.alloc_heap_new (w.alloc (.deferred (some []))) (.loop (rec .ready none))
    rw [World.size_alloc, hW1] at this
    exact this
  have hD1 : W1.heap[w.heap.size]? = some (.deferred (some [])) := by
    rw [← hW1]; exact (Below.heap_alloc _ _ _ (by simp)).trans (World.alloc_heap_new w _)
  have hI1 : I [] W1 := by rw [← hW1]; exact hI.alloc _ (hI.alloc _ h0)
  have hb1 : Below w0.heap.size w0 W1 := by
    rw [← hW1]; exact hb0.trans ((((Below.refl _ w).alloc (Nat.le_refl _) _).alloc (by simp) _).mono hb0.size)
  refine ⟨w.heap.size + 1, [{ target := .collected w.heap.size, args := #[] }], W1, { target := .fn (.func gf) lb, args := #[.func (.yield (w.heap.size + 1)) #[] #[]] }, W1, gf, #[.func (.yield (w.heap.size + 1)) #[] #[]] ++ lb, W1, ?_, ?_, fun f' _ => trivial, ?_, fun h => (by cases h), ?_⟩
  · rw [← hW1, hrec]; exact run_enterLoop_outer _ _ _ _ _
  · simp only [resolve, hg]
    simp [go_sem]
  · simp [invoke, go_sem, eg]
  · refine callsIn_wide.2 ((hseq (w.heap.size + 1) (fun pre W => I pre W ∧ W.heap[w.heap.size + 1]? = some (.loop (rec .ready none)) ∧ W.heap[w.heap.size]? = some (.deferred (some [])))
      (fun pre W => ∃ c, Ix c pre W ∧ W.heap[w.heap.size + 1]? = some (.loop (rec .done (some c))) ∧ W.heap[w.heap.size]? = some (.deferred (some []))) W1 hb1
      ((ownFrom_upV hI (by omega)).and ((ownFrom_blockV (by omega)).and (ownFrom_blockV (by omega))))
      (fun s A B ⟨h1, h2, h3⟩ hg' => ⟨hIX s A B h1 hg', (hg'.block _ (Array.getElem?_eq_some_iff.1 h2).1 (fun e => by injection e with e; omega)).trans h2, (hg'.block _ (Array.getElem?_eq_some_iff.1 h3).1 (fun e => by injection e with e; omega)).trans h3⟩) ?_ ⟨hI1, hL1, hD1⟩).mono ?_)
    · rintro pre x W ⟨hi, hl, hk⟩ hN
      have hlt : w.heap.size + 1 < W.heap.size := (Array.getElem?_eq_some_iff.1 hl).1
      have hy := run_yield (P := P) (args := encs x) hl (by rw [hrec]; exact hps x)
      rw [hrec] at hy
      refine yield_deepV 0 (m := n) ⟨fn, _, assign, body, hy, roundIn_of_wpIn hfn (hassign _ x W _ ?_)⟩
      refine ⟨_, run_beginRound hl (by rw [hrec]), ?_⟩
      have hl2 : (W.putObj (w.heap.size + 1) (.loop { rec .ready none with state := .busy })).heap[w.heap.size + 1]? = some (.loop { rec .ready none with state := .busy }) := World.putObj_heap_same hlt
      have hk2 : (W.putObj (w.heap.size + 1) (.loop { rec .ready none with state := .busy })).heap[w.heap.size]? = some (.deferred (some [])) := (World.putObj_heap_other (by omega)).trans hk
      have hkf : KeepsFrom W1.heap.size W (W.putObj (w.heap.size + 1) (.loop { rec .ready none with state := .busy })) := KeepsFrom.of_grownBy (grownBy_putObj' W _ _) (fun j e => by cases e; omega)
      have hkp := hKb W _ (.loop { rec .ready none with state := .busy }) hl rfl
      refine wpIn_mono (hbody _ pre x _ (hI.putObj _ hi (by omega) hl rfl) hN) ?_
      have fin : ∀ (jump : Option Code) (W3 : World), KeepsFrom w.heap.size (W.putObj (w.heap.size + 1) (.loop { rec .ready none with state := .busy })) W3 →
          ∃ W4, (Instr.endRound (w.heap.size + 1) jump).run P W3 = .ok (.bool jump.isNone) W4 ∧ (∀ {J : List α → World → Prop} {s : List α}, OwnFrom w.heap.size J → J s W3 → J s W4) ∧
            W4.heap[w.heap.size + 1]? = some (.loop (rec (if jump.isNone then .ready else .done) jump)) ∧ W4.heap[w.heap.size]? = some (.deferred (some [])) ∧ KeepsFrom W1.heap.size W W4 ∧ (Kp (W.putObj (w.heap.size + 1) (.loop { rec .ready none with state := .busy })) W3 → Kp W W4) := fun jump W3 hk3 => by
        have hl3 := hk3.same _ _ (by omega) hl2 rfl
        refine ⟨W3.putObj (w.heap.size + 1) (.loop (rec (if jump.isNone then .ready else .done) jump)), ?_, fun hJ hs => hJ.putObj _ hs (by omega) hl3 rfl, World.putObj_heap_same (Array.getElem?_eq_some_iff.1 hl3).1, (World.putObj_heap_other (by omega)).trans (hk3.same _ _ (Nat.le_refl _) hk2 rfl), ?_, fun hp => hKt (hKt hkp hp) (hKb W3 _ _ hl3 rfl)⟩
        · have hr := run_endRound (P := P) jump hl3
          rw [hrec] at hr ⊢
          exact hr
        · exact (hkf.trans ⟨hk3.size, fun k o hB h1 ho => hk3.same k o (by omega) h1 ho⟩).trans (KeepsFrom.of_grownBy (grownBy_putObj' W3 _ _) (fun j e => by cases e; omega))
      rintro e a3 W3 hp
      cases e with
      | normal =>
        obtain ⟨hk3, hkp3, hi3⟩ := hp
        obtain ⟨W4, hr, hJ, h1, h2, h3, h4⟩ := fin none W3 hk3
        exact ⟨_, _, hr, .inl ⟨rfl, ⟨hJ hI hi3, h1, h2⟩, h4 hkp3⟩⟩
      | ret =>
        obtain ⟨hk3, hi3⟩ := hp
        obtain ⟨W4, hr, hJ, h1, h2, h3, h4⟩ := fin (some .ret) W3 hk3
        exact ⟨_, _, hr, .inr ⟨rfl, ⟨.ret, hJ (hIx _) hi3, h1, h2⟩⟩⟩
      | exit id =>
        obtain ⟨hk3, hi3⟩ := hp
        obtain ⟨W4, hr, hJ, h1, h2, h3, h4⟩ := fin (some (.exit id)) W3 hk3
        exact ⟨_, _, hr, .inr ⟨rfl, ⟨.exit id, hJ (hIx _) hi3, h1, h2⟩⟩⟩
      | goto t =>
        obtain ⟨hk3, hi3⟩ := hp
        obtain ⟨W4, hr, hJ, h1, h2, h3, h4⟩ := fin (some (.goto t)) W3 hk3
        exact ⟨_, _, hr, .inr ⟨rfl, ⟨.goto t, hJ (hIx _) hi3, h1, h2⟩⟩⟩
      | panic ch => exact hp.elim
      | outgrown => exact hp.elim
    · rintro e W2 ⟨⟨v, rfl⟩, (⟨xs, hS, hi, hl, hk⟩ | ⟨pre, hSp, c, hi, hl, hk⟩)⟩
      · have hr := run_endLoop (P := P) hl (by rw [hrec]; simp)
        rw [hrec] at hr
        exact ⟨none, _, hr, hdone _ xs _ (Nat.le_refl _) hS (hI.putObj _ hi (by omega) hl rfl) ((World.putObj_heap_other (by omega)).trans hk)⟩
      · have hr := run_endLoop (P := P) hl (by rw [hrec]; simp)
        rw [hrec] at hr
        exact ⟨some c, _, hr, hstop _ c pre _ (Nat.le_refl _) hSp ((hIx c).putObj _ hi (by omega) hl rfl) ((World.putObj_heap_other (by omega)).trans hk)⟩
end Go.Proofs.YtnidkcedomhofaaGreatDoor

/-
  The library's iterator over the pieces of a text between semicolons.
-/
namespace Go.Proofs.YtnidkcedomhofaaGreatDoor
open Go.RowKit Go.Shelf
attribute [local go_sem] Oper.semAt_some

theorem splitS_index : ∀ (l acc : List UInt8), (Lib.indexByte l 59 = -1 ∧ splitC 59 acc l = [acc ++ l]) ∨ ∃ i : Nat, Lib.indexByte l 59 = (i : Int) ∧ i < l.length ∧ splitC 59 acc l = (acc ++ l.take i) :: splitC 59 [] (l.drop (i + 1))
  | [], acc => .inl ⟨rfl, by simp [splitC]⟩
  | c :: l, acc => by
    by_cases h : c = 59
    · subst h
      exact .inr ⟨0, rfl, by simp, by simp [splitC]⟩
    · have hb : (c == 59) = false := by rw [beq_eq_false_iff_ne]; exact h
      have e : splitC 59 acc (c :: l) = splitC 59 (acc ++ [c]) l := by rw [splitC, if_neg h]
      rcases splitS_index l (acc ++ [c]) with ⟨h1, h2⟩ | ⟨i, h1, h2, h3⟩
      · refine .inl ⟨?_, by rw [e, h2]; simp⟩
        unfold Lib.indexByte
        rw [hb, h1]; rfl
      · refine .inr ⟨i + 1, ?_, by simp; omega, by rw [e, h3]; simp⟩
        unfold Lib.indexByte
        have : ((i : Int) == -1) = false := by rw [beq_eq_false_iff_ne]; omega
        rw [hb, h1, this]
        simp
/-- A piece. -/
abbrev Pc := { x : ByteArray // x.size ≤ 1048576 }
abbrev encsS (x : Pc) : Array Value := #[.string x.1]
def pcs (l : List Pc) : List (List UInt8) := l.map fun x => x.1.data.toList
/-- What a round keeps: what lay below n₀, and the iterator's three variables. -/
structure KpS (n₀ X : Nat) (A B : World) : Prop where
  below : Below n₀ A B
  b0 : B.heap[X]? = A.heap[X]?
  b1 : B.heap[X + 1]? = A.heap[X + 1]?
  b2 : B.heap[X + 2]? = A.heap[X + 2]?
theorem KpS.trans {n₀ X : Nat} {A B C : World} (h : KpS n₀ X A B) (k : KpS n₀ X B C) : KpS n₀ X A C := ⟨h.below.trans k.below, k.b0.trans h.b0, k.b1.trans h.b1, k.b2.trans h.b2⟩
theorem kpS_put {n₀ X z : Nat} (hn : n₀ ≤ z) (hs : X + 2 < z) (W : World) (l : Nat) (o o' : Obj) (hl : z ≤ l) (ho : W.heap[l]? = some o) (hc : o.isCells = false) : KpS n₀ X W (W.putObj l o') :=
  ⟨(Below.refl n₀ W).trans (belowV_put hn hl W o o' ho hc), World.putObj_heap_other (by omega), World.putObj_heap_other (by omega), World.putObj_heap_other (by omega)⟩
set_option maxRecDepth 100000 in
set_option maxHeartbeats 4000000 in
theorem split_x (X n₀ : Nat) (s : ByteArray) (hs : s.size ≤ 1048576) (w : World) (hX : X + 2 < w.heap.size) (h0 : w.cell? ⟨X, 0, none⟩ = some (.string s)) (hf0 : w.frozen? ⟨X, 0, none⟩ = false) (h1 : w.cell? ⟨X + 1, 0, none⟩ = some (.string ⟨#[59]⟩)) (h2 : w.cell? ⟨X + 2, 0, none⟩ = some (.int .i64 0)) :
    SeqX Tryz.prog 80 #[.pointer (some ⟨X + 1, 0, none⟩), .pointer (some ⟨X, 0, none⟩), .pointer (some ⟨X + 2, 0, none⟩)] encsS (KpS n₀ X) (fun xs => pcs xs = splitC 59 [] s.data.toList) (fun xs => pcs xs <+: splitC 59 [] s.data.toList) X (splitC 59 [] s.data.toList).length w := by
  intro l J Jx W hW hJ hJX hY hJ0
  have c0 := (hW.cell (p := ⟨X, 0, none⟩) (by show X < _; omega)).trans h0
  have c1 := (hW.cell (p := ⟨X + 1, 0, none⟩) (by show X + 1 < _; omega)).trans h1
  have c2 := (hW.cell (p := ⟨X + 2, 0, none⟩) (by show X + 2 < _; omega)).trans h2
  have cf := (hW.frozen (p := ⟨X, 0, none⟩) (by show X < _; omega)).trans hf0
  show Calls Tryz.prog 80 #[.func (.yield l) #[] #[], .pointer (some ⟨X + 1, 0, none⟩), .pointer (some ⟨X, 0, none⟩), .pointer (some ⟨X + 2, 0, none⟩)] W _
  refine (callsIn_wide (n := 3)).1 ?_
  refine callsIn_of_wp Tryz.func80 rfl trivial ?_ rfl
  simp only [Tryz.ntmps80, List.size_toArray, List.length_cons, List.length_nil, Nat.reduceAdd, Nat.reduceSub, Array.replicate_succ, Array.replicate_zero, List.push_toArray, List.append_toArray, List.nil_append, List.cons_append]
  clear hW h0 h1 h2 hf0
  have HJ := Lib.hid hJ0
  have HJX := Lib.hid hJX
  have HY := Lib.hid hY
  have hne1 : ¬ X = X + 1 := by omega
  have hne2 : ¬ X = X + 2 := by omega
  clear hJ0 hJ hJX hY hX
  gi_wp2
  gi_loopw [7] (fun v wr => ∃ (r : ByteArray) (pre : List Pc), r.size ≤ s.size ∧ wr.cell? ⟨X, 0, none⟩ = some (.string r) ∧ wr.frozen? ⟨X, 0, none⟩ = false ∧ wr.cell? ⟨X + 1, 0, none⟩ = some (.string ⟨#[59]⟩) ∧ wr.cell? ⟨X + 2, 0, none⟩ = some (.int .i64 0) ∧ Hid (J pre wr) ∧ Hid (pcs pre ++ splitC 59 [] r.data.toList = splitC 59 [] s.data.toList))
    (fun _ wr => match wr.cell? ⟨X, 0, none⟩ with | some (.string r) => r.size | _ => 0)
  case atStart => exact ⟨s, [], Nat.le_refl _, c0, cf, c1, c2, HJ, Lib.hid rfl⟩
  case round =>
    clear HJ c0 c1 c2 cf
    obtain ⟨r, pre, hr, c0, cf, c1, c2, HJ, HP⟩ := hrel
    have ci := fun W => Tryz.strings_Index_one r 59 W
    rcases splitS_index r.data.toList [] with ⟨e1, e2⟩ | ⟨i, e1, e2, e3⟩
    · rw [e1] at ci
      have HS := Lib.hid e2
      have hN : pre.length < (splitC 59 [] s.data.toList).length := by
        rw [← HP.out, HS.out]
        simp [pcs]
      obtain ⟨fn, tmps, assign, body, hy, hR⟩ := HY.out pre ⟨r, Nat.le_trans hr hs⟩ wr HJ.out hN
      dsimp only [encsS] at hy
      have HR := Lib.hid hR
      clear e1 e2 hR hN
      gi_wp2_with (refine ⟨trivial, ?_⟩; gi_at_call 82; refine (callsIn_wide.2 (ci _)).mono ?_; rintro e w' ⟨rfl, hw⟩; subst w')
      refine (round_deepV HR.out).mono ?_
      rintro e W3 (⟨rfl, hJ3, hk3⟩ | ⟨rfl, hJx3⟩)
      rotate_left
      · have HJ3 := Lib.hid hJx3
        clear hJx3
        gi_wp2
        go_end0
        refine ⟨⟨_, rfl⟩, .inr ⟨_, ?_, HJ3.out⟩⟩
        rw [← HP.out, HS.out]
        simp [pcs]
      · have HJ3 := Lib.hid hJ3
        clear hJ3 hk3
        gi_wp2
        go_end0
        refine ⟨⟨_, rfl⟩, .inl ⟨_, ?_, HJ3.out⟩⟩
        rw [← HP.out, HS.out]
        simp [pcs]
    · rw [e1] at ci
      have HS := Lib.hid e3
      have hil : i < r.size := by rw [← listB]; exact e2
      have hle : (i : Int) ≤ (r.size : Int) := by omega
      have hle1 : (i : Int) + 1 ≤ (r.size : Int) := by omega
      have x1 := pieceB r 0 i
      have x2 := pieceB r (i + 1) r.size
      have s2 : (r.extract (i + 1) r.size).size = r.size - (i + 1) := by rw [← listB, x2, List.length_take, List.length_drop, listB]; omega
      have x2' : (r.extract (i + 1) r.size).data.toList = r.data.toList.drop (i + 1) := by rw [x2, List.take_of_length_le (by rw [List.length_drop, listB]; omega)]
      have x1' : (r.extract 0 i).data.toList = r.data.toList.take i := by rw [x1]; simp
      have HX := Lib.hid (And.intro x1' x2')
      have S2 := Lib.hid s2
      have HIL := Lib.hid hil
      have hN : pre.length < (splitC 59 [] s.data.toList).length := by
        rw [← HP.out, HS.out]
        simp [pcs]
        try omega
      obtain ⟨fn, tmps, assign, body, hy, hR⟩ := HY.out pre ⟨r.extract 0 i, Nat.le_trans (pieceB_size r 0 i) (Nat.le_trans hr hs)⟩ wr HJ.out hN
      dsimp only [encsS] at hy
      have HR := Lib.hid hR
      have hi0 : ¬ (i : Int) < 0 := by omega
      clear e1 e2 e3 hR x1 x2 s2 x2' x1' hN
      gi_wp2_with (refine ⟨trivial, ?_⟩; gi_at_call 82; refine (callsIn_wide.2 (ci _)).mono ?_; rintro e w' ⟨rfl, hw⟩; subst w')
      refine (round_deepV HR.out).mono ?_
      rintro e W3 (⟨rfl, hJ3, hk3⟩ | ⟨rfl, hJx3⟩)
      rotate_left
      · have HJ3 := Lib.hid hJx3
        clear hJx3
        gi_wp2
        refine bodyPost_ret (results_none rfl _ _ _) rfl ?_
        refine ⟨⟨_, rfl⟩, .inr ⟨_, ?_, HJ3.out⟩⟩
        rw [← HP.out, HS.out]
        refine ⟨splitC 59 [] (r.data.toList.drop (i + 1)), ?_⟩
        simp [pcs]
      · have d0 := (World.cell?_of_block (a := ⟨X, 0, none⟩) hk3.b0).trans c0
        have d1 := (World.cell?_of_block (a := ⟨X + 1, 0, none⟩) hk3.b1).trans c1
        have d2 := (World.cell?_of_block (a := ⟨X + 2, 0, none⟩) hk3.b2).trans c2
        have df : W3.frozen? ⟨X, 0, none⟩ = false := by
          have := hk3.b0
          unfold World.frozen? at cf ⊢
          rw [this]; exact cf
        have HJ3 := Lib.hid (HJX.out _ W3 (W3.setCell ⟨X, 0, none⟩ (.string (r.extract (i + 1) r.size))) hJ3 (grownBy_setCell' W3 X _))
        have HC0 := Lib.hid c0
        clear hJ3 hk3 c0 c1 c2 cf HJ
        gi_wp2
        go_roundw
        case rel =>
          refine ⟨r.extract (i + 1) r.size, _, ?_, ?_, ?_, ?_, ?_, HJ3, Lib.hid ?_⟩
          · rw [S2.out]; omega
          · go_simp
          · go_simp
          · go_simp
          · go_simp
          · rw [← HP.out, HS.out]
            rw [HX.out.2]
            simp [pcs]
        case measure =>
          have := S2.out
          have hil := HIL.out
          have e := HC0.out
          simp only [e]
          go_simp
          omega
end Go.Proofs.YtnidkcedomhofaaGreatDoor
