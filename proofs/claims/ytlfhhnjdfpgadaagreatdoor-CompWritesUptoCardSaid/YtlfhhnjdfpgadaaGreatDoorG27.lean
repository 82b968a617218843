/-
  A range over a function whose iterator runs loops of its own over itself: what the iterator and the caller owe one another, and the law of the loop.
-/
import Derived.RangeFuncNested
import Derived.Test.YtlfhhnjdfpgadaaGreatDoorG24
import Derived.Test.YtlfhhnjdfpgadaaGreatDoorG23
import Derived.Test.YtlfhhnjdfpgadaaGreatDoorG18
import Derived.Test.YtlfhhnjdfpgadaaGreatDoorG09
import Derived.Test.YtlfhhnjdfpgadaaGreatDoorG16
namespace Go.Proofs.YtlfhhnjdfpgadaaGreatDoor
open Go.RowKit Go.Shelf

/-- Whatever the depth. -/
theorem round_deep {m m' : Nat} {P : Program} {l : Nat} {f : FuncId} {tmps : Array Value} {assign body : Code} {w : World} {R : Ending → World → Prop} (h : RoundIn Fence.wide m P l f tmps assign body w R) : RoundIn Fence.wide m' P l f tmps assign body w R := ⟨h.1, fun c cs _ => h.2 c cs (fun d hd => by cases hd)⟩
theorem yield_deep {m : Nat} (m' : Nat) {P : Program} {l : Nat} {args : Array Value} {W : World} {R : Ending → World → Prop} (h : YieldAt Fence.wide m P l args W R) : YieldAt Fence.wide m' P l args W R := by
  obtain ⟨fn, tmps, assign, body, hy, hR⟩ := h
  exact ⟨fn, tmps, assign, body, hy, round_deep hR⟩
/-- The iterator's side: over whatever abides what is laid and turned behind the call's own heap. -/
def SeqR {α : Type} (P : Program) (g : Nat) (lb : Array Value) (encs : α → Array Value) (Kp : World → World → Prop) (S Sp : List α → Prop) (w : World) : Prop :=
  ∀ (l : Nat) (J Jx : List α → World → Prop) (W : World), Below w.heap.size w W → OwnFrom W.heap.size J → OwnFrom W.heap.size Jx →
    (∀ pre x W1, J pre W1 → YieldAt Fence.wide 0 P l (encs x) W1 fun e W' =>
      (e = .returned (.bool true) ∧ J (pre ++ [x]) W' ∧ Kp W1 W' ∧ KeepsFrom W.heap.size W1 W') ∨ (e = .returned (.bool false) ∧ Jx (pre ++ [x]) W' ∧ KeepsFrom W.heap.size W1 W')) →
    J [] W →
    Calls P g (#[.func (.yield l) #[] #[]] ++ lb) W fun e W' => (∃ v, e = .returned v) ∧ ((∃ xs, S xs ∧ J xs W') ∨ (∃ pre, Sp pre ∧ Jx pre W'))
theorem ownFrom_up {β : Type} {B B' : Nat} {I : β → World → Prop} (h : OwnFrom B I) (hB : B ≤ B') : OwnFrom B' I := fun s W W' row hs hg hr => h s W W' row hs hg (fun r e => ⟨by have := (hr r e).1; omega, (hr r e).2⟩)
theorem ownFrom_block {β : Type} {B k : Nat} {o : Obj} (hk : k < B) : OwnFrom B (fun (_ : β) W => W.heap[k]? = some o) := fun s W W' row hs hg hr =>
  (hg.block k (Array.getElem?_eq_some_iff.1 hs).1 (fun e => by have := (hr k e.symm).1; omega)).trans hs
/-- The loop's side. -/
theorem rangeFunc_rec {P : Program} {α : Type} {g : Operand} {ps : Array Tmp} {assign body : Code} {Q : Exit → Act → World → Prop} {a : Act} {w : World} {n : Nat}
    {gf : Nat} {lb : Array Value} (hg : a.eval g = .func (.func gf) #[] lb) (eg : ∀ args w, (callFunc gf args).run P w = .ok (.enter gf args) w)
    {encs : α → Array Value} {Kp : World → World → Prop} {S Sp : List α → Prop} {w0 : World} (hseq : SeqR P gf lb encs Kp S Sp w0)
    (hKt : ∀ {A B C : World}, Kp A B → Kp B C → Kp A C) (hKb : ∀ (W : World) (o o' : Obj), W.heap[w.heap.size + 1]? = some o → o.isCells = false → Kp W (W.putObj (w.heap.size + 1) o')) (hb0 : Below w0.heap.size w0 w) (hps : ∀ x, (encs x).size = ps.size)
    (I : List α → World → Prop) (Ix : Code → List α → World → Prop) (hI : OwnFrom w.heap.size I) (hIx : ∀ c, OwnFrom w.heap.size (Ix c)) (h0 : I [] w) (a₁ : α → Act)
    (hassign : ∀ (l : Nat) (x : α) (W : World) (K : Act → World → Prop), K (a₁ x) W →
      assign.wpIn (Fence.wide.inRound l) n P (Exit.then K (fun _ _ _ => False)) { tmps := (ps.zip (encs x)).foldl (fun t (p, v) => t.setIfInBounds p v) a.tmps, defers := [] } W)
    (hbody : ∀ (l : Nat) (pre : List α) (x : α) (W : World), I pre W → body.wpIn (Fence.wide.inRound l) n P (ownPostG w.heap.size Kp I Ix (pre ++ [x]) W) (a₁ x) W)
    (hdone : ∀ (D : Nat) (xs : List α) (W : World), w.heap.size ≤ D → S xs → I xs W → W.heap[D]? = some (.deferred (some [])) → Q .normal { a with defers := { target := .collected D, args := #[] } :: a.defers } W)
    (hstop : ∀ (D : Nat) (c : Code) (pre : List α) (W : World), w.heap.size ≤ D → Sp pre → Ix c pre W → W.heap[D]? = some (.deferred (some [])) → c.wpIn Fence.wide n P Q { a with defers := { target := .collected D, args := #[] } :: a.defers } W) :
    (Code.rangeFunc g ps assign body).wpIn Fence.wide n P Q a w := by
  refine wpIn_rangeFunc fun fn hfn => ?_
  show ∃ (l : Nat) (mark : List Deferred) (w₁ : World) (d : Deferred) (w₁' : World) (f : FuncId) (args : Array Value) (w₂ : World), (Instr.enterLoop fn a.tmps ps assign body none).run P w = .ok (l, mark) w₁ ∧ _
  obtain ⟨rec, hrec⟩ : ∃ rec : LoopState → Option Code → Loop, rec = fun st pe => { state := st, pending := pe, fn, tmps := a.tmps, params := ps, assign, body, defers := w.heap.size } := ⟨_, rfl⟩
  obtain ⟨W1, hW1⟩ : ∃ W1, (w.alloc (.deferred (some []))).alloc (.loop (rec .ready none)) = W1 := ⟨_, rfl⟩
  have hsz : W1.heap.size = w.heap.size + 2 := by rw [← hW1]; simp
  have hL1 : W1.heap[w.heap.size + 1]? = some (.loop (rec .ready none)) := by
    have := World.alloc_heap_new (w.alloc (.deferred (some []))) (.loop (rec .ready none))
    rw [World.size_alloc, hW1] at this
    exact this
  have hD1 : W1.heap[w.heap.size]? = some (.deferred (some [])) := by
    rw [← hW1]; exact (Below.heap_alloc _ _ _ (by simp)).trans (World.alloc_heap_new w _)
  have hI1 : I [] W1 := by rw [← hW1]; exact hI.alloc _ (hI.alloc _ h0)
  have hb1 : Below w0.heap.size w0 W1 := by
    rw [← hW1]; exact hb0.trans ((((Below.refl _ w).alloc (Nat.le_refl _) _).alloc (by simp) _).mono hb0.size)
  refine ⟨w.heap.size + 1, [{ target := .collected w.heap.size, args := #[] }], W1, { target := .fn (.func gf) lb, args := #[.func (.yield (w.heap.size + 1)) #[] #[]] }, W1, gf, #[.func (.yield (w.heap.size + 1)) #[] #[]] ++ lb, W1, ?_, ?_, fun f' _ => trivial, ?_, fun h => (by cases h), ?_⟩
  · rw [← hW1, hrec]; exact run_enterLoop_outer _ _ _ _ _
  · simp only [resolve, hg]
    simp [go_sem]
  · simp [invoke, go_sem, eg]
  · refine callsIn_wide.2 ((hseq (w.heap.size + 1) (fun pre W => I pre W ∧ W.heap[w.heap.size + 1]? = some (.loop (rec .ready none)) ∧ W.heap[w.heap.size]? = some (.deferred (some [])))
      (fun pre W => ∃ c, Ix c pre W ∧ W.heap[w.heap.size + 1]? = some (.loop (rec .done (some c))) ∧ W.heap[w.heap.size]? = some (.deferred (some []))) W1 hb1
      ((ownFrom_up hI (by omega)).and ((ownFrom_block (by omega)).and (ownFrom_block (by omega))))
      (fun s A B row ⟨c, h1, h2, h3⟩ hg' hr => ⟨c, ((ownFrom_up (hIx c) (by omega)).and ((ownFrom_block (by omega)).and (ownFrom_block (by omega)))) s A B row ⟨h1, h2, h3⟩ hg' hr⟩) ?_ ⟨hI1, hL1, hD1⟩).mono ?_)
    · rintro pre x W ⟨hi, hl, hk⟩
      have hlt : w.heap.size + 1 < W.heap.size := (Array.getElem?_eq_some_iff.1 hl).1
      have hy := run_yield (P := P) (args := encs x) hl (by rw [hrec]; exact hps x)
      rw [hrec] at hy
      refine yield_deep 0 (m := n) ⟨fn, _, assign, body, hy, roundIn_of_wpIn hfn (hassign _ x W _ ?_)⟩
      refine ⟨_, run_beginRound hl (by rw [hrec]), ?_⟩
      have hl2 : (W.putObj (w.heap.size + 1) (.loop { rec .ready none with state := .busy })).heap[w.heap.size + 1]? = some (.loop { rec .ready none with state := .busy }) := World.putObj_heap_same hlt
      have hk2 : (W.putObj (w.heap.size + 1) (.loop { rec .ready none with state := .busy })).heap[w.heap.size]? = some (.deferred (some [])) := (World.putObj_heap_other (by omega)).trans hk
      have hkf : KeepsFrom W1.heap.size W (W.putObj (w.heap.size + 1) (.loop { rec .ready none with state := .busy })) := KeepsFrom.of_grownBy (grownBy_putObj' W _ _) (fun j e => by cases e; omega)
      have hkp := hKb W _ (.loop { rec .ready none with state := .busy }) hl rfl
      refine wpIn_mono (hbody _ pre x _ (hI.putObj _ hi (by omega) hl rfl)) ?_
      have fin : ∀ (jump : Option Code) (W3 : World), KeepsFrom w.heap.size (W.putObj (w.heap.size + 1) (.loop { rec .ready none with state := .busy })) W3 →
          ∃ W4, (Instr.endRound (w.heap.size + 1) jump).run P W3 = .ok (.bool jump.isNone) W4 ∧ (∀ {J : List α → World → Prop} {s : List α}, OwnFrom w.heap.size J → J s W3 → J s W4) ∧
            W4.heap[w.heap.size + 1]? = some (.loop (rec (if jump.isNone then .ready else .done) jump)) ∧ W4.heap[w.heap.size]? = some (.deferred (some [])) ∧ KeepsFrom W1.heap.size W W4 ∧ (Kp (W.putObj (w.heap.size + 1) (.loop { rec .ready none with state := .busy })) W3 → Kp W W4) := fun jump W3 hk3 => by
        have hl3 := hk3.same _ _ (by omega) hl2 rfl
        refine ⟨W3.putObj (w.heap.size + 1) (.loop (rec (if jump.isNone then .ready else .done) jump)), ?_, fun hJ hs => hJ.putObj _ hs (by omega) hl3 rfl, World.putObj_heap_same (Array.getElem?_eq_some_iff.1 hl3).1, (World.putObj_heap_other (by omega)).trans (hk3.same _ _ (Nat.le_refl _) hk2 rfl), ?_, fun hp => hKt (hKt hkp hp) (hKb W3 _ _ hl3 rfl)⟩
        · have hr := run_endRound (P := P) jump hl3
          rw [hrec] at hr ⊢
          exact hr
        · exact (hkf.trans ⟨hk3.size, fun k o hB h1 ho => hk3.same k o (by omega) h1 ho⟩).trans (KeepsFrom.of_grownBy (grownBy_putObj' W3 _ _) (fun j e => by cases e; omega))
      rintro e a3 W3 hp
      cases e with
      | normal =>
        obtain ⟨hk3, hkp3, hi3⟩ := hp
        obtain ⟨W4, hr, hJ, h1, h2, h3, h4⟩ := fin none W3 hk3
        exact ⟨_, _, hr, .inl ⟨rfl, ⟨hJ hI hi3, h1, h2⟩, h4 hkp3, h3⟩⟩
      | ret =>
        obtain ⟨hk3, hi3⟩ := hp
        obtain ⟨W4, hr, hJ, h1, h2, h3, h4⟩ := fin (some .ret) W3 hk3
        exact ⟨_, _, hr, .inr ⟨rfl, ⟨.ret, hJ (hIx _) hi3, h1, h2⟩, h3⟩⟩
      | exit id =>
        obtain ⟨hk3, hi3⟩ := hp
        obtain ⟨W4, hr, hJ, h1, h2, h3, h4⟩ := fin (some (.exit id)) W3 hk3
        exact ⟨_, _, hr, .inr ⟨rfl, ⟨.exit id, hJ (hIx _) hi3, h1, h2⟩, h3⟩⟩
      | goto t =>
        obtain ⟨hk3, hi3⟩ := hp
        obtain ⟨W4, hr, hJ, h1, h2, h3, h4⟩ := fin (some (.goto t)) W3 hk3
        exact ⟨_, _, hr, .inr ⟨rfl, ⟨.goto t, hJ (hIx _) hi3, h1, h2⟩, h3⟩⟩
      | panic ch => exact hp.elim
      | outgrown => exact hp.elim
    · rintro e W2 ⟨⟨v, rfl⟩, (⟨xs, hS, hi, hl, hk⟩ | ⟨pre, hSp, c, hi, hl, hk⟩)⟩
      · have hr := run_endLoop (P := P) hl (by rw [hrec]; simp)
        rw [hrec] at hr
        exact ⟨none, _, hr, hdone _ xs _ (Nat.le_refl _) hS (hI.putObj _ hi (by omega) hl rfl) ((World.putObj_heap_other (by omega)).trans hk)⟩
      · have hr := run_endLoop (P := P) hl (by rw [hrec]; simp)
        rw [hrec] at hr
        exact ⟨some c, _, hr, hstop _ c pre _ (Nat.le_refl _) hSp ((hIx c).putObj _ hi (by omega) hl rfl) ((World.putObj_heap_other (by omega)).trans hk)⟩
end Go.Proofs.YtlfhhnjdfpgadaaGreatDoor

/-
  The program's functions of layer 11: which properties can be, and how they are written.
-/
namespace Go.Proofs.YtlfhhnjdfpgadaaGreatDoor
open Go.RowKit

theorem qt_pv (l : List UInt8) : (l.all fun c => qtN c.toNat) = l.all (pvC false) := by
  congr 1; funext c; unfold pvC qtN; rw [st_ctl]; simp
theorem st_pv (l : List UInt8) : (l.all fun c => stN c.toNat) = l.all (pvC true) := by
  congr 1; funext c; unfold pvC; rw [st_ctl]; simp
set_option maxRecDepth 100000 in
set_option maxHeartbeats 8000000 in
theorem pFit_x (nm vl : ByteArray) (L : Option Addr) (n c : Nat) (l : List PR) (w : World) (hR : Reads w w.heap.size 2 L n (encP l)) (hP : ∀ r ∈ l, POk w w.heap.size r) (hn : n ≤ c) (hc : c ≤ maxLen) (hsz : nm.size + psizes l + vl.size ≤ 1048576) (hf : Forms w) :
    Calls Tryz.prog 66 #[.agg #[.string nm, .slice L n c, .string vl]] w fun e w' => e = .returned (.bool (fitB (proOf nm l vl))) ∧ Below w.heap.size w w' := by
  have hb0 : Below w.heap.size w (w.alloc (.cells #[.string nm, .slice L n c, .string vl] 30)) := (Below.refl _ w).alloc (Nat.le_refl _) _
  have HA := Lib.hid (And.intro (PA.new hR hP hn hc nm vl) (And.intro hb0 (hf.step hb0)))
  have hnm : n ≤ 9223372036854775807 := by have := hc; unfold maxLen at this; omega
  have HSZ := Lib.hid hsz
  have HPS : Hid (∀ r, r ∈ l → r.name.size ≤ 1048576 ∧ ∀ v ∈ r.vs, v.size ≤ 1048576) := Lib.hid fun r hr => by
    have h1 := psize_le hr
    unfold psize at h1
    refine ⟨by omega, fun v hv => ?_⟩
    have : v.size + 1 ≤ vsize r.vs := vsize_le hv
    omega
  have hvl : vl.size ≤ 1048576 := by omega
  have c1 := fun W => isName_any nm (by omega) W
  have egQ : ∀ args W, (callFunc 80 args).run Tryz.prog W = .ok (.enter 80 args) W := enters_of Tryz.func80 (by kernel_rfl) rfl
  have egS : ∀ args W, (callFunc 81 args).run Tryz.prog W = .ok (.enter 81 args) W := enters_of Tryz.func81 (by kernel_rfl) rfl
  have cQ := Lib.hid fun (v : ByteArray) (hv : v.size ≤ 16777216) (W : World) => hasOnly_any 80 (fun c => qtN c.toNat) egQ (fun c W => pQuote_any c.toNat c.toNat_lt W) v hv W
  have cS := fun (W : World) => hasOnly_any 81 (fun c => stN c.toNat) egS (fun c W => pStand_any c.toNat c.toNat_lt W) vl (by omega) W
  have HL := Lib.hid HA.out.1.len
  have E0 := Lib.hid (show fitB (proOf nm l vl) = (nameB nm.data.toList && (decide (n ≤ 16) && ((l.map parOf).all parB && ((vld vl.data.toList && vl.data.toList.all fun c => stN c.toNat) && decide ((textL (proOf nm l vl)).length ≤ 1024))))) by
    unfold fitB
    rw [show (proOf nm l vl).pars.length = n by unfold proOf; rw [List.length_map]; exact HL.out, st_pv]
    show (nameB nm.data.toList && (decide (n ≤ 16) && ((vl.data.toList.all (pvC true) && vld vl.data.toList) && ((l.map parOf).all parB && _)))) = _
    generalize vl.data.toList.all (pvC true) = a
    generalize vld vl.data.toList = b
    generalize (l.map parOf).all parB = d
    cases a <;> cases b <;> cases d <;> simp)
  have HCS : Hid (∀ W, Calls Tryz.prog 89 #[.string vl, .func (.func 81) #[] #[]] W fun e w' => e = .returned (.bool (vl.data.toList.all fun c => stN c.toNat)) ∧ w' = W) := Lib.hid cS
  clear hR hP hn hc hsz hf hb0 cS egQ egS
  generalize (vl.data.toList.all fun c => stN c.toNat) = sv at *
  obtain ⟨vv, hvv⟩ : ∃ vv, vld vl.data.toList = vv := ⟨_, rfl⟩
  rw [hvv] at E0
  have HVD := Lib.hid hvv
  clear hvv
  obtain ⟨F, hF⟩ : ∃ F, fitB (proOf nm l vl) = F := ⟨_, rfl⟩
  rw [hF] at E0 ⊢
  clear hF
  generalize nameB nm.data.toList = b1 at *
  go_enter Tryz.func66, Tryz.ntmps66
  generalize hW : w.alloc (.cells #[.string nm, .slice L n c, .string vl] 30) = w1 at HA
  obtain ⟨x0, x1, x2⟩ := HA.out.1.bx.cells
  have HW := Lib.hid hW
  cases b1
  · have E : Hid (F = false) := Lib.hid (by rw [E0.out]; rfl)
    go_wp2_with (go_at_call 88; ((with_reducible refine (c1 _).mono ?_); rintro e w' ⟨rfl, hw⟩; subst w'))
    go_ret
    exact ⟨by rw [E.out]; rfl, HA.out.2.1⟩
  rw [Bool.true_and] at E0
  by_cases h16 : n ≤ 16
  · rw [decide_eq_true h16, Bool.true_and] at E0
    have g16 : decide ((16 : Int) < (n : Int)) = false := decide_eq_false (by omega)
    go_wp2_with (go_at_call 88; ((with_reducible refine (c1 _).mono ?_); rintro e w' ⟨rfl, hw⟩; subst w'))
    clear x0 x1 x2 c1 g16 hW
    go_loopg [20] n (fun g s3 wr => ∃ i : Nat, s3 = .int .i64 i ∧ i ≤ n ∧ n - i ≤ g ∧ Hid (PA wr w.heap.size nm vl L n c l ∧ Below w.heap.size w wr ∧ Forms wr) ∧ Hid ((l.map parOf).all parB = ((l.map parOf).drop i).all parB))
    case atStart => exact ⟨0, rfl, Nat.zero_le _, by omega, HA, Lib.hid rfl⟩
    case round =>
      clear HA
      obtain ⟨i, rfl, hi, hg, HJ, HV⟩ := hrel
      obtain ⟨x0, x1, x2⟩ := HJ.out.1.bx.cells
      by_cases hlt : i < n
      · obtain ⟨r, hr⟩ : ∃ r, l[i]? = some r := ⟨l[i]'(by have := HL.out; omega), List.getElem?_eq_getElem (by have := HL.out; omega)⟩
        obtain ⟨b, o, hLe, q0, q1⟩ := HJ.out.1.at hr
        have hmem := List.mem_of_getElem? hr
        have HST := Lib.hid (alls_drop (f := parB) (l := l.map parOf) (i := i) (x := parOf r) (by rw [List.getElem?_map, hr]; rfl))
        obtain ⟨hrn, hvv⟩ := HPS.out r hmem
        have HVV := Lib.hid hvv
        have cn := fun W => isName_any r.name (by omega) W
        have HPB := Lib.hid (show parB (parOf r) = (nameB r.name.data.toList && (decide (r.vs.map (fun v => v.data.toList) ≠ []) && (r.vs.map (fun v => v.data.toList)).all fun v => plainB v false)) from rfl)
        have hxb : Below wr.heap.size wr (wr.alloc (.cells #[.string r.name, .slice r.K r.k r.kc] 56)) := (Below.refl _ wr).alloc (Nat.le_refl _) _
        have HX := Lib.hid (X2.new wr r)
        have HJ2 := Lib.hid (And.intro (HJ.out.1.step hxb) (And.intro (bstep HJ.out.2.1 hxb) (HJ.out.2.2.step hxb)))
        have HLM : Hid (r ∈ l) := Lib.hid hmem
        have HKL := Lib.hid (HJ.out.1.vs r hmem).len
        have hkm : r.k ≤ 9223372036854775807 := by have a := (HJ.out.1.vs r hmem).le; have b := (HJ.out.1.vs r hmem).cap; unfold maxLen at b; omega
        clear hr hmem hvv hxb HJ
        subst hLe
        generalize nameB r.name.data.toList = bn at *
        cases bn
        · have E : Hid (F = false) := Lib.hid (by rw [E0.out, HV.out, HST.out, HPB.out]; rfl)
          go_wp2_with (go_at_call 88; ((with_reducible refine (cn _).mono ?_); rintro e w' ⟨rfl, hw⟩; subst w'))
          go_ret
          exact ⟨by rw [E.out]; rfl, HJ2.out.2.1⟩
        by_cases hk0 : r.k = 0
        · have hv : r.vs = [] := List.eq_nil_of_length_eq_zero (by rw [HKL.out]; exact hk0)
          have E : Hid (F = false) := Lib.hid (by rw [E0.out, HV.out, HST.out, HPB.out, hv]; rfl)
          have k0 : ((r.k : Int) == 0) = true := by rw [beq_iff_eq]; omega
          clear hv hk0
          go_wp2_with (go_at_call 88; ((with_reducible refine (cn _).mono ?_); rintro e w' ⟨rfl, hw⟩; subst w'))
          go_ret
          exact ⟨by rw [E.out]; rfl, HJ2.out.2.1⟩
        have hvne : r.vs.map (fun v => v.data.toList) ≠ [] := fun e => by
          have := congrArg List.length e
          rw [List.length_map, HKL.out, List.length_nil] at this
          exact hk0 this
        rw [Bool.true_and, decide_eq_true hvne, Bool.true_and] at HPB
        have k0 : ((r.k : Int) == 0) = false := by rw [beq_eq_false_iff_ne]; omega
        clear hvne
        go_wp2_with (go_at_call 88; ((with_reducible refine (cn _).mono ?_); rintro e w' ⟨rfl, hw⟩; subst w'))
        generalize hpx : wr.heap.size = X at *
        clear cn k0 q0 q1 x0 x1 x2 HX hpx
        obtain ⟨rK, hrK⟩ : ∃ rK, r.K = rK := ⟨_, rfl⟩
        rw [hrK] at HJ2 ⊢
        have HRK := Lib.hid hrK
        clear hrK
        go_loopg [37] r.k (fun g2 s5 wr2 => ∃ k : Nat, s5 = .int .i64 k ∧ k ≤ r.k ∧ r.k - k ≤ g2 ∧ Hid (PA wr2 w.heap.size nm vl (some ⟨b, o, none⟩) n c l ∧ Below w.heap.size w wr2 ∧ Forms wr2) ∧ Hid (((r.vs.map (fun v => v.data.toList)).all fun v => plainB v false) = (((r.vs.map (fun v => v.data.toList)).drop k).all fun v => plainB v false)))
        case atStart => exact ⟨0, rfl, Nat.zero_le _, by omega, HJ2, Lib.hid rfl⟩
        case round =>
          clear HJ2
          obtain ⟨k, rfl, hk, hg2, HJ3, HU⟩ := hrel
          by_cases hlt2 : k < r.k
          · obtain ⟨v, hv⟩ : ∃ v, r.vs[k]? = some v := ⟨r.vs[k]'(by have := HKL.out; omega), List.getElem?_eq_getElem (by have := HKL.out; omega)⟩
            obtain ⟨b2, o2, hKe, q2⟩ := (HJ3.out.1.vs r HLM.out).at hv
            have hvs := HVV.out v (List.mem_of_getElem? hv)
            have HUS := Lib.hid (alls_drop (f := fun v => plainB v false) (l := r.vs.map fun v => v.data.toList) (i := k) (x := v.data.toList) (by rw [List.getElem?_map, hv]; rfl))
            have HPV := Lib.hid (show plainB v.data.toList false = ((v.data.toList.all fun c => qtN c.toNat) && vld v.data.toList) by rw [qt_pv]; rfl)
            have cv := valid_any v (by omega) _ HJ3.out.2.2
            have co := fun W => cQ.out v (by omega) W
            have hK2 := HRK.out.symm.trans hKe
            subst hK2
            clear hv hKe
            generalize (v.data.toList.all fun c => qtN c.toNat) = bq at *
            generalize vld v.data.toList = bv at *
            go_wp2_with fail
            refine cv.mono ?_
            rintro e w7 ⟨rfl, hb7⟩
            have HJ4 := Lib.hid (And.intro (HJ3.out.1.step hb7) (And.intro (bstep HJ3.out.2.1 hb7) (HJ3.out.2.2.step hb7)))
            clear cv hb7 HJ3 q2
            cases bv
            · have E : Hid (F = false) := Lib.hid (by rw [E0.out, HV.out, HST.out, HPB.out, HU.out, HUS.out, HPV.out]; simp)
              go_wp2
              go_ret
              exact ⟨by rw [E.out]; rfl, HJ4.out.2.1⟩
            cases bq
            · have E : Hid (F = false) := Lib.hid (by rw [E0.out, HV.out, HST.out, HPB.out, HU.out, HUS.out, HPV.out]; simp)
              go_wp2_with (go_at_call 89; ((with_reducible refine (co _).mono ?_); rintro e w' ⟨rfl, hw⟩; subst w'))
              go_ret
              exact ⟨by rw [E.out]; rfl, HJ4.out.2.1⟩
            · have HU2 := Lib.hid (HU.out.trans HUS.out)
              rw [HPV.out, Bool.and_self, Bool.true_and] at HU2
              go_wp2_with (go_at_call 89; ((with_reducible refine (co _).mono ?_); rintro e w' ⟨rfl, hw⟩; subst w'))
              go_roundg (r.k - (k + 1))
              case measure => omega
              case rel => exact ⟨k + 1, by go_num, by omega, by omega, HJ4, HU2⟩
          · obtain rfl : k = r.k := by omega
            have HV2 : Hid ((l.map parOf).all parB = ((l.map parOf).drop (i + 1)).all parB) := Lib.hid (by
              rw [HV.out, HST.out, HPB.out, HU.out, List.drop_eq_nil_of_le (by rw [List.length_map, HKL.out]; exact Nat.le_refl _)]; rfl)
            go_wp2
            go_roundg (n - (i + 1))
            case measure => omega
            case rel => exact ⟨i + 1, by go_num, by omega, by omega, HJ3, HV2⟩
      · obtain rfl : i = n := by omega
        have hall : (l.map parOf).all parB = true := by rw [HV.out, List.drop_eq_nil_of_le (by rw [List.length_map, HL.out]; exact Nat.le_refl _)]; rfl
        rw [hall, Bool.true_and] at E0
        have HNE : Hid (∀ r ∈ l, r.vs ≠ []) := Lib.hid fun r hr e => by
          have h1 := List.all_eq_true.1 hall (parOf r) (List.mem_map_of_mem hr)
          unfold parB parOf at h1
          rw [e] at h1
          simp at h1
        clear hall
        have cv := valid_any vl (by omega) wr HJ.out.2.2
        rw [HVD.out] at cv
        go_wp2_with fail
        refine cv.mono ?_
        rintro e w7 ⟨rfl, hb7⟩
        have HJ4 := Lib.hid (And.intro (HJ.out.1.step hb7) (And.intro (bstep HJ.out.2.1 hb7) (HJ.out.2.2.step hb7)))
        clear cv hb7 HJ x0 x1 x2
        obtain ⟨x0, x1, x2⟩ := HJ4.out.1.bx.cells
        have co := fun W => HCS.out W
        cases vv
        · have E : Hid (F = false) := Lib.hid (by rw [E0.out]; rfl)
          go_wp2
          go_ret
          exact ⟨by rw [E.out]; rfl, HJ4.out.2.1⟩
        cases sv
        · have E : Hid (F = false) := Lib.hid (by rw [E0.out]; rfl)
          go_wp2_with (go_at_call 89; ((with_reducible refine (co _).mono ?_); rintro e w' ⟨rfl, hw⟩; subst w'))
          go_ret
          exact ⟨by rw [E.out]; rfl, HJ4.out.2.1⟩
        rw [Bool.and_self, Bool.true_and] at E0
        have ct := written_any nm vl L i c l w7 HJ4.out.1.rd HJ4.out.1.vs HJ4.out.1.le HJ4.out.1.cap HSZ.out HNE.out
        have hts : (⟨(textL (proOf nm l vl)).toArray⟩ : ByteArray).size = (textL (proOf nm l vl)).length := mk_sizeL _
        generalize (⟨(textL (proOf nm l vl)).toArray⟩ : ByteArray) = T at *
        have HTS := Lib.hid hts
        clear hts
        by_cases h1024 : T.size ≤ 1024
        · have E : Hid (F = true) := Lib.hid (by rw [E0.out, ← HTS.out]; exact decide_eq_true h1024)
          go_wp2_with (first
            | (go_at_call 89; ((with_reducible refine (co _).mono ?_); rintro e w' ⟨rfl, hw⟩; subst w'))
            | (go_at_call 90; ((with_reducible refine ct.mono ?_); rintro e w8 ⟨rfl, hb8⟩)))
          go_ret
          exact ⟨by rw [E.out]; first | rfl | (simp; done) | (simp; omega), bstep HJ4.out.2.1 (by assumption)⟩
        · have E : Hid (F = false) := Lib.hid (by rw [E0.out, ← HTS.out]; exact decide_eq_false h1024)
          have hi2 : decide ((T.size : Int) ≤ 1024) = false := decide_eq_false (by omega)
          go_wp2_with (first
            | (go_at_call 89; ((with_reducible refine (co _).mono ?_); rintro e w' ⟨rfl, hw⟩; subst w'))
            | (go_at_call 90; ((with_reducible refine ct.mono ?_); rintro e w8 ⟨rfl, hb8⟩)))
          go_ret
          exact ⟨by rw [E.out]; first | rfl | (simp; done) | (simp; omega), bstep HJ4.out.2.1 (by assumption)⟩
  · have E : Hid (F = false) := Lib.hid (by rw [E0.out, decide_eq_false h16]; rfl)
    have g16 : decide ((16 : Int) < (n : Int)) = true := decide_eq_true (by omega)
    go_wp2_with (go_at_call 88; ((with_reducible refine (c1 _).mono ?_); rintro e w' ⟨rfl, hw⟩; subst w'))
    go_ret
    exact ⟨by rw [E.out]; rfl, HA.out.2.1⟩
set_option maxRecDepth 100000 in
set_option maxHeartbeats 2000000 in
theorem pPrint_x (nm vl : ByteArray) (L : Option Addr) (n c : Nat) (l : List PR) (w : World) (hR : Reads w w.heap.size 2 L n (encP l)) (hP : ∀ r ∈ l, POk w w.heap.size r) (hn : n ≤ c) (hc : c ≤ maxLen) (hsz : nm.size + psizes l + vl.size ≤ 1048576) (hf : Forms w) :
    Calls Tryz.prog 67 #[.agg #[.string nm, .slice L n c, .string vl]] w fun e w' => e = .returned (.string ⟨(prnL (proOf nm l vl)).toArray⟩) ∧ Below w.heap.size w w' := by
  have hb0 : Below w.heap.size w (w.alloc (.cells #[.string nm, .slice L n c, .string vl] 30)) := (Below.refl _ w).alloc (Nat.le_refl _) _
  have HA := Lib.hid (And.intro (PA.new hR hP hn hc nm vl) (And.intro hb0 (hf.step hb0)))
  have HSZ := Lib.hid hsz
  have cf := pFit_x nm vl L n c l _ HA.out.1.rd HA.out.1.vs hn hc hsz HA.out.2.2
  have HPN := Lib.hid (show prnL (proOf nm l vl) = if fitB (proOf nm l vl) = true then textL (proOf nm l vl) else [] from rfl)
  have HNE : Hid (fitB (proOf nm l vl) = true → ∀ r ∈ l, r.vs ≠ []) := Lib.hid fun hfit r hr e => by
    have hok := (fitB_iff _).1 hfit
    have := (hok.2.2.2.1 (parOf r) (List.mem_map_of_mem hr)).2.1
    unfold parOf at this
    rw [e] at this
    exact this rfl
  generalize fitB (proOf nm l vl) = F at *
  clear hR hP hn hc hsz hf hb0
  go_enter Tryz.func67, Tryz.ntmps67
  generalize hW : w.alloc (.cells #[.string nm, .slice L n c, .string vl] 30) = w1 at HA cf
  obtain ⟨x0, x1, x2⟩ := HA.out.1.bx.cells
  cases F
  · rw [if_neg (by decide)] at HPN
    go_wp2_with fail
    refine cf.mono ?_
    rintro e w2 ⟨rfl, hb2⟩
    have HB2 := Lib.hid (bstep HA.out.2.1 hb2)
    clear hb2 cf x0 x1 x2
    go_wp2
    go_ret
    exact ⟨by rw [HPN.out]; rfl, HB2.out⟩
  · rw [if_pos rfl] at HPN
    go_wp2_with fail
    refine cf.mono ?_
    rintro e w2 ⟨rfl, hb2⟩
    have HA2 := Lib.hid (And.intro (HA.out.1.step hb2) (bstep HA.out.2.1 hb2))
    clear hb2 cf hW HA x0 x1 x2
    obtain ⟨x0, x1, x2⟩ := HA2.out.1.bx.cells
    have ct := written_any nm vl L n c l w2 HA2.out.1.rd HA2.out.1.vs HA2.out.1.le HA2.out.1.cap HSZ.out (by first | exact HNE.out rfl | exact HNE.out trivial)
    go_wp2_with fail
    refine ct.mono ?_
    rintro e w3 ⟨rfl, hb3⟩
    have HB3 := Lib.hid (bstep HA2.out.2 hb3)
    clear hb3 ct x0 x1 x2
    go_wp2
    go_ret
    exact ⟨by rw [HPN.out]; rfl, HB3.out⟩
end Go.Proofs.YtlfhhnjdfpgadaaGreatDoor

/-
  The program's lines of a component, one by one: mathematics; isName and written; the iterator as it is made.
-/
namespace Go.Proofs.YtlfhhnjdfpgadaaGreatDoor
open Go.RowKit Go.Shelf
attribute [local go_sem] Oper.semAt_some

/-- A property's line; none of one that a component can't have. -/
def wrP (p : Pro) : List UInt8 := if p.name = beginT ∨ p.name = endT then [] else prnL p
/-- What the iterator hands out. -/
def seqP : Nat → CM → List (List UInt8)
  | 0, _ => [[]]
  | d + 1, .mk nm ps cs => if nameB nm = true then (beginT ++ 58 :: nm) :: (ps.map wrP ++ (cs.flatMap (seqP d) ++ [endT ++ 58 :: nm])) else [[]]
theorem prn_nil {p : Pro} : prnL p = [] ↔ fitB p = false := by
  unfold prnL
  cases h : fitB p with
  | false => simp
  | true =>
    rw [if_pos rfl]
    constructor
    · intro e
      have := congrArg List.length e
      simp [textL] at this
    · intro e; cases e
theorem wr_nil {p : Pro} : wrP p = [] ↔ propB p = false := by
  unfold wrP propB
  by_cases h1 : p.name = beginT
  · simp [h1]
  · by_cases h2 : p.name = endT
    · simp [h2]
    · rw [if_neg (by simp [h1, h2]), prn_nil]
      simp [h1, h2]
theorem wr_prn {p : Pro} (h : propB p = true) : wrP p = prnL p := by
  unfold propB at h
  simp only [Bool.and_eq_true, Bool.not_eq_true', decide_eq_false_iff_not] at h
  unfold wrP
  rw [if_neg (fun e => e.elim h.2.1 h.2.2)]
theorem wrP_len (p : Pro) : (wrP p).length ≤ 1024 := by
  unfold wrP
  split
  · simp
  · unfold prnL
    cases h : fitB p with
    | false => simp
    | true =>
      rw [if_pos rfl]
      exact ((fitB_iff p).1 h).2.2.2.2
theorem seq_fit : ∀ (d : Nat) (c : CM), (fitC d c = true → seqP d c = linesC c ∧ [] ∉ seqP d c) ∧ (fitC d c = false → [] ∈ seqP d c)
  | 0, .mk nm ps cs => ⟨fun h => (by rw [fitC] at h; cases h), fun _ => (by rw [seqP]; simp)⟩
  | d + 1, .mk nm ps cs => by
    have hcs : ∀ l : List CM, ((∀ c ∈ l, fitC d c = true) → l.flatMap (seqP d) = linesCs l ∧ [] ∉ l.flatMap (seqP d)) ∧ ((∃ c ∈ l, fitC d c = false) → [] ∈ l.flatMap (seqP d)) := by
      intro l
      refine ⟨?_, fun ⟨c, hc, hf⟩ => List.mem_flatMap.2 ⟨c, hc, (seq_fit d c).2 hf⟩⟩
      induction l with
      | nil => intro _; rw [linesCs]; exact ⟨rfl, by simp⟩
      | cons c l ih =>
        intro hl
        obtain ⟨a1, a2⟩ := (seq_fit d c).1 (hl c (List.mem_cons_self ..))
        obtain ⟨b1, b2⟩ := ih (fun c hc => hl c (List.mem_cons_of_mem _ hc))
        rw [List.flatMap_cons, linesCs, a1, b1]
        rw [a1] at a2
        rw [b1] at b2
        exact ⟨rfl, fun h => (List.mem_append.1 h).elim a2 b2⟩
    constructor
    · intro h
      obtain ⟨hn, hp, hc⟩ := fitC_mk h
      obtain ⟨c1, c2⟩ := (hcs cs).1 hc
      rw [seqP, if_pos hn, c1, linesC]
      rw [c1] at c2
      have e : ps.map wrP = ps.map prnL := List.map_congr_left fun p hq => wr_prn (hp p hq)
      rw [e]
      refine ⟨rfl, fun hm => ?_⟩
      rcases List.mem_cons.1 hm with hm | hm
      · exact absurd hm.symm (by simp)
      · rcases List.mem_append.1 hm with hm | hm
        · obtain ⟨p, hq, e2⟩ := List.mem_map.1 hm
          rw [← wr_prn (hp p hq), wr_nil, hp p hq] at e2
          cases e2
        · rcases List.mem_append.1 hm with hm | hm
          · exact c2 hm
          · exact absurd (List.mem_singleton.1 hm).symm (by simp)
    · intro h
      rw [seqP]
      cases hn : nameB nm with
      | false => rw [if_neg (by simp)]; simp
      | true =>
        rw [if_pos rfl]
        rw [fitC, hn, Bool.true_and, Bool.and_eq_false_iff] at h
        rcases h with h | h
        · obtain ⟨p, hq, e⟩ := List.all_eq_false.1 h
          refine List.mem_cons_of_mem _ (List.mem_append_left _ (List.mem_map.2 ⟨p, hq, wr_nil.2 (by simpa using e)⟩))
        · obtain ⟨c, hc, e⟩ := List.all_eq_false.1 h
          exact List.mem_cons_of_mem _ (List.mem_append_right _ (List.mem_append_left _ ((hcs cs).2 ⟨c, hc, by simpa using e⟩)))
theorem fit_name (nm : List UInt8) : fitB ⟨nm, [], []⟩ = nameB nm := by
  rw [Bool.eq_iff_iff, fitB_iff, nameB_iff]
  refine ⟨fun h => h.1, fun h => ⟨h, by simp, ⟨rfl, show vld [] = true by decide +kernel⟩, fun x hx => (by cases hx), ?_⟩⟩
  have := h.2.2.1
  simp [textL]; omega
set_option maxRecDepth 100000 in
theorem isName12 (s : ByteArray) (w : World) (hs : s.size ≤ 1048576) (hf : Forms w) : Calls Tryz.prog 45 #[.string s] w fun e w' => e = .returned (.bool (nameB s.data.toList)) ∧ Below w.heap.size w w' := by
  have cp := pFit_x s ⟨#[]⟩ none 0 0 [] w Reads.nil (fun r hr => by cases hr) (Nat.le_refl _) (by unfold maxLen; omega) (by have : (⟨#[]⟩ : ByteArray).size = 0 := rfl; have : psizes [] = 0 := rfl; omega) hf
  have e : fitB (proOf s [] ⟨#[]⟩) = nameB s.data.toList := fit_name _
  rw [e] at cp
  generalize nameB s.data.toList = b at cp ⊢
  clear e hs hf
  go_enter Tryz.func45, Tryz.ntmps45
  go_wp2_with fail
  refine cp.mono ?_
  rintro e w2 ⟨rfl, hb⟩
  go_wp2
  go_ret
  exact ⟨rfl, hb⟩
set_option maxRecDepth 100000 in
set_option maxHeartbeats 2000000 in
theorem written12 (q : QR) (w : World) (hq : QOk w w.heap.size q) (hM : qsize q ≤ 1048576) (hf : Forms w) : Calls Tryz.prog 46 #[.agg #[.string q.name, .slice q.L q.n q.c, .string q.vl]] w fun e w' => e = .returned (.string ⟨(wrP (proQ q)).toArray⟩) ∧ Below w.heap.size w w' := by
  have hb1 : Below w.heap.size w (w.alloc (.cells #[.string q.name, .slice q.L q.n q.c, .string q.vl] 30)) := (Below.refl _ w).alloc (Nat.le_refl _) _
  have P1 := P3.new w q.name q.vl q.L q.n q.c
  obtain ⟨x0, x1, x2⟩ := P1.cells
  have hq1 := hq.step hb1
  have cp := pPrint_x q.name q.vl q.L q.n q.c q.ps _ hq1.rd hq1.vs hq1.le hq1.cap (by unfold qsize at hM; omega) (hf.step hb1)
  have HB := Lib.hid hb1
  have f1 := strEqL q.name ⟨#[66, 69, 71, 73, 78]⟩
  have t1 : (⟨#[66, 69, 71, 73, 78]⟩ : ByteArray).toList = [66, 69, 71, 73, 78] := by simp
  have f2 := strEqL q.name ⟨#[69, 78, 68]⟩
  have t2 : (⟨#[69, 78, 68]⟩ : ByteArray).toList = [69, 78, 68] := by simp
  rw [t1, show (⟨#[66, 69, 71, 73, 78]⟩ : ByteArray).data.toList = beginT from rfl] at f1
  rw [t2, show (⟨#[69, 78, 68]⟩ : ByteArray).data.toList = endT from rfl] at f2
  have HW := Lib.hid (show wrP (proQ q) = if q.name.data.toList = beginT ∨ q.name.data.toList = endT then [] else prnL (proQ q) from rfl)
  have cp : Calls Tryz.prog 67 #[.agg #[.string q.name, .slice q.L q.n q.c, .string q.vl]] (w.alloc (.cells #[.string q.name, .slice q.L q.n q.c, .string q.vl] 30)) fun e w' => e = .returned (.string ⟨(prnL (proQ q)).toArray⟩) ∧ Below (w.alloc (.cells #[.string q.name, .slice q.L q.n q.c, .string q.vl] 30)).heap.size (w.alloc (.cells #[.string q.name, .slice q.L q.n q.c, .string q.vl] 30)) w' := cp
  generalize prnL (proQ q) = z at cp HW
  obtain ⟨rz, hrz⟩ : ∃ z, wrP (proQ q) = z := ⟨_, rfl⟩
  rw [hrz] at HW ⊢
  clear t1 t2 hq hM hf hb1 P1 hq1 hrz
  go_enter Tryz.func46, Tryz.ntmps46
  by_cases h1 : q.name.data.toList = beginT
  · have E := Lib.hid (HW.out.trans (if_pos (.inl h1)))
    rw [decide_eq_true h1] at f1
    clear h1 f2
    go_wp2
    go_ret
    exact ⟨by rw [E.out]; rfl, HB.out⟩
  · rw [decide_eq_false h1] at f1
    by_cases h2 : q.name.data.toList = endT
    · have E := Lib.hid (HW.out.trans (if_pos (.inr h2)))
      rw [decide_eq_true h2] at f2
      clear h1 h2
      go_wp2
      go_ret
      exact ⟨by rw [E.out]; rfl, HB.out⟩
    · have E := Lib.hid (HW.out.trans (if_neg (fun e => e.elim h1 h2)))
      rw [decide_eq_false h2] at f2
      clear h1 h2
      go_wp2_with fail
      refine cp.mono ?_
      rintro e w2 ⟨rfl, hb2⟩
      have HB2 := Lib.hid (bstep HB.out hb2)
      clear cp hb2
      go_wp2
      go_ret
      exact ⟨by rw [E.out]; rfl, HB2.out⟩
/-- A line that is handed out. -/
abbrev Ln := { x : ByteArray // x.size ≤ 2000 }
abbrev encsC (x : Ln) : Array Value := #[.string x.1]
def lnT (xs : List Ln) : List (List UInt8) := xs.map fun x => x.1.data.toList
theorem lnT_app (a b : List Ln) : lnT (a ++ b) = lnT a ++ lnT b := by unfold lnT; rw [List.map_append]
/-- What a round keeps: what lay below n, and the iterator's own variables. -/
structure KpC (n : Nat) (A B : World) : Prop where
  below : Below n A B
  own : ∀ (k : Nat) (c : Array Value) (t : TypeId) (f : Nat × Nat), A.heap[k]? = some (.cells c t f) → (t = 68 ∨ t = 3 ∨ t = 25 ∨ t = 30) → B.heap[k]? = A.heap[k]?
theorem KpC.trans {n : Nat} {A B C : World} (h : KpC n A B) (k : KpC n B C) : KpC n A C := ⟨h.below.trans k.below, fun i c t f hi ht => (k.own i c t f ((h.own i c t f hi ht).trans hi) ht).trans (h.own i c t f hi ht)⟩
theorem kpC_put {n z : Nat} (hn : n ≤ z) (W : World) (o o' : Obj) (ho : W.heap[z]? = some o) (hc : o.isCells = false) : KpC n W (W.putObj z o') :=
  ⟨belowD_put hn (Array.getElem?_eq_some_iff.1 ho).1, fun k c t f hk _ => World.putObj_heap_other (fun e => by subst e; rw [ho] at hk; injection hk with hk; subst hk; cases hc)⟩
set_option maxHeartbeats 1000000 in
theorem linesFn_in (n : Nat) (nm : ByteArray) (A : Option Addr) (an ac : Nat) (K : Option Addr) (k kc : Nat) (d : Int) (w : World) :
    CallsIn Fence.wide n Tryz.prog 26 #[.agg #[.string nm, .slice A an ac, .slice K k kc], .int .i64 d] w fun e w' => e = .returned (.func (.func 44) #[] #[.pointer (some ⟨w.heap.size + 1, 0, none⟩), .pointer (some ⟨w.heap.size, 0, none⟩)]) ∧ w' = (w.alloc (.cells #[.string nm, .slice A an ac, .slice K k kc] 25)).alloc (.cells #[.int .i64 d] 3) := by
  refine callsIn_of_wp Tryz.func26 rfl trivial ?_ rfl
  simp only [Tryz.ntmps26, List.size_toArray, List.length_cons, List.length_nil, Nat.reduceAdd, Nat.reduceSub, Array.replicate_succ, Array.replicate_zero, List.push_toArray, List.append_toArray, List.nil_append, List.cons_append]
  gi_wp2
  go_ret
  exact ⟨rfl, rfl⟩
end Go.Proofs.YtlfhhnjdfpgadaaGreatDoor
