/-
  Layer 11: the variables of the document's Parse in memory: the property so far, a parameter so far.
-/
import Derived.RangeFuncBox
import Derived.Test.YtlfhhnjdfpgadaaGreatDoorG08
import Derived.Test.YtlfhhnjdfpgadaaGreatDoorG07
import Derived.Deep.DeepCutAuto
import Derived.Deep.CutBlock
import Derived.Deep.RegionHeld
import Derived.StillTail
namespace Go.Proofs.YtlfhhnjdfpgadaaGreatDoor
open Go.RowKit

/-- A block of another type is no row's. -/
theorem own_not {w : World} {base size n : Nat} {e t : TypeId} {v : Value} {xs : List Value} {g : Nat} {cs : Array Value} {fr : Nat × Nat} (h : w.ownsRow base e size v n xs) (hg : w.heap[g]? = some (.cells cs t fr)) (hne : t ≠ e) : v.ownBlock ≠ some g := by
  rcases h.2 with ⟨rfl, _⟩ | ⟨g', cap', cur, rfl, _, hh, _⟩
  · intro h; cases h
  · intro hx
    have : g' = g := by simpa [Value.ownBlock] using hx
    subst this
    rw [hh] at hg
    injection hg with hg
    injection hg with _ h2 _
    exact hne h2.symm
theorem ButL.grown {g : Nat} {w w' : World} (h : ButL g w w') : w.grownBy w' (some g) := ⟨h.os, h.tape, h.output, h.size, fun k hk hne => h.block k hk (fun e => hne (by rw [e]))⟩

section
variable {s nm : ByteArray} {H g P : Nat} {w wr w' w1 w2 : World} {q q' : Nat} {e e' : Int} {L : Option Addr} {n c : Nat} {l : List PR}
theorem encP_snoc : ∀ (l : List PR) (r : PR), encP (l ++ [r]) = encP l ++ [.string r.name, .slice r.K r.k r.kc]
  | [], r => rfl
  | x :: l, r => by simp only [List.cons_append, encP, encP_snoc l r]
theorem encP_one : ∀ (l : List PR), ∀ u ∈ encP l, u.oneCell' = true
  | [], u, h => by cases h
  | x :: l, u, h => by
    simp only [encP, List.mem_cons] at h
    rcases h with rfl | rfl | h
    · rfl
    · rfl
    · exact encP_one l u h
end
theorem cells2_new (w : World) (a b : Value) (t : TypeId) : ∀ j u, [a, b][j]? = some u → (w.alloc (.cells #[a, b] t)).cell? ((⟨w.heap.size, 0, none⟩ : Addr).add j) = some u := by
  intro j u h
  rw [Go.WideShapes.add_plain, Nat.zero_add]
  rw [cell_of_row _ w.heap.size j #[a, b] t (0, 0) (heap_alloc_new w _)]
  simpa using h
theorem cells2_one (s : ByteArray) (A : Option Addr) (n c : Nat) : ∀ u ∈ [Value.string s, .slice A n c], u.oneCell' = true := by
  intro u h
  simp only [List.mem_cons, List.not_mem_nil, or_false] at h
  rcases h with rfl | rfl <;> rfl
section
variable {s nx v : ByteArray} {g X : Nat} {wX wc w' w1 w2 : World} {q q' : Nat} {e e' : Int} {A : Option Addr} {k kc : Nat} {vs : List ByteArray}
theorem encS_snoc (l : List ByteArray) (v : ByteArray) : encS (l ++ [v]) = encS l ++ [.string v] := by simp [encS]
end

/-- While the answer's variable is set to nothing: the error, that variable, what was before. -/
structure CF (w : World) (H g : Nat) (e : Int) (w' : World) : Prop where
  c2 : w'.cell? ⟨g, 2, none⟩ = some (.int .i64 e)
  res : P3 w' H ⟨#[]⟩ ⟨#[]⟩ none 0 0
  bel : Below H w w'
theorem set_same {w : World} {g i : Nat} {cs : Array Value} {t : TypeId} {fr : Nat × Nat} {v : Value} (h : w.heap[g]? = some (.cells cs t fr)) (hv : cs[i]? = some v) : w.setCell ⟨g, i, none⟩ v = w := by
  have hh : (w.setCell ⟨g, i, none⟩ v).heap = w.heap := by
    apply Array.ext_getElem?
    intro k
    by_cases hk : k = g
    · subst hk
      rw [h]
      simp only [World.setCell, Array.getElem?_modify, h, if_pos, Option.map_some, Option.some.injEq, Obj.cells.injEq, and_true]
      have hc : cs.setIfInBounds i v = cs := by
        apply Array.ext_getElem?
        intro j
        rw [Array.getElem?_setIfInBounds]
        by_cases hj : i = j
        · subst hj
          have := (Array.getElem?_eq_some_iff.1 hv).1
          rw [if_pos rfl, if_pos this, hv]
        · rw [if_neg hj]
      exact hc
    · exact Below.heap_setCell w ⟨g, i, none⟩ v k hk
  cases w
  simp only [World.setCell] at hh ⊢
  rw [hh]
theorem P3.frozen {w : World} {g n c : Nat} {nm vl : ByteArray} {L : Option Addr} (h : P3 w g nm vl L n c) (o : Nat) : w.frozen? ⟨g, o, none⟩ = false := by
  unfold P3 at h
  simp [World.frozen?, h]
theorem load_prop {w : World} {g n c : Nat} {nm vl : ByteArray} {L : Option Addr} (h : P3 w g nm vl L n c) : (Go.loadVar 30 ⟨g, 0, none⟩).run Tryz.prog w = .ok (.agg #[.string nm, .slice L n c, .string vl]) w := by
  obtain ⟨a0, a1, a2⟩ := h.cells
  unfold loadVar
  go_simp
theorem results_two {P : Program} {fn : Func} {t u : Tmp} {T : TypeId} (h : fn.results = #[.cell t T, .tmp u]) (tmps : Array Value) {w : World} {a : Addr} {v v2 : Value} (ht : tmps.getD t undef = .pointer (some a)) (hu : tmps.getD u undef = v2) (hv : (Go.loadVar T a).run P w = .ok v w) :
    (results fn tmps).run P w = .ok (.tuple #[v, v2]) w := by
  subst hu
  have ht2 : tmps[t]?.getD undef = .pointer (some a) := by rw [← Array.getD_eq_getD_getElem?]; exact ht
  simp [results, h, ht2, asAddr, hv]
theorem all_ctl {v : ByteArray} (h : ∀ j, (hj : j < v.size) → ctlN v[j].toNat = false) : v.data.toList.all (fun c => !ctlN c.toNat) = true := by
  rw [List.all_eq_true]
  intro c hc
  obtain ⟨j, hj, e⟩ := List.getElem_of_mem hc
  have hj' : j < v.size := by rw [bsize]; exact hj
  have h2 := h j hj'
  have e2 : v[j] = c := by rw [← e]; rfl
  rw [e2] at h2
  rw [h2]; rfl
theorem not_all_ctl {v : ByteArray} {j : Nat} (hj : j < v.size) (h : ctlN v[j].toNat = true) : ¬ v.data.toList.all (fun c => !ctlN c.toNat) = true := by
  intro ha
  rw [List.all_eq_true] at ha
  have hj' : j < v.data.toList.length := by rw [← bsize]; exact hj
  have h2 := ha (v.data.toList[j]) (List.getElem_mem hj')
  have e2 : v.data.toList[j] = v[j] := rfl
  rw [e2, h] at h2
  cases h2
/-- The property whole; the answer's variable not yet. -/
structure Xf (nm vl : ByteArray) (H P : Nat) (w wr : World) (L : Option Addr) (n c : Nat) (l : List PR) : Prop where
  pv : P3 wr P nm vl L n c
  res : P3 wr H ⟨#[]⟩ ⟨#[]⟩ none 0 0
  own : wr.ownsRow H 56 2 (.slice L n c) n (encP l)
  par : ∀ r ∈ l, wr.ownsRow H 9 1 (.slice r.K r.k r.kc) r.k (encS r.vs)
  ne : H < P
  bel : Below H w wr
theorem Xf.fin {nm vl : ByteArray} {H P : Nat} {w wr : World} {L : Option Addr} {n c : Nat} {l : List PR} (h : Xf nm vl H P w wr L n c l) :
    P3 (((wr.setCell ⟨H, 0, none⟩ (.string nm)).setCell ⟨H, 1, none⟩ (.slice L n c)).setCell ⟨H, 2, none⟩ (.string vl)) H nm vl L n c ∧
    Reads (((wr.setCell ⟨H, 0, none⟩ (.string nm)).setCell ⟨H, 1, none⟩ (.slice L n c)).setCell ⟨H, 2, none⟩ (.string vl)) (((wr.setCell ⟨H, 0, none⟩ (.string nm)).setCell ⟨H, 1, none⟩ (.slice L n c)).setCell ⟨H, 2, none⟩ (.string vl)).heap.size 2 L n (encP l) ∧
    (∀ r ∈ l, POk (((wr.setCell ⟨H, 0, none⟩ (.string nm)).setCell ⟨H, 1, none⟩ (.slice L n c)).setCell ⟨H, 2, none⟩ (.string vl)) (((wr.setCell ⟨H, 0, none⟩ (.string nm)).setCell ⟨H, 1, none⟩ (.slice L n c)).setCell ⟨H, 2, none⟩ (.string vl)).heap.size r) ∧ n ≤ c ∧ c ≤ maxLen ∧
    Below H w (((wr.setCell ⟨H, 0, none⟩ (.string nm)).setCell ⟨H, 1, none⟩ (.slice L n c)).setCell ⟨H, 2, none⟩ (.string vl)) := by
  have res := h.res
  unfold P3 at res
  have nH : (Value.slice L n c).ownBlock ≠ some H := own_not h.own res (by decide)
  have hO := ownsRow_setCell_other (a := ⟨H, 2, none⟩) (ownsRow_setCell_other (a := ⟨H, 1, none⟩) (ownsRow_setCell_other (a := ⟨H, 0, none⟩) h.own nH (.string nm)) nH (.slice L n c)) nH (.string vl)
  have hlc : n ≤ c ∧ c ≤ maxLen := by
    obtain ⟨A', c', e, h1, h2⟩ := own_slice h.own
    injection e with _ _ e3
    subst e3
    exact ⟨h1, h2⟩
  refine ⟨?_, Reads.of_own hO, fun r hr => ?_, hlc.1, hlc.2, ((h.bel.setCell (p := ⟨H, 0, none⟩) (Nat.le_refl _) _).setCell (p := ⟨H, 1, none⟩) (Nat.le_refl _) _).setCell (p := ⟨H, 2, none⟩) (Nat.le_refl _) _⟩
  · unfold P3
    simp [World.setCell, Array.getElem?_modify, res]
  · have nr : (Value.slice r.K r.k r.kc).ownBlock ≠ some H := own_not (h.par r hr) res (by decide)
    have hr2 := ownsRow_setCell_other (a := ⟨H, 2, none⟩) (ownsRow_setCell_other (a := ⟨H, 1, none⟩) (ownsRow_setCell_other (a := ⟨H, 0, none⟩) (h.par r hr) nr (.string nm)) nr (.slice L n c)) nr (.string vl)
    obtain ⟨A', c', e, h1, h2⟩ := own_slice (h.par r hr)
    injection e with _ _ e3
    subst e3
    exact ⟨Reads.of_own hr2, h1, h2⟩
theorem Xf.zero {nm vl : ByteArray} {H P : Nat} {w wr : World} {L : Option Addr} {n c : Nat} {l : List PR} (h : Xf nm vl H P w wr L n c l) :
    P3 (((wr.setCell ⟨H, 0, none⟩ (.string ⟨#[]⟩)).setCell ⟨H, 1, none⟩ (.slice none 0 0)).setCell ⟨H, 2, none⟩ (.string ⟨#[]⟩)) H ⟨#[]⟩ ⟨#[]⟩ none 0 0 ∧
    Below H w (((wr.setCell ⟨H, 0, none⟩ (.string ⟨#[]⟩)).setCell ⟨H, 1, none⟩ (.slice none 0 0)).setCell ⟨H, 2, none⟩ (.string ⟨#[]⟩)) := by
  have res := h.res
  unfold P3 at res
  refine ⟨?_, ((h.bel.setCell (p := ⟨H, 0, none⟩) (Nat.le_refl _) _).setCell (p := ⟨H, 1, none⟩) (Nat.le_refl _) _).setCell (p := ⟨H, 2, none⟩) (Nat.le_refl _) _⟩
  unfold P3
  simp [World.setCell, Array.getElem?_modify, res]

end Go.Proofs.YtlfhhnjdfpgadaaGreatDoor

/-
  A component's lines.
-/
namespace Go.Proofs.YtlfhhnjdfpgadaaGreatDoor
open Go.RowKit

mutual
def linesC : CM → List (List UInt8)
  | .mk nm ps cs => (beginT ++ 58 :: nm) :: (ps.map prnL ++ (linesCs cs ++ [endT ++ 58 :: nm]))
def linesCs : List CM → List (List UInt8)
  | [] => []
  | c :: cs => linesC c ++ linesCs cs
end
theorem linesCs_snoc : ∀ (l : List CM) (x : CM), linesCs (l ++ [x]) = linesCs l ++ linesC x
  | [], x => by simp [linesCs]
  | c :: l, x => by simp [linesCs, linesCs_snoc l x]
theorem qs_len (qs : List QR) : qs.length ≤ qsizes qs := by
  induction qs with
  | nil => simp [qsizes]
  | cons q qs ih =>
    have e : qsizes (q :: qs) = qsize q + qsizes qs := by simp [qsizes]
    rw [e, List.length_cons]
    unfold qsize
    omega
mutual
theorem lines_len : ∀ r : CR, (linesC (compOf r)).length ≤ 2 * csize r
  | .mk nm A n c qs K k kc cs => by
    have h1 := lines_lens cs
    have h2 := qs_len qs
    rw [compOf, linesC, csize]
    simp only [List.length_cons, List.length_append, List.length_map, List.length_nil]
    omega
theorem lines_lens : ∀ cs : List CR, (linesCs (compsOf cs)).length ≤ 2 * csizes cs
  | [] => by simp [compsOf, linesCs]
  | c :: cs => by
    have h1 := lines_len c
    have h2 := lines_lens cs
    rw [compsOf, linesCs, csizes, List.length_append]
    omega
end

theorem COk.under {w w' : World} {B : Nat} (hb : Below B w w') {r : CR} (h : COk w B r) : COk w' B r := by
  induction h with
  | mk h1 h2 h3 h4 h5 _ h7 h8 ih => exact .mk (h1.below hb) (fun q hq => ⟨(h2 q hq).rd.below hb, fun r hr => ⟨((h2 q hq).vs r hr).rd.below hb, ((h2 q hq).vs r hr).le, ((h2 q hq).vs r hr).cap⟩, (h2 q hq).le, (h2 q hq).cap⟩) h3 h4 (h5.below hb) ih h7 h8
theorem COk.upper {w : World} {B B' : Nat} (hB : B ≤ B') {r : CR} (h : COk w B r) : COk w B' r := by
  induction h with
  | mk h1 h2 h3 h4 h5 _ h7 h8 ih => exact .mk (h1.more hB) (fun q hq => ⟨(h2 q hq).rd.more hB, fun r hr => ⟨((h2 q hq).vs r hr).rd.more hB, ((h2 q hq).vs r hr).le, ((h2 q hq).vs r hr).cap⟩, (h2 q hq).le, (h2 q hq).cap⟩) h3 h4 (h5.more hB) ih h7 h8

/-- The world while the lines are gathered: the component's variable, itself, the row of the call's own. -/
structure LN (w wr : World) (nm : ByteArray) (A : Option Addr) (n c : Nat) (qs : List QR) (K : Option Addr) (k kc : Nat) (cs : List CR) (R : Option Addr) (N C : Nat) (bs : List ByteArray) : Prop where
  bx : C3 wr w.heap.size nm A n c K k kc
  ok : COk wr w.heap.size (.mk nm A n c qs K k kc cs)
  row : wr.ownsRow w.heap.size 9 1 (.slice R N C) N (encS bs)
  bel : Below w.heap.size w wr
section
variable {w wr w1 w2 : World} {nm : ByteArray} {A : Option Addr} {n c : Nat} {qs : List QR} {K : Option Addr} {k kc : Nat} {cs : List CR} {R : Option Addr} {N C : Nat} {bs : List ByteArray}
theorem LN.step (h : LN w wr nm A n c qs K k kc cs R N C bs) (hb : Below wr.heap.size wr w1) : LN w w1 nm A n c qs K k kc cs R N C bs :=
  have hb' : Below w.heap.size w w1 := bstep h.bel hb
  ⟨h.bx.step hb, h.ok.under (hb.mono h.bel.size), own_below h.row hb, hb'⟩
theorem LN.app (h : LN w wr nm A n c qs K k kc cs R N C bs) (ha : Below wr.heap.size wr w1) (hg : w1.grownBy w2 (Value.slice R N C).ownBlock) {R' : Option Addr} {N' C' : Nat} {bs' : List ByteArray} (hr : w2.ownsRow w.heap.size 9 1 (.slice R' N' C') N' (encS bs')) :
    LN w w2 nm A n c qs K k kc cs R' N' C' bs' := by
  have h1 := h.step ha
  have nb : (Value.slice R N C).ownBlock ≠ some w.heap.size := own_not h1.row h1.bx (by decide)
  have hb2 : Below w.heap.size w1 w2 := (Below.refl w.heap.size w1).grown hg h1.bel.size (fun j ej => own_row_ge h1.row j ej)
  exact ⟨(hg.block _ h1.bx.lt (Ne.symm nb)).trans h1.bx, h1.ok.under hb2, hr, h1.bel.trans hb2⟩
theorem LN.atQ (h : LN w wr nm A n c qs K k kc cs R N C bs) {i : Nat} {q : QR} (hq : qs[i]? = some q) :
    ∃ b o, A = some ⟨b, o, none⟩ ∧ wr.cell? ⟨b, o + i * 3, none⟩ = some (.string q.name) ∧ wr.cell? ⟨b, o + i * 3 + 1, none⟩ = some (.slice q.L q.n q.c) ∧ wr.cell? ⟨b, o + i * 3 + 2, none⟩ = some (.string q.vl) := by
  obtain ⟨b, o, e, _, h0, h1, h2⟩ := h.ok.rq.tri hq
  exact ⟨b, o, e, h0, h1, h2⟩
theorem LN.atC (h : LN w wr nm A n c qs K k kc cs R N C bs) {i : Nat} {x : CR} (hx : cs[i]? = some x) :
    ∃ b o, K = some ⟨b, o, none⟩ ∧ wr.cell? ⟨b, o + i * 3, none⟩ = some (fC x).1 ∧ wr.cell? ⟨b, o + i * 3 + 1, none⟩ = some (fC x).2.1 ∧ wr.cell? ⟨b, o + i * 3 + 2, none⟩ = some (fC x).2.2 := by
  obtain ⟨b, o, e, _, h0, h1, h2⟩ := h.ok.rc.tri hx
  exact ⟨b, o, e, h0, h1, h2⟩
theorem own_one (w : World) (base : Nat) (hb : base ≤ w.heap.size) (v : ByteArray) : (w.alloc (.cells #[.string v] 9)).ownsRow base 9 1 (.slice (some ⟨w.heap.size, 0, none⟩) 1 1) 1 (encS [v]) :=
  ⟨rfl, .inr ⟨w.heap.size, 1, #[.string v], rfl, hb, heap_alloc_new w _, Nat.le_refl _, by unfold maxLen; omega, rfl, rfl⟩⟩
end
/-- What a call of lines answers. -/
def LinAns (r : CR) (w : World) (e : Ending) (w' : World) : Prop :=
  ∃ (R : Option Addr) (N C : Nat) (bs : List ByteArray), e = .returned (.slice R N C) ∧ (bs.map fun b => b.data.toList) = linesC (compOf r) ∧ Reads w' w'.heap.size 1 R N (encS bs) ∧ N ≤ C ∧ C ≤ maxLen ∧ Below w.heap.size w w'

end Go.Proofs.YtlfhhnjdfpgadaaGreatDoor

/-
  A component's properties by name.
-/
namespace Go.Proofs.YtlfhhnjdfpgadaaGreatDoor
open Go.RowKit

theorem infoQ : (Tryz.prog.info? 30).map (fun i => (i.zero, i.size, i.bytes)) = some (some (.agg #[.string ⟨#[]⟩, .slice none 0 0, .string ⟨#[]⟩]), 3, 56) := by kernel_rfl
theorem enc3_snoc {α : Type} (f : α → Value × Value × Value) : ∀ (l : List α) (x : α), enc3 f (l ++ [x]) = enc3 f l ++ [(f x).1, (f x).2.1, (f x).2.2]
  | [], x => rfl
  | y :: l, x => by simp [enc3, enc3_snoc f l x]
/-- The world while properties are gathered. -/
structure LQ (w wr : World) (nm : ByteArray) (A : Option Addr) (n c : Nat) (qs : List QR) (K : Option Addr) (k kc : Nat) (cs : List CR) (R : Option Addr) (N C : Nat) (l : List QR) : Prop where
  bx : C3 wr w.heap.size nm A n c K k kc
  ok : COk wr w.heap.size (.mk nm A n c qs K k kc cs)
  row : wr.ownsRow w.heap.size 30 3 (.slice R N C) N (enc3 fQ l)
  bel : Below w.heap.size w wr
section
variable {w wr w1 w2 : World} {nm : ByteArray} {A : Option Addr} {n c : Nat} {qs : List QR} {K : Option Addr} {k kc : Nat} {cs : List CR} {R : Option Addr} {N C : Nat} {l : List QR}
theorem LQ.step (h : LQ w wr nm A n c qs K k kc cs R N C l) (hb : Below wr.heap.size wr w1) : LQ w w1 nm A n c qs K k kc cs R N C l :=
  ⟨h.bx.step hb, h.ok.under (hb.mono h.bel.size), own_below h.row hb, bstep h.bel hb⟩
theorem LQ.app (h : LQ w wr nm A n c qs K k kc cs R N C l) (ha : Below wr.heap.size wr w1) (hg : w1.grownBy w2 (Value.slice R N C).ownBlock) {R' : Option Addr} {N' C' : Nat} {l' : List QR} (hr : w2.ownsRow w.heap.size 30 3 (.slice R' N' C') N' (enc3 fQ l')) :
    LQ w w2 nm A n c qs K k kc cs R' N' C' l' := by
  have h1 := h.step ha
  have nb : (Value.slice R N C).ownBlock ≠ some w.heap.size := own_not h1.row h1.bx (by decide)
  have hb2 : Below w.heap.size w1 w2 := (Below.refl w.heap.size w1).grown hg h1.bel.size (fun j ej => own_row_ge h1.row j ej)
  exact ⟨(hg.block _ h1.bx.lt (Ne.symm nb)).trans h1.bx, h1.ok.under hb2, hr, h1.bel.trans hb2⟩
theorem LQ.atQ (h : LQ w wr nm A n c qs K k kc cs R N C l) {i : Nat} {q : QR} (hq : qs[i]? = some q) :
    ∃ b o, A = some ⟨b, o, none⟩ ∧ wr.cell? ⟨b, o + i * 3, none⟩ = some (.string q.name) ∧ wr.cell? ⟨b, o + i * 3 + 1, none⟩ = some (.slice q.L q.n q.c) ∧ wr.cell? ⟨b, o + i * 3 + 2, none⟩ = some (.string q.vl) := by
  obtain ⟨b, o, e, _, h0, h1, h2⟩ := h.ok.rq.tri hq
  exact ⟨b, o, e, h0, h1, h2⟩
end
def named (name : ByteArray) (q : QR) : Bool := decide (q.name.data.toList = name.data.toList)
/-- What a call of Props answers. -/
def PrsAns (qs : List QR) (name : ByteArray) (w : World) (e : Ending) (w' : World) : Prop :=
  ∃ (R : Option Addr) (N C : Nat), e = .returned (.slice R N C) ∧ Reads w' w'.heap.size 3 R N (enc3 fQ (qs.filter (named name))) ∧ (∀ q ∈ qs.filter (named name), QOk w' w'.heap.size q) ∧ N ≤ C ∧ C ≤ maxLen ∧ Below w.heap.size w w'

set_option maxRecDepth 100000 in
set_option maxHeartbeats 4000000 in
theorem refProps_any (nm name : ByteArray) (A : Option Addr) (n c : Nat) (qs : List QR) (K : Option Addr) (k kc : Nat) (cs : List CR) (w : World) (hM : csize (.mk nm A n c qs K k kc cs) ≤ 1048576) (hC : COk w w.heap.size (.mk nm A n c qs K k kc cs)) :
    Calls Tryz.prog 17 #[.agg #[.string nm, .slice A n c, .slice K k kc], .string name] w (PrsAns qs name w) := by
  have HA := Lib.hid (CA.new hC)
  have HC0 := Lib.hid hC
  have HB : Hid (Below w.heap.size w (w.alloc (.cells #[.string nm, .slice A n c, .slice K k kc] 25))) := Lib.hid ((Below.refl _ w).alloc (Nat.le_refl _) _)
  have HLQ := Lib.hid hC.rq.len3
  have hn : n ≤ 1048576 := by
    have h1 := qs_len qs
    have h2 := HLQ.out
    rw [csize] at hM
    omega
  obtain ⟨i0, hi0, hz0, hz1, hz2⟩ := info_parts infoQ
  clear hC hM
  go_enter Tryz.func17, Tryz.ntmps17
  obtain ⟨p0, p1, p2⟩ := HA.out.bx.cells
  generalize hW : w.alloc (.cells #[.string nm, .slice A n c, .slice K k kc] 25) = w1 at *
  have HJ : Hid (LQ w w1 nm A n c qs K k kc cs none 0 0 []) := Lib.hid ⟨HA.out.bx, HC0.out.under HB.out, own_nil, HB.out⟩
  clear HA HC0 HB
  go_wp2
  clear p0 p1 p2 hW
  go_loopw [5, 6] (fun s5 s6 wr => ∃ (i N : Nat) (R : Option Addr) (C : Nat), s5 = .slice R N C ∧ s6 = .int .i64 i ∧ i ≤ n ∧ N ≤ i ∧ Hid (LQ w wr nm A n c qs K k kc cs R N C ((qs.take i).filter (named name)))) (fun _ s6 _ => n - (intOf s6).toNat)
  case atStart => exact ⟨0, 0, none, 0, rfl, rfl, Nat.zero_le _, Nat.le_refl _, HJ⟩
  case round =>
    clear HJ
    obtain ⟨i, N, R, C, rfl, rfl, hi, hNi, HJ⟩ := hrel
    obtain ⟨p0, p1, p2⟩ := HJ.out.bx.cells
    by_cases hlt : i < n
    · obtain ⟨q, hq⟩ : ∃ q, qs[i]? = some q := ⟨qs[i]'(by have := HLQ.out; omega), List.getElem?_eq_getElem (by have := HLQ.out; omega)⟩
      obtain ⟨b, o, hAe, q0, q1, q2⟩ := HJ.out.atQ hq
      have HTK := Lib.hid (show (qs.take (i + 1)).filter (named name) = (qs.take i).filter (named name) ++ (if named name q = true then [q] else []) by
        have hil : i < qs.length := by have := HLQ.out; omega
        have e : qs[i] = q := Option.some.inj ((List.getElem?_eq_getElem hil).symm.trans hq)
        rw [List.take_succ_eq_append_getElem hil, List.filter_append, e]
        by_cases h : named name q = true <;> simp [h])
      have g1 := strEqL q.name name
      have hnm : named name q = decide (q.name.data.toList = name.data.toList) := rfl
      rw [← hnm] at g1
      rw [hAe] at p1
      generalize named name q = bn at *
      clear hq hAe hnm
      cases bn
      · go_wp2
        go_round
        case rel => exact ⟨i + 1, N, R, C, rfl, by go_num, by omega, by omega, Lib.hid (by rw [HTK.out]; simpa using HJ.out)⟩
        case measure => simp [intOf]; omega
      · have HR := Lib.hid HJ.out.row
        go_wp2_with (at_builtin; refine wpList_append_reads _ rfl _ _ 22 rfl w.heap.size 30 i0 (.agg #[.string ⟨#[]⟩, .slice none 0 0, .string ⟨#[]⟩]) 3 56 Tryz.underlying22 hi0 hz0 hz1 hz2 rfl (by decide) _ _ _ rfl (own_alloc HR.out _) _ (some ⟨wr.heap.size, 0, none⟩) 1 1 [.string q.name, .slice q.L q.n q.c, .string q.vl] rfl (reads_new wr #[.string q.name, .slice q.L q.n q.c, .string q.vl] 30 1 3 rfl) (by simp [Value.oneCell']) (by unfold maxLen; omega) (by omega) (by have := HJ.out.bel.size; simp; omega) ?_; intro A7 c7 w7 hown7 hgrow7 _)
        have HK7 := Lib.hid (HJ.out.app (R' := A7) (N' := N + 1) (C' := c7) (l' := (qs.take i).filter (named name) ++ [q]) ((Below.refl _ _).alloc (Nat.le_refl _) (.cells #[.string q.name, .slice q.L q.n q.c, .string q.vl] 30)) hgrow7 (by rw [enc3_snoc]; exact hown7))
        clear hown7 hgrow7
        go_round
        case rel => exact ⟨i + 1, N + 1, A7, c7, rfl, by go_num, by omega, by omega, Lib.hid (by rw [HTK.out]; exact HK7.out)⟩
        case measure => simp [intOf]; omega
    · obtain rfl : i = n := by omega
      have ht : qs.take i = qs := List.take_of_length_le (by rw [HLQ.out]; exact Nat.le_refl _)
      rw [ht] at HJ
      obtain ⟨A9, c9, e9, h91, h92⟩ := own_slice HJ.out.row
      injection e9 with e91 e92 e93
      subst e91 e93
      go_wp2
      go_ret
      exact ⟨_, _, _, rfl, Reads.of_own HJ.out.row, fun q hq => (HJ.out.ok.upper HJ.out.bel.size).vq q ((List.mem_filter.1 hq).1), h91, h92, HJ.out.bel⟩

end Go.Proofs.YtlfhhnjdfpgadaaGreatDoor

/-
  A component's components by name.
-/
namespace Go.Proofs.YtlfhhnjdfpgadaaGreatDoor
open Go.RowKit

theorem infoC : (Tryz.prog.info? 25).map (fun i => (i.zero, i.size, i.bytes)) = some (some (.agg #[.string ⟨#[]⟩, .slice none 0 0, .slice none 0 0]), 3, 64) := by kernel_rfl
def crName : CR → ByteArray
  | .mk nm _ _ _ _ _ _ _ _ => nm
theorem fC_name (x : CR) : (fC x).1 = .string (crName x) := by cases x; rfl
theorem fC_one (x : CR) : ∀ u ∈ [Value.string (crName x), (fC x).2.1, (fC x).2.2], u.oneCell' = true := by cases x; simp [fC, Value.oneCell']
theorem cs_len (cs : List CR) : cs.length ≤ csizes cs := by
  induction cs with
  | nil => simp [csizes]
  | cons q qs ih =>
    rw [csizes, List.length_cons]
    cases q
    rw [csize]
    omega
/-- The world while components are gathered. -/
structure LK (w wr : World) (nm : ByteArray) (A : Option Addr) (n c : Nat) (qs : List QR) (K : Option Addr) (k kc : Nat) (cs : List CR) (R : Option Addr) (N C : Nat) (l : List CR) : Prop where
  bx : C3 wr w.heap.size nm A n c K k kc
  ok : COk wr w.heap.size (.mk nm A n c qs K k kc cs)
  row : wr.ownsRow (w.heap.size + 1) 25 3 (.slice R N C) N (enc3 fC l)
  bel : Below w.heap.size w wr
section
variable {w wr w1 w2 : World} {nm : ByteArray} {A : Option Addr} {n c : Nat} {qs : List QR} {K : Option Addr} {k kc : Nat} {cs : List CR} {R : Option Addr} {N C : Nat} {l : List CR}
theorem LK.step (h : LK w wr nm A n c qs K k kc cs R N C l) (hb : Below wr.heap.size wr w1) : LK w w1 nm A n c qs K k kc cs R N C l :=
  ⟨h.bx.step hb, h.ok.under (hb.mono h.bel.size), own_below h.row hb, bstep h.bel hb⟩
theorem LK.app (h : LK w wr nm A n c qs K k kc cs R N C l) (ha : Below wr.heap.size wr w1) (hg : w1.grownBy w2 (Value.slice R N C).ownBlock) {R' : Option Addr} {N' C' : Nat} {l' : List CR} (hr : w2.ownsRow (w.heap.size + 1) 25 3 (.slice R' N' C') N' (enc3 fC l')) :
    LK w w2 nm A n c qs K k kc cs R' N' C' l' := by
  have h1 := h.step ha
  have nb : (Value.slice R N C).ownBlock ≠ some w.heap.size := fun e => by have := own_row_ge h1.row _ e; omega
  have hb2 : Below w.heap.size w1 w2 := (Below.refl w.heap.size w1).grown hg h1.bel.size (fun j ej => by have := own_row_ge h1.row j ej; omega)
  exact ⟨(hg.block _ h1.bx.lt (Ne.symm nb)).trans h1.bx, h1.ok.under hb2, hr, h1.bel.trans hb2⟩
theorem LK.atC (h : LK w wr nm A n c qs K k kc cs R N C l) {i : Nat} {x : CR} (hx : cs[i]? = some x) :
    ∃ b o, K = some ⟨b, o, none⟩ ∧ wr.cell? ⟨b, o + i * 3, none⟩ = some (.string (crName x)) ∧ wr.cell? ⟨b, o + i * 3 + 1, none⟩ = some (fC x).2.1 ∧ wr.cell? ⟨b, o + i * 3 + 2, none⟩ = some (fC x).2.2 := by
  obtain ⟨b, o, e, _, h0, h1, h2⟩ := h.ok.rc.tri hx
  exact ⟨b, o, e, by rw [h0, fC_name], h1, h2⟩
end
def namedC (name : ByteArray) (x : CR) : Bool := decide ((crName x).data.toList = name.data.toList)
/-- What a call of Comps answers. -/
def CmsAns (cs : List CR) (name : ByteArray) (w : World) (e : Ending) (w' : World) : Prop :=
  ∃ (R : Option Addr) (N C : Nat), e = .returned (.slice R N C) ∧ Reads w' w'.heap.size 3 R N (enc3 fC (cs.filter (namedC name))) ∧ (∀ x ∈ cs.filter (namedC name), COk w' w'.heap.size x) ∧ N ≤ C ∧ C ≤ maxLen ∧ Below w.heap.size w w'

set_option maxRecDepth 100000 in
set_option maxHeartbeats 4000000 in
theorem refComps_any (nm name : ByteArray) (A : Option Addr) (n c : Nat) (qs : List QR) (K : Option Addr) (k kc : Nat) (cs : List CR) (w : World) (hM : csize (.mk nm A n c qs K k kc cs) ≤ 1048576) (hC : COk w w.heap.size (.mk nm A n c qs K k kc cs)) :
    Calls Tryz.prog 9 #[.agg #[.string nm, .slice A n c, .slice K k kc], .string name] w (CmsAns cs name w) := by
  have HA := Lib.hid (CA.new hC)
  have HC0 := Lib.hid hC
  have HB : Hid (Below w.heap.size w (w.alloc (.cells #[.string nm, .slice A n c, .slice K k kc] 25))) := Lib.hid ((Below.refl _ w).alloc (Nat.le_refl _) _)
  have HLK := Lib.hid hC.rc.len3
  have hk : k ≤ 1048576 := by
    have h1 := cs_len cs
    have h2 := HLK.out
    rw [csize] at hM
    omega
  obtain ⟨i0, hi0, hz0, hz1, hz2⟩ := info_parts infoC
  clear hC hM
  go_enter Tryz.func9, Tryz.ntmps9
  obtain ⟨p0, p1, p2⟩ := HA.out.bx.cells
  generalize hW : w.alloc (.cells #[.string nm, .slice A n c, .slice K k kc] 25) = w1 at *
  have HJ : Hid (LK w w1 nm A n c qs K k kc cs none 0 0 []) := Lib.hid ⟨HA.out.bx, HC0.out.under HB.out, own_nil, HB.out⟩
  clear HA HC0 HB
  go_wp2
  clear p0 p1 p2 hW
  go_loopw [5, 6] (fun s5 s6 wr => ∃ (i N : Nat) (R : Option Addr) (C : Nat), s5 = .slice R N C ∧ s6 = .int .i64 i ∧ i ≤ k ∧ N ≤ i ∧ Hid (LK w wr nm A n c qs K k kc cs R N C ((cs.take i).filter (namedC name)))) (fun _ s6 _ => k - (intOf s6).toNat)
  case atStart => exact ⟨0, 0, none, 0, rfl, rfl, Nat.zero_le _, Nat.le_refl _, HJ⟩
  case round =>
    clear HJ
    obtain ⟨i, N, R, C, rfl, rfl, hi, hNi, HJ⟩ := hrel
    obtain ⟨p0, p1, p2⟩ := HJ.out.bx.cells
    by_cases hlt : i < k
    · obtain ⟨x, hq⟩ : ∃ x, cs[i]? = some x := ⟨cs[i]'(by have := HLK.out; omega), List.getElem?_eq_getElem (by have := HLK.out; omega)⟩
      obtain ⟨b, o, hKe, q0, q1, q2⟩ := HJ.out.atC hq
      have HTK := Lib.hid (show (cs.take (i + 1)).filter (namedC name) = (cs.take i).filter (namedC name) ++ (if namedC name x = true then [x] else []) by
        have hil : i < cs.length := by have := HLK.out; omega
        have e : cs[i] = x := Option.some.inj ((List.getElem?_eq_getElem hil).symm.trans hq)
        rw [List.take_succ_eq_append_getElem hil, List.filter_append, e]
        by_cases h : namedC name x = true <;> simp [h])
      have g1 := strEqL (crName x) name
      have hnm : namedC name x = decide ((crName x).data.toList = name.data.toList) := rfl
      rw [← hnm] at g1
      rw [hKe] at p2
      generalize namedC name x = bn at *
      clear hq hKe hnm
      cases bn
      · go_wp2
        go_round
        case rel => exact ⟨i + 1, N, R, C, rfl, by go_num, by omega, by omega, Lib.hid (by rw [HTK.out]; simpa using HJ.out)⟩
        case measure => simp [intOf]; omega
      · have HR := Lib.hid HJ.out.row
        go_wp2_with (at_builtin; refine wpList_append_reads _ rfl _ _ 23 rfl (w.heap.size + 1) 25 i0 (.agg #[.string ⟨#[]⟩, .slice none 0 0, .slice none 0 0]) 3 64 Tryz.underlying23 hi0 hz0 hz1 hz2 rfl (by decide) _ _ _ rfl (own_alloc HR.out _) _ (some ⟨wr.heap.size, 0, none⟩) 1 1 [.string (crName x), (fC x).2.1, (fC x).2.2] rfl (reads_new wr #[.string (crName x), (fC x).2.1, (fC x).2.2] 25 1 3 rfl) (fC_one x) (by unfold maxLen; omega) (by omega) (by have := HJ.out.bx.lt; simp; omega) ?_; intro A7 c7 w7 hown7 hgrow7 _)
        have HK7 := Lib.hid (HJ.out.app (R' := A7) (N' := N + 1) (C' := c7) (l' := (cs.take i).filter (namedC name) ++ [x]) ((Below.refl _ _).alloc (Nat.le_refl _) (.cells #[.string (crName x), (fC x).2.1, (fC x).2.2] 25)) hgrow7 (by rw [enc3_snoc, fC_name]; exact hown7))
        clear hown7 hgrow7
        go_round
        case rel => exact ⟨i + 1, N + 1, A7, c7, rfl, by go_num, by omega, by omega, Lib.hid (by rw [HTK.out]; exact HK7.out)⟩
        case measure => simp [intOf]; omega
    · obtain rfl : i = k := by omega
      have ht : cs.take i = cs := List.take_of_length_le (by rw [HLK.out]; exact Nat.le_refl _)
      rw [ht] at HJ
      obtain ⟨A9, c9, e9, h91, h92⟩ := own_slice HJ.out.row
      injection e9 with e91 e92 e93
      subst e91 e93
      go_wp2
      go_ret
      exact ⟨_, _, _, rfl, Reads.of_own HJ.out.row, fun q hq => (HJ.out.ok.upper HJ.out.bel.size).vc q ((List.mem_filter.1 hq).1), h91, h92, HJ.out.bel⟩

end Go.Proofs.YtlfhhnjdfpgadaaGreatDoor

/-
  A region that draws its order, in which loads stand beside calls and the cells that they load are stored at its end: a condition on the world that has to hold only till a given operation is carried out.
-/
namespace Go.Proofs.YtlfhhnjdfpgadaaGreatDoor

section
variable {P : Program} {ops : Array Oper} {Q : Exit → Act → World → Prop} {md : Region.Mode} {S : World → Prop} {k : Nat}

/-- Each waits for the next one. -/
def waitsPath (md : Region.Mode) (ops : Array Oper) : List Nat → Bool
  | x :: y :: t => Region.waitsFor md ops x y && waitsPath md ops (y :: t)
  | _ => true
/-- What a carried out operation waits for is carried out. -/
def Closed (md : Region.Mode) (ops : Array Oper) (listed : Array Bool) : Prop :=
  ∀ j oj, ops[j]? = some oj → listed.getD j false = true → ∀ e ∈ oj.after, Region.binds md e = true → listed.getD e.on false = true
theorem closed_none (n : Nat) : Closed md ops (Array.replicate n false) := fun j oj _ hl => by rw [getD_replicate_false] at hl; cases hl
theorem closed_set {j : Nat} {listed : Array Bool} (h : Closed md ops listed) (hj : j ∈ Region.ready md ops listed) : Closed md ops (listed.setIfInBounds j true) := by
  obtain ⟨_, oj, hoj, hall⟩ := mem_ready.1 hj
  intro i oi hi hl e he hb
  by_cases hij : j = i
  · subst hij
    obtain rfl : oj = oi := Option.some.inj (hoj.symm.trans hi)
    exact getD_set_true (hall e he hb)
  · rw [getD_set_ne false hij] at hl
    exact getD_set_true (h i oi hi hl e he hb)
theorem path_last {listed : Array Bool} (hc : Closed md ops listed) : ∀ (p : List Nat) (x i : Nat), waitsPath md ops (x :: p) = true →
    (∀ ox, ops[x]? = some ox → ∀ e ∈ ox.after, Region.binds md e = true → listed.getD e.on false = true) → (x :: p).getLast? = some i → p ≠ [] → listed.getD i false = true
  | [], _, _, _, _, _, hne => absurd rfl hne
  | y :: t, x, i, hp, hx, hl, _ => by
    simp only [waitsPath, Bool.and_eq_true] at hp
    obtain ⟨ox, hox, e, he, hb, hon⟩ := Region.waitsFor_spec hp.1
    have hy := hx ox hox e he hb
    rw [hon] at hy
    rcases t with _ | ⟨z, t⟩
    · simp at hl
      rw [← hl]; exact hy
    · exact path_last hc (z :: t) y i hp.2 (fun oy hoy => hc y oy hoy hy) (by simpa using hl) (by simp)
theorem not_yet {listed : Array Bool} (hc : Closed md ops listed) {p : List Nat} {i : Nat} (hp : waitsPath md ops (k :: p) = true) (hl : (k :: p).getLast? = some i) (hne : p ≠ []) (hi : listed.getD i true = false) : k ∉ Region.ready md ops listed := by
  intro hr
  obtain ⟨_, ok, hok, hall⟩ := mem_ready.1 hr
  have := path_last hc p k i hp (fun ox hox => by rw [hok] at hox; injection hox with hox; subst hox; exact hall) hl hne
  rw [getD_both hi] at this
  cases this

/-- Whatever order is picked from here on; S holds behind each operation, till k is carried out. -/
def wpTill (P : Program) (md : Region.Mode) (ops : Array Oper) (Q : Exit → Act → World → Prop) (S : World → Prop) (k : Nat) : Nat → Array Bool → Act → World → Prop
  | 0, listed, a, w => Region.ready md ops listed = [] ∧ Q .normal a w
  | f + 1, listed, a, w => (Region.ready md ops listed = [] → Q .normal a w) ∧
    ∀ i ∈ Region.ready md ops listed, wpOp P ops Q i (fun a' w' => (i ≠ k → listed.getD k true = false → S w') ∧ wpTill P md ops Q S k f (listed.setIfInBounds i true) a' w') a w
theorem wpAny_of_till : ∀ (f : Nat) (listed : Array Bool) (a : Act) (w : World), wpTill P md ops Q S k f listed a w → wpAny P md ops Q f listed a w
  | 0, _, _, _, h => h
  | f + 1, _, _, _, h => ⟨h.1, fun i hi => wpOp_mono (fun a' w' h' => wpAny_of_till f _ a' w' h'.2) (h.2 i hi)⟩
theorem till_first {i : Nat} {oi : Oper} {v : Value} {p : List Nat} (hi : ops[i]? = some oi) (hsel : ∀ (j : Nat) (o : Oper) cs b, ops[j]? = some o → o.op ≠ .select cs b)
    (hQ : ∀ c a w, Q (.panic c) (a.put oi.dst v) w → Q (.panic c) a w) (hik : i ≠ k) (hp : waitsPath md ops (k :: p) = true) (hpl : (k :: p).getLast? = some i) (hpn : p ≠ []) :
    ∀ (f : Nat) (listed : Array Bool) (a : Act) (w : World), Closed md ops listed → listed.getD k true = false →
      (∀ j oj, ops[j]? = some oj → j ≠ i → listed.getD j true = false → (∀ e ∈ oj.after, Region.binds md e = true → e.on ≠ i) → oi.apart ops oj = true) →
      i ∈ Region.ready md ops listed → YieldsIf P ops S oi v a → S w →
      wpTill P md ops Q S k f (listed.setIfInBounds i true) (a.put oi.dst v) w → wpTill P md ops Q S k (f + 1) listed a w := by
  intro f
  induction f with
  | zero =>
    intro listed a w _ _ _ hr hy hS H
    refine ⟨fun h => (by rw [h] at hr; cases hr), fun j hj => ?_⟩
    by_cases hji : j = i
    · subst hji
      exact hy.wpOp hi hS ⟨fun _ _ => hS, H⟩
    · have := ready_mono hj hji
      rw [H.1] at this
      cases this
  | succ f ih =>
    intro listed a w hc hk hfree hr hy hS H
    have hun := (mem_ready.1 hr).1
    refine ⟨fun h => (by rw [h] at hr; cases hr), fun j hj => ?_⟩
    by_cases hji : j = i
    · subst hji
      exact hy.wpOp hi hS ⟨fun _ _ => hS, H⟩
    have hjk : j ≠ k := fun e => not_yet hc hp hpl hpn hun (e ▸ hj)
    obtain ⟨hjun, oj, hoj, hall⟩ := mem_ready.1 hj
    have hnot : ∀ e ∈ oj.after, Region.binds md e = true → e.on ≠ i := fun e he hb heq => by
      have h1 := hall e he hb
      rw [heq, getD_both hun] at h1
      cases h1
    refine wpOp_mono (fun a' w' h3 => ?_) (wpOp_putIf hoj (hfree j oj hoj hji hjun hnot) (fun cs b => hsel i oi cs b hi) (fun cs b => hsel j oj cs b hoj) hQ hy (H.2 j (ready_mono hj hji)))
    have hS' : S w' := h3.2.1 hjk (by rw [getD_set_ne true hik]; exact hk)
    refine ⟨fun _ _ => hS', ih (listed.setIfInBounds j true) a' w' (closed_set hc hj) (by rw [getD_set_ne true hjk]; exact hk) (fun q oq hq hqi hqun hno => ?_) (ready_mono hr (Ne.symm hji)) h3.1 hS' ?_⟩
    · by_cases hjq : j = q
      · subst hjq
        exact hfree j oq hq hqi hjun hno
      · rw [getD_set_ne true hjq] at hqun
        exact hfree q oq hq hqi hqun hno
    · rw [Array.setIfInBounds_comm _ _ hji]
      exact h3.2.2

/-- The same, where what is carried out is closed. -/
def TillC (P : Program) (md : Region.Mode) (ops : Array Oper) (Q : Exit → Act → World → Prop) (S : World → Prop) (k f : Nat) (listed : Array Bool) (a : Act) (w : World) : Prop :=
  Closed md ops listed → wpTill P md ops Q S k f listed a w
/-- Taken first: what yields its value in every world that meets S. -/
theorem till_take {i : Nat} (oi : Oper) (v : Value) (p : List Nat) {f : Nat} {listed : Array Bool} {a : Act} {w : World} (hi : ops[i]? = some oi) (hs : Region.noSelect ops = true) (hf : Region.free md ops listed i = true)
    (hr : (Region.ready md ops listed).contains i = true) (hp : (waitsPath md ops (k :: p) && decide ((k :: p).getLast? = some i) && !p.isEmpty && decide (i ≠ k) && !listed.getD k true) = true)
    (hQ : ∀ c a w, Q (.panic c) (a.put oi.dst v) w → Q (.panic c) a w) (hy : YieldsIf P ops S oi v a) (hS : S w)
    (h : TillC P md ops Q S k f (listed.setIfInBounds i true) (a.put oi.dst v) w) : TillC P md ops Q S k (f + 1) listed a w := fun hc => by
  simp only [Bool.and_eq_true, decide_eq_true_eq, Bool.not_eq_true', List.isEmpty_eq_false_iff] at hp
  have hr' : i ∈ Region.ready md ops listed := by simpa using hr
  exact till_first hi (Region.noSelect_spec hs) hQ hp.1.2 hp.1.1.1.1 hp.1.1.1.2 hp.1.1.2 f listed a w hc hp.2 (Region.free_spec hi hf) hr' hy hS (h (closed_set hc hr'))
/-- One alone comes up. -/
theorem till_one {i : Nat} (o : Oper) {f : Nat} {listed : Array Bool} {a : Act} {w : World} (hr : Region.ready md ops listed = [i]) (ho : ops[i]? = some o) (hg : o.guard = none)
    (h : ∀ K : Act → World → Prop, Shut (∀ a' w', (i ≠ k → listed.getD k true = false → S w') → TillC P md ops Q S k f (listed.setIfInBounds i true) a' w' → K a' w') → Oper.wp P o a w K Q) : TillC P md ops Q S k (f + 1) listed a w := fun hc => by
  refine ⟨fun h0 => (by rw [hr] at h0; cases h0), fun j hj => ?_⟩
  have hj' := hj
  rw [hr] at hj'
  obtain rfl : j = i := by simpa using hj'
  unfold wpOp
  simp only [ho]
  have hw : Region.wanted o (yielded ops a.tmps) = true := by simp [Region.wanted, hg]
  rw [if_pos hw]
  exact .inl (h _ fun a' w' hS hT => ⟨hS, hT (closed_set hc hj)⟩)
theorem till_done {f : Nat} {listed : Array Bool} {a : Act} {w : World} (hr : Region.ready md ops listed = []) (h : Q .normal a w) : TillC P md ops Q S k f listed a w := fun _ => by
  cases f with
  | zero => exact ⟨hr, h⟩
  | succ f => exact ⟨fun _ => h, by rw [hr]; simp⟩
theorem wp_region_till (S : World → Prop) (k n : Nat) {id : Nat} {a : Act} {w : World} (hm : P.follows .mixedOrders = true) (hn : ops.size = n)
    (h : TillC P .any ops Q S k n (Array.replicate n false) a w.drew) : (Code.region id ops true).wp P Q a w := by
  subst hn
  exact wp_region_any hm (wpAny_of_till _ _ _ _ (h (closed_none _)))
end

end Go.Proofs.YtlfhhnjdfpgadaaGreatDoor
