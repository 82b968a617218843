/-
  Layer 11: what the document's Parse has read so far, and what that says of the whole; its variables in memory.
-/
import Derived.Test.YtipmeooldopkmaaDoorL07
import Derived.Test.YtipmeooldopkmaaDoorL08
import Derived.Test.YtipmeooldopkmaaDoorL09
import Derived.RangeFuncBox
namespace Go.Proofs.YtipmeooldopkmaaDoor
open Go.RowKit

theorem rdMore_fuel : ∀ (f : Nat) (l : List UInt8) (vs : List (List UInt8)), l.length ≤ f → rdMore f l vs = rdMore l.length l vs := by
  intro f
  induction f using Nat.strongRecOn with
  | _ f ih =>
    intro l vs h
    cases l with
    | nil => cases f <;> simp [rdMore]
    | cons c t =>
      cases f with
      | zero => simp at h
      | succ f =>
        show rdMore (f + 1) (c :: t) vs = rdMore (t.length + 1) (c :: t) vs
        unfold rdMore
        split
        · cases hv : rdVal (List.drop 1 (c :: t)) with
          | bad e => rfl
          | ok v r =>
            have hl := rdVal_len hv
            simp only [List.drop_succ_cons, List.drop_zero] at hl
            simp only [List.length_cons] at h
            show rdMore f r (vs ++ [v]) = rdMore t.length r (vs ++ [v])
            rw [ih f (by omega) r _ (by omega), ih t.length (by omega) r _ hl]
        · rfl
theorem rdPars_fuel : ∀ (f : Nat) (l : List UInt8) (ps : List Par), l.length ≤ f → rdPars f l ps = rdPars l.length l ps := by
  intro f
  induction f using Nat.strongRecOn with
  | _ f ih =>
    intro l ps h
    cases l with
    | nil => cases f <;> simp [rdPars]
    | cons c t =>
      cases f with
      | zero => simp at h
      | succ f =>
        show rdPars (f + 1) (c :: t) ps = rdPars (t.length + 1) (c :: t) ps
        unfold rdPars
        split
        · split
          · rfl
          · cases hv : rdPar (List.drop 1 (c :: t)) with
            | bad e => rfl
            | ok p r =>
              have hl := rdPar_len hv
              simp only [List.drop_succ_cons, List.drop_zero] at hl
              simp only [List.length_cons] at h
              show rdPars f r (ps ++ [p]) = rdPars t.length r (ps ++ [p])
              rw [ih f (by omega) r _ (by omega), ih t.length (by omega) r _ (by omega)]
        · rfl
def moreW (l : List UInt8) (vs : List (List UInt8)) : Got (List (List UInt8)) := rdMore l.length l vs
def parsW (l : List UInt8) (ps : List Par) : Got (List Par) := rdPars l.length l ps
theorem moreW_stop {l : List UInt8} (h : l.head? ≠ some 44) (vs : List (List UInt8)) : moreW l vs = .ok vs l := by
  unfold moreW
  cases l with
  | nil => rfl
  | cons c t =>
    show rdMore (t.length + 1) (c :: t) vs = _
    rw [rdMore, if_neg h]
theorem moreW_on {l : List UInt8} (h : l.head? = some 44) (vs : List (List UInt8)) : moreW l vs = (match rdVal (l.drop 1) with | .ok v r => moreW r (vs ++ [v]) | .bad e => .bad e) := by
  cases l with
  | nil => cases h
  | cons c t =>
    show rdMore (t.length + 1) (c :: t) vs = _
    rw [rdMore, if_pos h]
    cases hv : rdVal (List.drop 1 (c :: t)) with
    | bad e => rfl
    | ok v r =>
      have hl := rdVal_len hv
      exact rdMore_fuel _ _ _ (by simpa using hl)
theorem parsW_stop {l : List UInt8} (h : l.head? ≠ some 59) (ps : List Par) : parsW l ps = .ok ps l := by
  unfold parsW
  cases l with
  | nil => rfl
  | cons c t =>
    show rdPars (t.length + 1) (c :: t) ps = _
    rw [rdPars, if_neg h]
theorem parsW_on {l : List UInt8} (h : l.head? = some 59) (ps : List Par) : parsW l ps = (match (if ps.length = 16 then .bad 27 else rdPar (l.drop 1) : Got Par) with | .bad e => .bad e | .ok p r => parsW r (ps ++ [p])) := by
  cases l with
  | nil => cases h
  | cons c t =>
    show rdPars (t.length + 1) (c :: t) ps = _
    rw [rdPars, if_pos h]
    by_cases h16 : ps.length = 16
    · rw [if_pos h16, if_pos h16]
    · rw [if_neg h16, if_neg h16]
      cases hv : rdPar (List.drop 1 (c :: t)) with
      | bad e => rfl
      | ok p r =>
        have hl := rdPar_len hv
        exact rdPars_fuel _ _ _ (by simp at hl; omega)

/-- Between two parameters. -/
def S1 (s : ByteArray) (T : Got (List Par)) (q : Nat) (e : Int) (l : List PR) : Prop :=
  (e = 0 → l.length ≤ 16 ∧ T = parsW (s.data.toList.drop q) (l.map parOf)) ∧ (e ≠ 0 → T = .bad e)
/-- What a parameter behind the ; is. -/
def parG (s : ByteArray) (q : Nat) (l : List PR) : Got Par := if l.length = 16 then .bad 27 else rdPar (s.data.toList.drop (q + 1))
theorem S1.on {s : ByteArray} {T : Got (List Par)} {q : Nat} {l : List PR} (h : S1 s T q 0 l) (hq : (s.data.toList.drop q).head? = some 59) :
    T = (match parG s q l with | .bad e => .bad e | .ok p r => parsW r (l.map parOf ++ [p])) := by
  rw [(h.1 rfl).2, parsW_on hq, List.length_map, List.drop_drop]
  rfl
theorem S1.stop {s : ByteArray} {T : Got (List Par)} {q : Nat} {l : List PR} (h : S1 s T q 0 l) (hq : (s.data.toList.drop q).head? ≠ some 59) : T = .ok (l.map parOf) (s.data.toList.drop q) := by
  rw [(h.1 rfl).2, parsW_stop hq]
/-- What comes behind a parameter's name. -/
def afterN (n : List UInt8) (r : List UInt8) : Got Par :=
  if r.head? = some 61 then (match rdVal (r.drop 1) with | .bad e => .bad e | .ok v r2 => (match moreW r2 [v] with | .bad e => .bad e | .ok vs r3 => .ok ⟨n, vs⟩ r3)) else .bad (eoE r)
theorem rdPar_is (l : List UInt8) : rdPar l = (match rdName l with | .bad e => .bad e | .ok n r => afterN n r) := by
  unfold rdPar
  cases rdName l with
  | bad e => rfl
  | ok n r => rfl
/-- Behind a parameter's name. -/
def S2 (s : ByteArray) (TP : Got Par) (nm : ByteArray) (q : Nat) (e : Int) : Prop := (e = 0 → TP = afterN nm.data.toList (s.data.toList.drop q)) ∧ (e ≠ 0 → TP = .bad e)
theorem rdName_bad {l : List UInt8} {k : Int} (h : rdName l = .bad k) : k ≠ 0 := by
  unfold rdName at h
  split at h
  · injection h with h; rw [← h]; decide
  · split at h
    · injection h with h; rw [← h]; exact eoE_pos _
    · cases h
theorem rdVal_bad {l : List UInt8} {k : Int} (h : rdVal l = .bad k) : k ≠ 0 := by
  unfold rdVal rdQuoted at h
  split at h
  · split at h
    · cases h
    · injection h with h; rw [← h]; exact eoE_pos _
  · cases h
theorem S2.of {s : ByteArray} {q : Nat} {l : List PR} {e1 e2 : Int} {nm : ByteArray} {q1 : Nat} (he : (e1 = 0 ∧ l.length ≠ 16) ∨ (e1 = 27 ∧ l.length = 16)) (h : NameSays s (q + 1) e1 nm q1 e2) : S2 s (parG s q l) nm q1 e2 := by
  unfold parG
  rcases he with ⟨rfl, hl⟩ | ⟨rfl, hl⟩
  · rw [if_neg hl, rdPar_is]
    have h2 := h.2 rfl
    cases hn : rdName (s.data.toList.drop (q + 1)) with
    | bad k =>
      rw [hn] at h2
      dsimp only at h2
      subst h2
      exact ⟨fun h => absurd h (rdName_bad hn), fun _ => rfl⟩
    | ok n r =>
      rw [hn] at h2
      dsimp only at h2
      obtain ⟨rfl, rfl, h3⟩ := h2
      exact ⟨fun _ => by rw [h3], fun h => absurd rfl h⟩
  · rw [if_pos hl]
    have h2 := h.1 (by decide)
    subst h2
    exact ⟨fun h => absurd h (by decide), fun _ => rfl⟩
/-- Behind the = of a parameter. -/
def S2b (s : ByteArray) (TP : Got Par) (nm : ByteArray) (q : Nat) (e : Int) : Prop :=
  (e = 0 → q < s.size ∧ TP = (match rdVal (s.data.toList.drop (q + 1)) with | .bad e => .bad e | .ok v r2 => (match moreW r2 [v] with | .bad e => .bad e | .ok vs r3 => .ok ⟨nm.data.toList, vs⟩ r3))) ∧ (e ≠ 0 → TP = .bad e)
theorem S2.is {s : ByteArray} {TP : Got Par} {nm : ByteArray} {q : Nat} {e : Int} (h : S2 s TP nm q e) (hi : isV s q e 61 = true) : S2b s TP nm q e := by
  have hi' := isV_iff.1 hi
  obtain ⟨rfl, hq⟩ := isV_lt hi
  refine ⟨fun _ => ⟨hq, ?_⟩, fun h => absurd rfl h⟩
  rw [h.1 rfl]
  unfold afterN
  rw [if_pos hi'.2, List.drop_drop]
theorem S2.isnt {s : ByteArray} {TP : Got Par} {nm : ByteArray} {q : Nat} {e : Int} (h : S2 s TP nm q e) (hi : isV s q e 61 = false) : S2b s TP nm q (keepE e (eoE (s.data.toList.drop q))) := by
  by_cases he : e = 0
  · subst he
    rw [keepE_zero]
    refine ⟨fun h => absurd h (eoE_pos _), fun _ => ?_⟩
    rw [h.1 rfl]
    unfold afterN
    rw [if_neg (isV_false hi)]
  · rw [keepE_ne he]
    exact ⟨fun h => absurd h he, fun _ => h.2 he⟩
/-- Between two values. -/
def S3 (s : ByteArray) (TP : Got Par) (nm : ByteArray) (q : Nat) (e : Int) (vs : List ByteArray) : Prop :=
  (e = 0 → TP = (match moreW (s.data.toList.drop q) (vs.map fun v => v.data.toList) with | .bad e => .bad e | .ok ws r3 => .ok ⟨nm.data.toList, ws⟩ r3)) ∧ (e ≠ 0 → TP = .bad e)
theorem S2b.bad {s : ByteArray} {TP : Got Par} {nm : ByteArray} {q q' : Nat} {e : Int} (h : S2b s TP nm q e) (he : e ≠ 0) (vs : List ByteArray) : S3 s TP nm q' e vs := ⟨fun h => absurd h he, fun _ => h.2 he⟩
theorem S2b.first {s : ByteArray} {TP : Got Par} {nm v : ByteArray} {q q2 : Nat} {e2 : Int} (h : S2b s TP nm q 0) (hv : ValSays s (q + 1) v q2 e2) : S3 s TP nm q2 e2 [v] := by
  have ht := (h.1 rfl).2
  unfold ValSays at hv
  cases hr : rdVal (s.data.toList.drop (q + 1)) with
  | bad k =>
    rw [hr] at hv ht
    dsimp only at hv ht
    subst hv
    exact ⟨fun h => absurd h (rdVal_bad hr), fun _ => ht⟩
  | ok a r =>
    rw [hr] at hv ht
    dsimp only at hv ht
    obtain ⟨rfl, rfl, h3, _⟩ := hv
    refine ⟨fun _ => ?_, fun h => absurd rfl h⟩
    rw [ht, h3]
    rfl
theorem S3.next {s : ByteArray} {TP : Got Par} {nm v : ByteArray} {q q2 : Nat} {e2 : Int} {vs : List ByteArray} (h : S3 s TP nm q 0 vs) (hq : (s.data.toList.drop q).head? = some 44) (hv : ValSays s (q + 1) v q2 e2) : S3 s TP nm q2 e2 (vs ++ [v]) := by
  have ht := h.1 rfl
  rw [moreW_on hq, List.drop_drop] at ht
  unfold ValSays at hv
  cases hr : rdVal (s.data.toList.drop (q + 1)) with
  | bad k =>
    rw [hr] at hv ht
    dsimp only at hv ht
    subst hv
    exact ⟨fun h => absurd h (rdVal_bad hr), fun _ => ht⟩
  | ok a r =>
    rw [hr] at hv ht
    dsimp only at hv ht
    obtain ⟨rfl, rfl, h3, _⟩ := hv
    refine ⟨fun _ => ?_, fun h => absurd rfl h⟩
    rw [ht, h3, List.map_append]
    rfl
theorem S3.done {s : ByteArray} {T : Got (List Par)} {nm : ByteArray} {q0 q : Nat} {e : Int} {vs : List ByteArray} {l : List PR} (h : S3 s (parG s q0 l) nm q e vs) (hl : l.length ≤ 16)
    (ht : T = (match parG s q0 l with | .bad e => .bad e | .ok p r => parsW r (l.map parOf ++ [p]))) (hi : isV s q e 44 = false) (K : Option Addr) (k kc : Nat) : S1 s T q e (l ++ [⟨nm, K, k, kc, vs⟩]) := by
  by_cases he : e = 0
  · subst he
    have h1 := h.1 rfl
    rw [moreW_stop (isV_false hi)] at h1
    dsimp only at h1
    refine ⟨fun _ => ⟨?_, ?_⟩, fun h => absurd rfl h⟩
    · rcases Nat.lt_or_ge l.length 16 with h16 | h16
      · simp; omega
      · unfold parG at h1
        rw [if_pos (by omega)] at h1
        cases h1
    · rw [ht, h1, List.map_append]
      rfl
  · refine ⟨fun h => absurd h he, fun _ => ?_⟩
    rw [ht, h.2 he]

theorem val_mono {s v : ByteArray} {p q : Nat} (h : ValSays s p v q 0) (hp : p ≤ s.size) : p ≤ q ∧ q ≤ s.size := by
  unfold ValSays at h
  cases hr : rdVal (s.data.toList.drop p) with
  | bad k =>
    rw [hr] at h
    exact absurd h.symm (rdVal_bad hr)
  | ok a r =>
    rw [hr] at h
    obtain ⟨_, _, h3, h4⟩ := h
    have hl := rdVal_len hr
    rw [← h3, List.length_drop, List.length_drop, ← bsize] at hl
    omega
/-- What the parameters are, by the name's reading. -/
def tgt (s : ByteArray) (q1 : Nat) (e1 : Int) : Got (List Par) := if e1 = 0 then parsW (s.data.toList.drop q1) [] else .bad e1
theorem S1.start (s : ByteArray) (q1 : Nat) (e1 : Int) : S1 s (tgt s q1 e1) q1 e1 [] := by
  unfold tgt
  exact ⟨fun h => ⟨by simp, by rw [if_pos h]; rfl⟩, fun h => by rw [if_neg h]⟩
/-- What Parse tells where no more parameters come. -/
theorem par_end {s nm : ByteArray} {q1 q : Nat} {e1 e : Int} {l : List PR} (hs : s.size ≤ 1024) (hv : vld s.data.toList = true) (hn : NameSays s 0 0 nm q1 e1) (h : S1 s (tgt s q1 e1) q e l) (hi : isV s q e 59 = false) :
    (e ≠ 0 → parL s.data.toList = (noPro, e)) ∧ (e = 0 → parL s.data.toList = if (s.data.toList.drop q).head? = some 58 then (if (s.data.toList.drop (q + 1)).all (fun c => !ctlN c.toNat) = true then (⟨nm.data.toList, l.map parOf, s.data.toList.drop (q + 1)⟩, 0) else (noPro, 10)) else (noPro, eoE (s.data.toList.drop q))) := by
  have hL : parL s.data.toList = (match rdRest s.data.toList with | .ok p _ => (p, 0) | .bad e => (noPro, e)) := by
    unfold parL
    rw [if_neg (by rw [← bsize]; omega), if_pos hv]
    cases rdRest s.data.toList <;> rfl
  have h2 := hn.2 rfl
  rw [List.drop_zero] at h2
  unfold rdRest at hL
  cases hr : rdName s.data.toList with
  | bad k =>
    rw [hr] at h2 hL
    dsimp only at h2 hL
    subst h2
    have hk := rdName_bad hr
    have ht : tgt s q1 e1 = .bad e1 := by unfold tgt; rw [if_neg hk]
    rw [ht] at h
    by_cases he : e = 0
    · subst he
      have := h.stop (isV_false hi)
      cases this
    · have := h.2 he
      injection this with this
      subst this
      exact ⟨fun _ => hL, fun h => absurd h he⟩
  | ok n r =>
    rw [hr] at h2 hL
    dsimp only at h2 hL
    obtain ⟨rfl, rfl, h3⟩ := h2
    have ht : tgt s q1 0 = rdPars r.length r [] := by unfold tgt parsW; rw [if_pos rfl, h3]
    rw [ht] at h
    by_cases he : e = 0
    · subst he
      have h4 := h.stop (isV_false hi)
      rw [h4] at hL
      dsimp only at hL
      refine ⟨fun h => absurd rfl h, fun _ => ?_⟩
      rw [hL, List.drop_drop]
      by_cases h58 : (s.data.toList.drop q).head? = some 58
      · rw [if_pos h58, if_pos h58]
        by_cases ha : (s.data.toList.drop (q + 1)).all (fun c => !ctlN c.toNat) = true
        · rw [if_pos ha, if_pos ha]
        · rw [if_neg ha, if_neg ha]
      · rw [if_neg h58, if_neg h58]
    · have h4 := h.2 he
      rw [h4] at hL
      exact ⟨fun _ => hL, fun h => absurd h he⟩

end Go.Proofs.YtipmeooldopkmaaDoor

/-
  Layer 11: the variables of the document's Parse in memory: the property so far, a parameter so far.
-/
namespace Go.Proofs.YtipmeooldopkmaaDoor
open Go.RowKit

/-- A block of another type is no row's. -/
theorem own_not {w : World} {base size n : Nat} {e t : TypeId} {v : Value} {xs : List Value} {g : Nat} {cs : Array Value} {fr : Nat × Nat} (h : w.ownsRow base e size v n xs) (hg : w.heap[g]? = some (.cells cs t fr)) (hne : t ≠ e) : v.ownBlock ≠ some g := by
  rcases h.2 with ⟨rfl, _⟩ | ⟨g', cap', cur, rfl, _, hh, _⟩
  · intro h; cases h
  · intro hx
    have : g' = g := by simpa [Value.ownBlock] using hx
    subst this
    rw [hh] at hg
    injection hg with hg
    injection hg with _ h2 _
    exact hne h2.symm
theorem ButL.grown {g : Nat} {w w' : World} (h : ButL g w w') : w.grownBy w' (some g) := ⟨h.os, h.tape, h.output, h.size, fun k hk hne => h.block k hk (fun e => hne (by rw [e]))⟩

/-- Between two parameters: the reader, the property, the answer's variable, the parameters' row, their values' rows. -/
structure Xs (s nm : ByteArray) (H g P : Nat) (w wr : World) (q : Nat) (e : Int) (L : Option Addr) (n c : Nat) (l : List PR) : Prop where
  rd : R3 wr g s q e
  pv : P3 wr P nm ⟨#[]⟩ L n c
  res : P3 wr H ⟨#[]⟩ ⟨#[]⟩ none 0 0
  own : wr.ownsRow H 57 2 (.slice L n c) n (encP l)
  par : ∀ r ∈ l, wr.ownsRow H 9 1 (.slice r.K r.k r.kc) r.k (encS r.vs)
  ne : H < g ∧ H < P ∧ g ≠ P
  bel : Below H w wr
section
variable {s nm : ByteArray} {H g P : Nat} {w wr w' w1 w2 : World} {q q' : Nat} {e e' : Int} {L : Option Addr} {n c : Nat} {l : List PR}
theorem Xs.but (h : Xs s nm H g P w wr q e L n c l) (hb : ButL g wr w') (hr : R3 w' g s q' e') : Xs s nm H g P w w' q' e' L n c l := by
  have hg := hb.grown
  refine ⟨hr, (hb.block P h.pv.lt (Ne.symm h.ne.2.2)).trans h.pv, (hb.block H h.res.lt (by have := h.ne.1; omega)).trans h.res, own_grown h.own hg (fun b e1 e2 => own_not h.own h.rd (by decide) (e1.trans e2.symm)), fun r hr => own_grown (h.par r hr) hg (fun b e1 e2 => own_not (h.par r hr) h.rd (by decide) (e1.trans e2.symm)), h.ne, h.bel.trans (hb.to_below (by have := h.ne.1; omega) ?_)⟩
  have := h.res.lt
  omega
theorem Xs.below (h : Xs s nm H g P w wr q e L n c l) (hb : Below wr.heap.size wr w') : Xs s nm H g P w w' q e L n c l :=
  h.but (ButL.of_below hb g) (h.rd.step hb)
theorem Xs.len (h : Xs s nm H g P w wr q e L n c l) : l.length = n := by
  have := h.own.1
  rw [encP_length] at this
  omega
theorem encP_snoc : ∀ (l : List PR) (r : PR), encP (l ++ [r]) = encP l ++ [.string r.name, .slice r.K r.k r.kc]
  | [], r => rfl
  | x :: l, r => by simp only [List.cons_append, encP, encP_snoc l r]
theorem encP_one : ∀ (l : List PR), ∀ u ∈ encP l, u.oneCell' = true
  | [], u, h => by cases h
  | x :: l, u, h => by
    simp only [encP, List.mem_cons] at h
    rcases h with rfl | rfl | h
    · rfl
    · rfl
    · exact encP_one l u h
/-- A parameter more. -/
theorem Xs.app (h : Xs s nm H g P w wr q e L n c l) (r : PR) (hrow : wr.ownsRow H 9 1 (.slice r.K r.k r.kc) r.k (encS r.vs)) (ha : Below wr.heap.size wr w1) (hg : w1.grownBy w2 (Value.slice L n c).ownBlock) {L' : Option Addr} {c' : Nat}
    (hr : w2.ownsRow H 57 2 (.slice L' (n + 1) c') (n + 1) (encP (l ++ [r]))) : Xs s nm H g P w (w2.setCell ⟨P, 1, none⟩ (.slice L' (n + 1) c')) q e L' (n + 1) c' (l ++ [r]) := by
  have h1 := h.below ha
  have hrow1 := own_below hrow ha
  have nR : (Value.slice L n c).ownBlock ≠ some g := own_not h1.own h1.rd (by decide)
  have nP : (Value.slice L n c).ownBlock ≠ some P := own_not h1.own h1.pv (by decide)
  have nH : (Value.slice L n c).ownBlock ≠ some H := own_not h1.own h1.res (by decide)
  have rd2 : R3 w2 g s q e := (hg.block g h1.rd.lt (Ne.symm nR)).trans h1.rd
  have pv2 : P3 w2 P nm ⟨#[]⟩ L n c := (hg.block P h1.pv.lt (Ne.symm nP)).trans h1.pv
  have pv3 : w2.heap[P]? = some (.cells #[.string nm, .slice L n c, .string ⟨#[]⟩] 24 (0, 0)) := pv2
  have res2 : P3 w2 H ⟨#[]⟩ ⟨#[]⟩ none 0 0 := (hg.block H h1.res.lt (Ne.symm nH)).trans h1.res
  have par2 : ∀ x ∈ l ++ [r], w2.ownsRow H 9 1 (.slice x.K x.k x.kc) x.k (encS x.vs) := fun x hx => by
    have hx1 : w1.ownsRow H 9 1 (.slice x.K x.k x.kc) x.k (encS x.vs) := by
      rcases List.mem_append.1 hx with hx | hx
      · exact h1.par x hx
      · obtain rfl : x = r := by simpa using hx
        exact hrow1
    exact own_grown hx1 hg (fun b e1 e2 => own_apart h1.own hx1 (by decide) b e2 e1)
  have hPs : ∀ k, k ≠ P → (w2.setCell ⟨P, 1, none⟩ (.slice L' (n + 1) c')).heap[k]? = w2.heap[k]? := fun k hk => Below.heap_setCell w2 ⟨P, 1, none⟩ _ k hk
  refine ⟨(hPs g h.ne.2.2).trans rd2, ?_, (hPs H (by have := h.ne.2.1; omega)).trans res2, ownsRow_setCell_other (a := ⟨P, 1, none⟩) hr (own_not hr pv3 (by decide)) _, fun x hx => ownsRow_setCell_other (a := ⟨P, 1, none⟩) (par2 x hx) (own_not (par2 x hx) pv3 (by decide)) _, h.ne, ?_⟩
  · unfold P3 at pv2 ⊢
    simp [World.setCell, Array.getElem?_modify, pv2]
  · refine (h1.bel.grown hg (Nat.le_of_lt h1.res.lt) (fun k hk => own_row_ge h1.own k hk)).setCell (p := ⟨P, 1, none⟩) (by have := h.ne.2.1; show H ≤ P; omega) _
/-- Its variable is as it was behind an append. -/
theorem Xs.after (h : Xs s nm H g P w wr q e L n c l) (hg : wr.grownBy w' (Value.slice L n c).ownBlock) : w'.cell? ⟨P, 1, none⟩ = some (.slice L n c) ∧ ∀ o, w'.frozen? ⟨P, o, none⟩ = false := by
  have hp : w'.heap[P]? = some (.cells #[.string nm, .slice L n c, .string ⟨#[]⟩] 24 (0, 0)) := (hg.block P h.pv.lt (Ne.symm (own_not h.own h.pv (by decide)))).trans h.pv
  exact ⟨by simp [World.cell?, hp], fun o => by simp [World.frozen?, hp]⟩
end
theorem cells2_new (w : World) (a b : Value) (t : TypeId) : ∀ j u, [a, b][j]? = some u → (w.alloc (.cells #[a, b] t)).cell? ((⟨w.heap.size, 0, none⟩ : Addr).add j) = some u := by
  intro j u h
  rw [Go.WideShapes.add_plain, Nat.zero_add]
  rw [cell_of_row _ w.heap.size j #[a, b] t (0, 0) (heap_alloc_new w _)]
  simpa using h
theorem cells2_one (s : ByteArray) (A : Option Addr) (n c : Nat) : ∀ u ∈ [Value.string s, .slice A n c], u.oneCell' = true := by
  intro u h
  simp only [List.mem_cons, List.not_mem_nil, or_false] at h
  rcases h with rfl | rfl <;> rfl
/-- A parameter so far: since the world wX, in which its variable was not yet. -/
structure Xi (s nx : ByteArray) (g X : Nat) (wX wc : World) (q : Nat) (e : Int) (A : Option Addr) (k kc : Nat) (vs : List ByteArray) : Prop where
  but : ButL g wX wc
  rd : R3 wc g s q e
  xv : wc.heap[X]? = some (.cells #[.string nx, .slice A k kc] 57 (0, 0))
  row : wc.ownsRow X 9 1 (.slice A k kc) k (encS vs)
  ge : wX.heap.size ≤ X
  lt : g < X
section
variable {s nx v : ByteArray} {g X : Nat} {wX wc w' w1 w2 : World} {q q' : Nat} {e e' : Int} {A : Option Addr} {k kc : Nat} {vs : List ByteArray}
theorem Xi.xlt (h : Xi s nx g X wX wc q e A k kc vs) : X < wc.heap.size := (Array.getElem?_eq_some_iff.1 h.xv).1
theorem Xi.cells (h : Xi s nx g X wX wc q e A k kc vs) : wc.cell? ⟨X, 0, none⟩ = some (.string nx) ∧ wc.cell? ⟨X, 1, none⟩ = some (.slice A k kc) ∧ ∀ o, wc.frozen? ⟨X, o, none⟩ = false := by
  have hx := h.xv
  exact ⟨by simp [World.cell?, hx], by simp [World.cell?, hx], fun o => by simp [World.frozen?, hx]⟩
theorem Xi.on (h : Xi s nx g X wX wc q e A k kc vs) (hb : ButL g wc w') (hr : R3 w' g s q' e') : Xi s nx g X wX w' q' e' A k kc vs :=
  ⟨h.but.trans hb, hr, (hb.block X h.xlt (by have := h.lt; omega)).trans h.xv, own_grown h.row hb.grown (fun b e1 e2 => own_not h.row h.rd (by decide) (e1.trans e2.symm)), h.ge, h.lt⟩
theorem Xi.below (h : Xi s nx g X wX wc q e A k kc vs) (hb : Below wc.heap.size wc w') : Xi s nx g X wX w' q e A k kc vs := h.on (ButL.of_below hb g) (h.rd.step hb)
theorem encS_snoc (l : List ByteArray) (v : ByteArray) : encS (l ++ [v]) = encS l ++ [.string v] := by simp [encS]
/-- Its variable is as it was behind an append. -/
theorem Xi.after (h : Xi s nx g X wX wc q e A k kc vs) (hg : wc.grownBy w' (Value.slice A k kc).ownBlock) : w'.cell? ⟨X, 1, none⟩ = some (.slice A k kc) ∧ ∀ o, w'.frozen? ⟨X, o, none⟩ = false := by
  have hx := (hg.block X h.xlt (Ne.symm (own_not h.row h.xv (by decide)))).trans h.xv
  exact ⟨by simp [World.cell?, hx], fun o => by simp [World.frozen?, hx]⟩
theorem Xi.app (h : Xi s nx g X wX wc q e A k kc vs) (ha : Below wc.heap.size wc w1) (hg : w1.grownBy w2 (Value.slice A k kc).ownBlock) {A' : Option Addr} {c' : Nat}
    (hr : w2.ownsRow X 9 1 (.slice A' (k + 1) c') (k + 1) (encS (vs ++ [v]))) : Xi s nx g X wX (w2.setCell ⟨X, 1, none⟩ (.slice A' (k + 1) c')) q e A' (k + 1) c' (vs ++ [v]) := by
  have h1 := h.below ha
  have hlt := h.lt
  have hge := h.ge
  have nX : (Value.slice A k kc).ownBlock ≠ some X := own_not h1.row h1.xv (by decide)
  have nlow : ∀ b, b < X → some b ≠ (Value.slice A k kc).ownBlock := fun b hb e => by
    have := own_row_ge h1.row b e.symm
    omega
  have rd2 : R3 w2 g s q e := (hg.block g h1.rd.lt (nlow g hlt)).trans h1.rd
  have xv2 : w2.heap[X]? = some (.cells #[.string nx, .slice A k kc] 57 (0, 0)) := (hg.block X h1.xlt (Ne.symm nX)).trans h1.xv
  have hXs : ∀ b, b ≠ X → (w2.setCell ⟨X, 1, none⟩ (.slice A' (k + 1) c')).heap[b]? = w2.heap[b]? := fun b hb => Below.heap_setCell w2 ⟨X, 1, none⟩ _ b hb
  have but2 : ButL g wX w2 := ⟨hg.os.trans h1.but.os, hg.tape.trans h1.but.tape, hg.output.trans h1.but.output, Nat.le_trans h1.but.size hg.size, fun b hb hne => (hg.block b (by have := h1.but.size; omega) (nlow b (by omega))).trans (h1.but.block b hb hne)⟩
  refine ⟨⟨but2.os, but2.tape, but2.output, by simpa [World.setCell] using but2.size, fun b hb hne => (hXs b (by omega)).trans (but2.block b hb hne)⟩, (hXs g (by omega)).trans rd2, ?_, ownsRow_setCell_other (a := ⟨X, 1, none⟩) hr (own_not hr xv2 (by decide)) _, hge, hlt⟩
  simp [World.setCell, Array.getElem?_modify, xv2]
end

/-- While the answer's variable is set to nothing: the error, that variable, what was before. -/
structure CF (w : World) (H g : Nat) (e : Int) (w' : World) : Prop where
  c2 : w'.cell? ⟨g, 2, none⟩ = some (.int .i64 e)
  res : P3 w' H ⟨#[]⟩ ⟨#[]⟩ none 0 0
  bel : Below H w w'
theorem Xs.cf {s nm : ByteArray} {H g P : Nat} {w wr : World} {q : Nat} {e : Int} {L : Option Addr} {n c : Nat} {l : List PR} (h : Xs s nm H g P w wr q e L n c l) : CF w H g e wr.drew := ⟨h.rd.cells.2.2.1, h.res, h.bel.trans (Below.refl _ _).drew⟩
theorem set_same {w : World} {g i : Nat} {cs : Array Value} {t : TypeId} {fr : Nat × Nat} {v : Value} (h : w.heap[g]? = some (.cells cs t fr)) (hv : cs[i]? = some v) : w.setCell ⟨g, i, none⟩ v = w := by
  have hh : (w.setCell ⟨g, i, none⟩ v).heap = w.heap := by
    apply Array.ext_getElem?
    intro k
    by_cases hk : k = g
    · subst hk
      rw [h]
      simp only [World.setCell, Array.getElem?_modify, h, if_pos, Option.map_some, Option.some.injEq, Obj.cells.injEq, and_true]
      have hc : cs.setIfInBounds i v = cs := by
        apply Array.ext_getElem?
        intro j
        rw [Array.getElem?_setIfInBounds]
        by_cases hj : i = j
        · subst hj
          have := (Array.getElem?_eq_some_iff.1 hv).1
          rw [if_pos rfl, if_pos this, hv]
        · rw [if_neg hj]
      exact hc
    · exact Below.heap_setCell w ⟨g, i, none⟩ v k hk
  cases w
  simp only [World.setCell] at hh ⊢
  rw [hh]
theorem P3.frozen {w : World} {g n c : Nat} {nm vl : ByteArray} {L : Option Addr} (h : P3 w g nm vl L n c) (o : Nat) : w.frozen? ⟨g, o, none⟩ = false := by
  unfold P3 at h
  simp [World.frozen?, h]
theorem load_prop {w : World} {g n c : Nat} {nm vl : ByteArray} {L : Option Addr} (h : P3 w g nm vl L n c) : (Go.loadVar 24 ⟨g, 0, none⟩).run Tryd.prog w = .ok (.agg #[.string nm, .slice L n c, .string vl]) w := by
  obtain ⟨a0, a1, a2⟩ := h.cells
  unfold loadVar
  go_simp
theorem results_two {P : Program} {fn : Func} {t u : Tmp} {T : TypeId} (h : fn.results = #[.cell t T, .tmp u]) (tmps : Array Value) {w : World} {a : Addr} {v v2 : Value} (ht : tmps.getD t undef = .pointer (some a)) (hu : tmps.getD u undef = v2) (hv : (Go.loadVar T a).run P w = .ok v w) :
    (results fn tmps).run P w = .ok (.tuple #[v, v2]) w := by
  subst hu
  have ht2 : tmps[t]?.getD undef = .pointer (some a) := by rw [← Array.getD_eq_getD_getElem?]; exact ht
  simp [results, h, ht2, asAddr, hv]
theorem all_ctl {v : ByteArray} (h : ∀ j, (hj : j < v.size) → ctlN v[j].toNat = false) : v.data.toList.all (fun c => !ctlN c.toNat) = true := by
  rw [List.all_eq_true]
  intro c hc
  obtain ⟨j, hj, e⟩ := List.getElem_of_mem hc
  have hj' : j < v.size := by rw [bsize]; exact hj
  have h2 := h j hj'
  have e2 : v[j] = c := by rw [← e]; rfl
  rw [e2] at h2
  rw [h2]; rfl
theorem not_all_ctl {v : ByteArray} {j : Nat} (hj : j < v.size) (h : ctlN v[j].toNat = true) : ¬ v.data.toList.all (fun c => !ctlN c.toNat) = true := by
  intro ha
  rw [List.all_eq_true] at ha
  have hj' : j < v.data.toList.length := by rw [← bsize]; exact hj
  have h2 := ha (v.data.toList[j]) (List.getElem_mem hj')
  have e2 : v.data.toList[j] = v[j] := rfl
  rw [e2, h] at h2
  cases h2
/-- The property whole; the answer's variable not yet. -/
structure Xf (nm vl : ByteArray) (H P : Nat) (w wr : World) (L : Option Addr) (n c : Nat) (l : List PR) : Prop where
  pv : P3 wr P nm vl L n c
  res : P3 wr H ⟨#[]⟩ ⟨#[]⟩ none 0 0
  own : wr.ownsRow H 57 2 (.slice L n c) n (encP l)
  par : ∀ r ∈ l, wr.ownsRow H 9 1 (.slice r.K r.k r.kc) r.k (encS r.vs)
  ne : H < P
  bel : Below H w wr
theorem Xs.val {s nm : ByteArray} {H g P : Nat} {w wr : World} {q : Nat} {e : Int} {L : Option Addr} {n c : Nat} {l : List PR} (h : Xs s nm H g P w wr q e L n c l) (vl : ByteArray) : Xf nm vl H P w (wr.setCell ⟨P, 2, none⟩ (.string vl)) L n c l := by
  have pv := h.pv
  unfold P3 at pv
  refine ⟨?_, (Below.heap_setCell wr ⟨P, 2, none⟩ _ H (by have := h.ne.2.1; show H ≠ P; omega)).trans h.res, ownsRow_setCell_other (a := ⟨P, 2, none⟩) h.own (own_not h.own pv (by decide)) _, fun x hx => ownsRow_setCell_other (a := ⟨P, 2, none⟩) (h.par x hx) (own_not (h.par x hx) pv (by decide)) _, h.ne.2.1, h.bel.setCell (p := ⟨P, 2, none⟩) (by have := h.ne.2.1; show H ≤ P; omega) _⟩
  unfold P3
  simp [World.setCell, Array.getElem?_modify, pv]
theorem Xf.fin {nm vl : ByteArray} {H P : Nat} {w wr : World} {L : Option Addr} {n c : Nat} {l : List PR} (h : Xf nm vl H P w wr L n c l) :
    P3 (((wr.setCell ⟨H, 0, none⟩ (.string nm)).setCell ⟨H, 1, none⟩ (.slice L n c)).setCell ⟨H, 2, none⟩ (.string vl)) H nm vl L n c ∧
    Reads (((wr.setCell ⟨H, 0, none⟩ (.string nm)).setCell ⟨H, 1, none⟩ (.slice L n c)).setCell ⟨H, 2, none⟩ (.string vl)) (((wr.setCell ⟨H, 0, none⟩ (.string nm)).setCell ⟨H, 1, none⟩ (.slice L n c)).setCell ⟨H, 2, none⟩ (.string vl)).heap.size 2 L n (encP l) ∧
    (∀ r ∈ l, POk (((wr.setCell ⟨H, 0, none⟩ (.string nm)).setCell ⟨H, 1, none⟩ (.slice L n c)).setCell ⟨H, 2, none⟩ (.string vl)) (((wr.setCell ⟨H, 0, none⟩ (.string nm)).setCell ⟨H, 1, none⟩ (.slice L n c)).setCell ⟨H, 2, none⟩ (.string vl)).heap.size r) ∧ n ≤ c ∧ c ≤ maxLen ∧
    Below H w (((wr.setCell ⟨H, 0, none⟩ (.string nm)).setCell ⟨H, 1, none⟩ (.slice L n c)).setCell ⟨H, 2, none⟩ (.string vl)) := by
  have res := h.res
  unfold P3 at res
  have nH : (Value.slice L n c).ownBlock ≠ some H := own_not h.own res (by decide)
  have hO := ownsRow_setCell_other (a := ⟨H, 2, none⟩) (ownsRow_setCell_other (a := ⟨H, 1, none⟩) (ownsRow_setCell_other (a := ⟨H, 0, none⟩) h.own nH (.string nm)) nH (.slice L n c)) nH (.string vl)
  have hlc : n ≤ c ∧ c ≤ maxLen := by
    obtain ⟨A', c', e, h1, h2⟩ := own_slice h.own
    injection e with _ _ e3
    subst e3
    exact ⟨h1, h2⟩
  refine ⟨?_, Reads.of_own hO, fun r hr => ?_, hlc.1, hlc.2, ((h.bel.setCell (p := ⟨H, 0, none⟩) (Nat.le_refl _) _).setCell (p := ⟨H, 1, none⟩) (Nat.le_refl _) _).setCell (p := ⟨H, 2, none⟩) (Nat.le_refl _) _⟩
  · unfold P3
    simp [World.setCell, Array.getElem?_modify, res]
  · have nr : (Value.slice r.K r.k r.kc).ownBlock ≠ some H := own_not (h.par r hr) res (by decide)
    have hr2 := ownsRow_setCell_other (a := ⟨H, 2, none⟩) (ownsRow_setCell_other (a := ⟨H, 1, none⟩) (ownsRow_setCell_other (a := ⟨H, 0, none⟩) (h.par r hr) nr (.string nm)) nr (.slice L n c)) nr (.string vl)
    obtain ⟨A', c', e, h1, h2⟩ := own_slice (h.par r hr)
    injection e with _ _ e3
    subst e3
    exact ⟨Reads.of_own hr2, h1, h2⟩
theorem Xf.zero {nm vl : ByteArray} {H P : Nat} {w wr : World} {L : Option Addr} {n c : Nat} {l : List PR} (h : Xf nm vl H P w wr L n c l) :
    P3 (((wr.setCell ⟨H, 0, none⟩ (.string ⟨#[]⟩)).setCell ⟨H, 1, none⟩ (.slice none 0 0)).setCell ⟨H, 2, none⟩ (.string ⟨#[]⟩)) H ⟨#[]⟩ ⟨#[]⟩ none 0 0 ∧
    Below H w (((wr.setCell ⟨H, 0, none⟩ (.string ⟨#[]⟩)).setCell ⟨H, 1, none⟩ (.slice none 0 0)).setCell ⟨H, 2, none⟩ (.string ⟨#[]⟩)) := by
  have res := h.res
  unfold P3 at res
  refine ⟨?_, ((h.bel.setCell (p := ⟨H, 0, none⟩) (Nat.le_refl _) _).setCell (p := ⟨H, 1, none⟩) (Nat.le_refl _) _).setCell (p := ⟨H, 2, none⟩) (Nat.le_refl _) _⟩
  unfold P3
  simp [World.setCell, Array.getElem?_modify, res]

end Go.Proofs.YtipmeooldopkmaaDoor
