/-
  Plain mathematics for layer 14 (rule): a rule, its parts, how they are read.
-/
import Derived.Test.YtnidkcedomhofaaGreatDoorG12
import Derived.Lib.Join
import Derived.Test.YtnidkcedomhofaaGreatDoorG11
namespace Go.Proofs.YtnidkcedomhofaaGreatDoor
open Go.RowKit

theorem cells_newV (w : World) (vs : List Value) (t : TypeId) : ∀ j u, vs[j]? = some u → (w.alloc (.cells vs.toArray t)).cell? ((⟨w.heap.size, 0, none⟩ : Addr).add j) = some u := by
  intro j u hu
  have hh := heap_alloc_new w (.cells vs.toArray t)
  have e : ((⟨w.heap.size, 0, none⟩ : Addr).add j) = ⟨w.heap.size, j, none⟩ := by
    unfold Addr.add
    by_cases hj : j = 0
    · subst hj; rfl
    · simp [hj]
  rw [e]
  unfold World.cell?
  rw [hh]
  simp [hu]
/-- A byte's great letter. -/
def upN (n : Nat) : Nat := if 97 ≤ n ∧ n ≤ 122 then n - 32 else n
def upC (c : UInt8) : UInt8 := UInt8.ofNat (upN c.toNat)
def upL (l : List UInt8) : List UInt8 := l.map upC
theorem upN_lt {n : Nat} (h : n < 256) : upN n < 256 := by unfold upN; split <;> omega
theorem upC_nat (c : UInt8) : (upC c).toNat = upN c.toNat := by
  have := upN_lt c.toNat_lt
  unfold upC
  rw [UInt8.toNat_ofNat']; omega
theorem upC_keep {x : UInt8} (h : ¬ (97 ≤ x.toNat ∧ x.toNat ≤ 122)) : upC x = x := by
  apply UInt8.toNat_inj.1
  rw [upC_nat]
  unfold upN
  rw [if_neg h]
theorem upC_turn {x : UInt8} (h : 97 ≤ x.toNat ∧ x.toNat ≤ 122) : (upC x).toNat = x.toNat - 32 := by
  rw [upC_nat]
  unfold upN
  rw [if_pos h]
theorem upL_append (a b : List UInt8) : upL (a ++ b) = upL a ++ upL b := by simp [upL]

/-- A rule. -/
structure RuV where
  freq : Int
  intv : Int
  cnt : Int
  has : Bool
  unt : Wh
  mon : List Int
  md : List Int
  dys : List (Int × Int)
  pos : List Int
  wk : Int
deriving DecidableEq
def RuV.zero : RuV := ⟨0, 0, 0, false, Wh.zero, [], [], [], [], 0⟩
def RuV.init : RuV := ⟨0, 1, 0, false, Wh.zero, [], [], [], [], 0⟩

/-- A text cut at every c. -/
def splitC (c : UInt8) : List UInt8 → List UInt8 → List (List UInt8)
  | acc, [] => [acc]
  | acc, x :: l => if x = c then acc :: splitC c [] l else splitC c (acc ++ [x]) l
theorem splitC_len (c : UInt8) : ∀ (l acc : List UInt8), (splitC c acc l).length = l.count c + 1
  | [], acc => rfl
  | x :: l, acc => by
    rw [splitC]
    by_cases h : x = c
    · subst h
      rw [if_pos rfl, List.length_cons, splitC_len x l, List.count_cons_self]
    · rw [if_neg h, splitC_len c l, List.count_cons_of_ne h]
theorem splitC_com (c : UInt8) (acc : List UInt8) (r : List UInt8) : splitC c acc (c :: r) = acc :: splitC c [] r := by rw [splitC, if_pos rfl]
theorem splitC_on {c x : UInt8} (h : x ≠ c) (acc r : List UInt8) : splitC c acc (x :: r) = splitC c (acc ++ [x]) r := by rw [splitC, if_neg h]
theorem splitC_free {c : UInt8} : ∀ (l acc : List UInt8), c ∉ l → splitC c acc l = [acc ++ l]
  | [], acc, _ => by simp [splitC]
  | x :: l, acc, h => by
    rw [splitC_on (fun e => h (by simp [e])), splitC_free l _ (fun k => h (by simp [k]))]
    simp
theorem splitC_app {c : UInt8} : ∀ (l acc r : List UInt8), c ∉ l → splitC c acc (l ++ c :: r) = (acc ++ l) :: splitC c [] r
  | [], acc, r, _ => by rw [List.nil_append, splitC_com, List.append_nil]
  | x :: l, acc, r, h => by
    rw [List.cons_append, splitC_on (fun e => h (by simp [e])), splitC_app l _ r (fun k => h (by simp [k]))]
    simp
theorem split_tail {c : UInt8} : ∀ (ps : List (List UInt8)) (p : List UInt8), c ∉ p → (∀ q ∈ ps, c ∉ q) → splitC c [] (p ++ Lib.joinTail [c] ps) = p :: ps
  | [], p, hp, _ => by simp [Lib.joinTail, splitC_free _ _ hp]
  | q :: ps, p, hp, h => by
    have e : p ++ Lib.joinTail [c] (q :: ps) = p ++ c :: (q ++ Lib.joinTail [c] ps) := by simp [Lib.joinTail]
    rw [e, splitC_app _ _ _ hp, split_tail ps q (h q (by simp)) (fun x hx => h x (by simp [hx]))]
    simp
/-- What is joined by c is cut there. -/
theorem split_join {c : UInt8} {ps : List (List UInt8)} (h0 : ps ≠ []) (h : ∀ q ∈ ps, c ∉ q) : splitC c [] (Lib.join ps [c]) = ps := by
  cases ps with
  | nil => exact absurd rfl h0
  | cons p ps => rw [Lib.join_cons, split_tail ps p (h p (by simp)) (fun x hx => h x (by simp [hx]))]

/-- Pieces as cells. -/
def pcC (ps : List (List UInt8)) : List Value := ps.map fun p => .string ⟨p.toArray⟩
theorem pcC_len (ps : List (List UInt8)) : (pcC ps).length = ps.length := by simp [pcC]
/-- A number of at most four digits, from 1 to most; 0: none. -/
def cntL (l : List UInt8) (most : Int) : Int := if (numV l most).2 = true ∧ l.length ≤ 4 then (numV l most).1 else 0
/-- A number that may be below 0. -/
def eitL (l : List UInt8) (most : Int) : Int :=
  match l with
  | 45 :: r => -cntL r most
  | 43 :: r => cntL r most
  | _ => cntL l most
theorem numV_rg (l : List UInt8) (most : Int) : 0 ≤ (numV l most).1 ∧ ((numV l most).2 = true → (numV l most).1 ≤ most) := by
  unfold numV
  split
  · exact ⟨Int.le_refl _, fun h => by cases h⟩
  · split
    · split
      · exact ⟨Int.le_refl _, fun h => by cases h⟩
      · exact ⟨by simp only; omega, fun _ => by simp only; omega⟩
    · exact ⟨Int.le_refl _, fun h => by cases h⟩
theorem cntL_range (l : List UInt8) {most : Int} (h : 0 ≤ most) : 0 ≤ cntL l most ∧ cntL l most ≤ most := by
  have := numV_rg l most
  unfold cntL
  split
  · rename_i k; exact ⟨this.1, this.2 k.1⟩
  · exact ⟨Int.le_refl _, h⟩
theorem eitL_range (l : List UInt8) {most : Int} (h : 0 ≤ most) : -most ≤ eitL l most ∧ eitL l most ≤ most := by
  unfold eitL
  split
  · rename_i r; have := cntL_range r h; omega
  · rename_i r; have := cntL_range r h; omega
  · have := cntL_range l h; omega

def dayB : List (List UInt8) := [[77, 79], [84, 85], [87, 69], [84, 72], [70, 82], [83, 65], [83, 85]]
def freqB : List (List UInt8) := [[], [68, 65, 73, 76, 89], [87, 69, 69, 75, 76, 89], [77, 79, 78, 84, 72, 76, 89], [89, 69, 65, 82, 76, 89]]
def nameB : List (List UInt8) := [[70, 82, 69, 81], [73, 78, 84, 69, 82, 86, 65, 76], [67, 79, 85, 78, 84], [85, 78, 84, 73, 76], [66, 89, 77, 79, 78, 84, 72], [66, 89, 77, 79, 78, 84, 72, 68, 65, 89], [66, 89, 68, 65, 89], [66, 89, 83, 69, 84, 80, 79, 83], [87, 75, 83, 84]]
/-- The first place of a text in a row; below 0: none. -/
def placeN : List (List UInt8) → List UInt8 → Nat → Int
  | [], _, _ => -1
  | x :: xs, s, k => if x = s then (k : Int) else placeN xs s (k + 1)
theorem placeN_range : ∀ (l : List (List UInt8)) (s : List UInt8) (k : Nat), placeN l s k = -1 ∨ ((k : Int) ≤ placeN l s k ∧ placeN l s k < k + l.length)
  | [], _, _ => .inl rfl
  | x :: xs, s, k => by
    rw [placeN]
    split
    · right; simp only [List.length_cons]; omega
    · rcases placeN_range xs s (k + 1) with h | h
      · exact .inl h
      · right; simp only [List.length_cons] at h ⊢; omega
def dayL (l : List UInt8) : Int := placeN dayB l 0
def freqL (l : List UInt8) : Int := max 0 (placeN freqB l 0)
def nameL (l : List UInt8) : Int := placeN nameB l 0
theorem dayL_range (l : List UInt8) : -1 ≤ dayL l ∧ dayL l ≤ 6 := by
  have := placeN_range dayB l 0
  unfold dayL
  simp only [dayB, List.length_cons, List.length_nil] at this ⊢
  omega
theorem freqL_range (l : List UInt8) : 0 ≤ freqL l ∧ freqL l ≤ 4 := by
  have := placeN_range freqB l 0
  unfold freqL
  simp only [freqB, List.length_cons, List.length_nil] at this ⊢
  omega
theorem nameL_range (l : List UInt8) : -1 ≤ nameL l ∧ nameL l ≤ 8 := by
  have := placeN_range nameB l 0
  unfold nameL
  simp only [nameB, List.length_cons, List.length_nil] at this ⊢
  omega
/-- A day of the week, perhaps with a number. -/
def wdL (l : List UInt8) : Option (Int × Int) :=
  if dayL (l.drop (l.length - 2)) < 0 then none
  else if l.length ≤ 2 then some (0, dayL (l.drop (l.length - 2)))
  else if eitL (l.take (l.length - 2)) 53 = 0 then none
  else some (eitL (l.take (l.length - 2)) 53, dayL (l.drop (l.length - 2)))
/-- One value of the part k, read into a rule. -/
noncomputable def readK (k : Nat) (r : RuV) (v : List UInt8) : Option RuV :=
  match k with
  | 0 => if freqL v = 0 then none else some { r with freq := freqL v }
  | 1 => if cntL v 1000 = 0 then none else some { r with intv := cntL v 1000 }
  | 2 => if cntL v 1000 = 0 then none else some { r with cnt := cntL v 1000 }
  | 3 => if (timV v).2 = 0 then some { r with unt := (timV v).1, has := true } else none
  | 4 => if cntL v 12 = 0 then none else some { r with mon := r.mon ++ [cntL v 12] }
  | 5 => if eitL v 31 = 0 then none else some { r with md := r.md ++ [eitL v 31] }
  | 6 => match wdL v with
    | none => none
    | some d => some { r with dys := r.dys ++ [d] }
  | 7 => if eitL v 366 = 0 then none else some { r with pos := r.pos ++ [eitL v 366] }
  | _ => if dayL v < 0 then none else some { r with wk := dayL v }
/-- Values, one by one. -/
noncomputable def foldK (k : Nat) : RuV → List (List UInt8) → Option RuV
  | r, [] => some r
  | r, v :: vs => match readK k r v with
    | none => none
    | some r' => foldK k r' vs
theorem foldK_snoc (k : Nat) : ∀ (vs : List (List UInt8)) (r : RuV) (v : List UInt8), foldK k r (vs ++ [v]) = (foldK k r vs).bind fun q => readK k q v
  | [], r, v => by
    simp only [List.nil_append, foldK, Option.bind_some]
    cases readK k r v <;> rfl
  | x :: vs, r, v => by
    rw [List.cons_append, foldK, foldK]
    cases readK k r x with
    | none => rfl
    | some r' => exact foldK_snoc k vs r' v
theorem foldK_pre (k : Nat) : ∀ (a c : List (List UInt8)) (r : RuV), foldK k r a = none → foldK k r (a ++ c) = none
  | [], c, r, h => by cases h
  | x :: a, c, r, h => by
    rw [List.cons_append, foldK]
    rw [foldK] at h
    cases hx : readK k r x with
    | none => rfl
    | some r' => rw [hx] at h; exact foldK_pre k a c r' h
theorem foldK_app (k : Nat) : ∀ (a c : List (List UInt8)) (r q : RuV), foldK k r a = some q → foldK k r (a ++ c) = foldK k q c
  | [], c, r, q, h => by simp only [foldK, Option.some.injEq] at h; subst h; rfl
  | x :: a, c, r, q, h => by
    rw [List.cons_append, foldK]
    rw [foldK] at h
    cases hx : readK k r x with
    | none => rw [hx] at h; cases h
    | some r' => rw [hx] at h; exact foldK_app k a c r' q h
def isLst (k : Nat) : Bool := decide (4 ≤ k) && decide (k ≤ 7)
def valsK (k : Nat) (v : List UInt8) : List (List UInt8) := if isLst k = true then splitC 44 [] v else [v]
/-- Where the reading of a text's parts stands: the rule, the names that stood; or the error. -/
abbrev StV := Except Int (RuV × List (List UInt8))
noncomputable def stepV (r : RuV) (seen : List (List UInt8)) (p : List UInt8) : StV :=
  if (Lib.cut p [61]).2.2 = false then .error 10
  else if nameL (Lib.cut p [61]).1 < 0 then .error 21
  else if nameL (Lib.cut p [61]).1 = 0 ∧ freqL (Lib.cut p [61]).2.1 = 0 then .error 21
  else if (Lib.cut p [61]).1 ∈ seen then .error 25
  else if isLst (nameL (Lib.cut p [61]).1).toNat = true ∧ 24 < (splitC 44 [] (Lib.cut p [61]).2.1).length then .error 27
  else match foldK (nameL (Lib.cut p [61]).1).toNat r (valsK (nameL (Lib.cut p [61]).1).toNat (Lib.cut p [61]).2.1) with
    | none => .error 10
    | some q => .ok (q, seen ++ [(Lib.cut p [61]).1])
noncomputable def runV : RuV → List (List UInt8) → List (List UInt8) → StV
  | r, seen, [] => .ok (r, seen)
  | r, seen, p :: ps => match stepV r seen p with
    | .error e => .error e
    | .ok x => runV x.1 x.2 ps
theorem runV_snoc : ∀ (ps : List (List UInt8)) (r : RuV) (seen : List (List UInt8)) (p : List UInt8), runV r seen (ps ++ [p]) = match runV r seen ps with
    | .error e => .error e
    | .ok x => stepV x.1 x.2 p
  | [], r, seen, p => by
    simp only [List.nil_append, runV]
    cases stepV r seen p <;> rfl
  | q :: ps, r, seen, p => by
    rw [List.cons_append, runV, runV]
    cases stepV r seen q with
    | error e => rfl
    | ok x => exact runV_snoc ps x.1 x.2 p
theorem runV_pre : ∀ (a c : List (List UInt8)) (r : RuV) (seen : List (List UInt8)) (e : Int), runV r seen a = .error e → runV r seen (a ++ c) = .error e
  | [], c, r, seen, e, h => by cases h
  | x :: a, c, r, seen, e, h => by
    rw [List.cons_append, runV]
    rw [runV] at h
    cases hx : stepV r seen x with
    | error e2 => rw [hx] at h; exact h
    | ok q => rw [hx] at h; exact runV_pre a c q.1 q.2 e h
theorem runV_app : ∀ (a c : List (List UInt8)) (r : RuV) (seen : List (List UInt8)) (q : RuV × List (List UInt8)), runV r seen a = .ok q → runV r seen (a ++ c) = runV q.1 q.2 c
  | [], c, r, seen, q, h => by
    simp only [runV, Except.ok.injEq] at h
    subst h; rfl
  | x :: a, c, r, seen, q, h => by
    rw [List.cons_append, runV]
    rw [runV] at h
    cases hx : stepV r seen x with
    | error e2 => rw [hx] at h; cases h
    | ok q2 => rw [hx] at h; exact runV_app a c q2.1 q2.2 q h

/-- Which lists can be. -/
def OkI (l : List Int) (lo hi : Int) : Prop := l.length ≤ 24 ∧ ∀ n ∈ l, n ≠ 0 ∧ lo ≤ n ∧ n ≤ hi
def OkD (l : List (Int × Int)) : Prop := l.length ≤ 24 ∧ ∀ d ∈ l, 0 ≤ d.2 ∧ d.2 ≤ 6 ∧ -53 ≤ d.1 ∧ d.1 ≤ 53
/-- Which rules can be. -/
structure FitV (r : RuV) : Prop where
  freq : 1 ≤ r.freq ∧ r.freq ≤ 4
  intv : 1 ≤ r.intv ∧ r.intv ≤ 1000
  cnt : 0 ≤ r.cnt ∧ r.cnt ≤ 1000
  yes : r.has = true → r.cnt = 0 ∧ timT r.unt ≠ []
  no : r.has = false → r.unt = Wh.zero
  mon : OkI r.mon 1 12
  md : OkI r.md (-31) 31
  dys : OkD r.dys
  pos : OkI r.pos (-366) 366
  few : r.freq < 3 → ∀ d ∈ r.dys, d.1 = 0
  week : r.freq = 2 → r.md = []
  alone : r.pos ≠ [] → r.mon ≠ [] ∨ r.md ≠ [] ∨ r.dys ≠ []
  wk : 0 ≤ r.wk ∧ r.wk ≤ 6
open Classical in
noncomputable def fitV (r : RuV) : Bool := decide (FitV r)
open Classical in
theorem fitV_iff (r : RuV) : fitV r = true ↔ FitV r := by unfold fitV; exact decide_eq_true_iff
open Classical in
theorem fitV_not (r : RuV) : fitV r = false ↔ ¬ FitV r := by unfold fitV; exact decide_eq_false_iff_not
/-- What is read at the end. -/
noncomputable def endV : StV → RuV × Int
  | .error e => (RuV.zero, e)
  | .ok x => if x.1.freq = 0 then (RuV.zero, 26) else if fitV x.1 = true then (x.1, 0) else (RuV.zero, 14)
noncomputable def parV (s : List UInt8) : RuV × Int := endV (runV RuV.init [] (splitC 59 [] (upL s)))

/-- A number as it is written. -/
def numT (n : Int) : List UInt8 := (if n < 0 then [45] else []) ++ Lib.decDigits n.natAbs
def dayT7 (n : Int) : List UInt8 := dayB.getD n.toNat []
def wdyT (d : Int × Int) : List UInt8 := (if d.1 = 0 then [] else numT d.1) ++ dayT7 d.2
noncomputable def valT (r : RuV) (k : Nat) : List UInt8 :=
  match k with
  | 0 => freqB.getD r.freq.toNat []
  | 1 => numT r.intv
  | 2 => numT r.cnt
  | 3 => timT r.unt
  | 4 => Lib.join (r.mon.map numT) [44]
  | 5 => Lib.join (r.md.map numT) [44]
  | 6 => Lib.join (r.dys.map wdyT) [44]
  | 7 => Lib.join (r.pos.map numT) [44]
  | _ => dayT7 r.wk
def hasK (r : RuV) (k : Nat) : Bool :=
  match k with
  | 0 => true
  | 1 => decide (r.intv ≠ 1)
  | 2 => decide (r.cnt ≠ 0)
  | 3 => r.has
  | 4 => decide (r.mon ≠ [])
  | 5 => decide (r.md ≠ [])
  | 6 => decide (r.dys ≠ [])
  | 7 => decide (r.pos ≠ [])
  | _ => decide (r.wk ≠ 0)
noncomputable def partK (r : RuV) (k : Nat) : List UInt8 := nameB.getD k [] ++ 61 :: valT r k
def keysV (r : RuV) : List Nat := (List.range 9).filter (hasK r)
noncomputable def partsV (r : RuV) : List (List UInt8) := (keysV r).map (partK r)
/-- A rule as it is written. -/
noncomputable def prnV (r : RuV) : List UInt8 := if fitV r = true then Lib.join (partsV r) [59] else []
end Go.Proofs.YtnidkcedomhofaaGreatDoor
