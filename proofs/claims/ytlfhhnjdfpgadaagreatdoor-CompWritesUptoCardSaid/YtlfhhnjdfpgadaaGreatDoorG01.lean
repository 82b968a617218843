/-
  A device and what is done to it, as plain lists: what the program's and the document's functions compute, and what follows from it.
-/
import Derived.Below
import Derived.Laws.OwnMore
import Derived.Deep.AppendLies
import Derived.Deep.Draws
import Derived.Maps.AppendAt
import Derived.OwnWalk
import Derived.WalkKit
import Derived.Lib.Hide
import Derived.Test.YtlfhhnjdfpgadaaGreatDoorProg
import Derived.WalkSpells
import Derived.WalkLawsBesides
import Derived.Deep.LoopGhost
import Derived.Deep.QuietTactic
import Derived.BigQuiet
import Derived.Laws.StructEq
namespace Go.Proofs.YtlfhhnjdfpgadaaGreatDoor

/-- A device: its blocks, its cache, how many more, whether it refused. -/
structure D where
  bs : List ByteArray
  cs : List (Int × ByteArray)
  left : Int
  dead : Bool
  deriving DecidableEq

def zeroB : ByteArray := ⟨Array.replicate 128 0⟩
theorem zeroB_size : zeroB.size = 128 := by decide +kernel
def noD : D := ⟨[], [], 0, false⟩
def newD (n : Int) : D := if n < 1 ∨ 1024 < n then noD else ⟨List.replicate n.toNat zeroB, [], -1, false⟩

def HeadP (d : D) : Prop := 1 ≤ d.bs.length ∧ d.bs.length ≤ 1024 ∧ d.cs.length ≤ 4096 ∧ -1 ≤ d.left ∧ (d.dead = true → d.left = 0)
def BsP (d : D) : Prop := ∀ b ∈ d.bs, b.size = 128
def CsP (d : D) : Prop := ∀ p ∈ d.cs, 0 ≤ p.1 ∧ p.1 < d.bs.length ∧ p.2.size = 128
def FitP (d : D) : Prop := HeadP d ∧ BsP d ∧ CsP d
instance (d : D) : Decidable (FitP d) := by unfold FitP HeadP BsP CsP; exact inferInstance
def fitD (d : D) : Bool := decide (FitP d)
theorem fitD_true {d : D} (h : FitP d) : fitD d = true := by unfold fitD; exact decide_eq_true h
theorem fitD_false {d : D} (h : ¬ FitP d) : fitD d = false := by unfold fitD; exact decide_eq_false h
theorem fitD_iff {d : D} : fitD d = true ↔ FitP d := by unfold fitD; exact decide_eq_true_iff

/-- A place that is a block. -/
def at_ (bs : List ByteArray) (i : Int) : Prop := 0 ≤ i ∧ i < bs.length
instance (bs : List ByteArray) (i : Int) : Decidable (at_ bs i) := by unfold at_; exact inferInstance
/-- One write done to the blocks. -/
def put (bs : List ByteArray) (i : Int) (s : ByteArray) : List ByteArray := if at_ bs i then bs.set i.toNat s else bs
theorem put_length (bs : List ByteArray) (i : Int) (s : ByteArray) : (put bs i s).length = bs.length := by unfold put; split <;> simp
theorem put_yes {bs : List ByteArray} {i : Int} (h : at_ bs i) (s : ByteArray) : put bs i s = bs.set i.toNat s := by unfold put; rw [if_pos h]
theorem put_no {bs : List ByteArray} {i : Int} (h : ¬ at_ bs i) (s : ByteArray) : put bs i s = bs := by unfold put; rw [if_neg h]
/-- The writes that are kept, done in order. -/
def settleL : List ByteArray → List (Int × ByteArray) → List Bool → List ByteArray
  | bs, p :: cs, k :: ks => settleL (if k = true then put bs p.1 p.2 else bs) cs ks
  | bs, _, _ => bs
theorem settleL_nil (bs : List ByteArray) (ks : List Bool) : settleL bs [] ks = bs := by cases ks <;> rfl
theorem settleL_none (bs : List ByteArray) (cs : List (Int × ByteArray)) : settleL bs cs [] = bs := by cases cs <;> rfl
theorem settleL_length : ∀ (cs : List (Int × ByteArray)) (bs : List ByteArray) (ks : List Bool), (settleL bs cs ks).length = bs.length
  | [], bs, ks => by rw [settleL_nil]
  | p :: cs, bs, [] => rfl
  | p :: cs, bs, k :: ks => by
    show (settleL (if k = true then put bs p.1 p.2 else bs) cs ks).length = _
    rw [settleL_length cs]
    split
    · exact put_length _ _ _
    · rfl
theorem settleL_step : ∀ (cs : List (Int × ByteArray)) (ks : List Bool) (bs : List ByteArray) (k : Nat) (p : Int × ByteArray) (b : Bool), cs[k]? = some p → ks[k]? = some b →
    settleL bs (cs.take (k + 1)) (ks.take (k + 1)) = if b = true then put (settleL bs (cs.take k) (ks.take k)) p.1 p.2 else settleL bs (cs.take k) (ks.take k)
  | c :: cs, x :: ks, bs, 0, p, b, h1, h2 => by
    simp only [List.getElem?_cons_zero, Option.some.injEq] at h1 h2
    subst h1; subst h2
    show settleL (if x = true then put bs c.1 c.2 else bs) (cs.take 0) (ks.take 0) = if x = true then put (settleL bs [] []) c.1 c.2 else settleL bs [] []
    rw [List.take_zero, List.take_zero, settleL_nil, settleL_nil]
  | c :: cs, x :: ks, bs, k + 1, p, b, h1, h2 => by
    simp only [List.getElem?_cons_succ] at h1 h2
    exact settleL_step cs ks (if x = true then put bs c.1 c.2 else bs) k p b h1 h2
theorem settleL_cut : ∀ (cs : List (Int × ByteArray)) (ks : List Bool) (bs : List ByteArray) (n : Nat), min cs.length ks.length ≤ n → settleL bs (cs.take n) (ks.take n) = settleL bs cs ks
  | [], ks, bs, n, _ => by rw [List.take_nil, settleL_nil, settleL_nil]
  | c :: cs, [], bs, n, _ => by rw [List.take_nil, settleL_none, settleL_none]
  | c :: cs, x :: ks, bs, 0, h => by simp at h
  | c :: cs, x :: ks, bs, n + 1, h => by
    simp only [List.length_cons] at h
    exact settleL_cut cs ks (if x = true then put bs c.1 c.2 else bs) n (by omega)
/-- Each block behind it is what it was, or one of the writes to it. -/
theorem settleL_from : ∀ (cs : List (Int × ByteArray)) (ks : List Bool) (bs : List ByteArray) (i : Nat) (s : ByteArray), (settleL bs cs ks)[i]? = some s → bs[i]? = some s ∨ ∃ p ∈ cs, p.1 = (i : Int) ∧ p.2 = s
  | [], ks, bs, i, s, h => by rw [settleL_nil] at h; exact .inl h
  | c :: cs, [], bs, i, s, h => .inl h
  | c :: cs, x :: ks, bs, i, s, h => by
    rcases settleL_from cs ks (if x = true then put bs c.1 c.2 else bs) i s h with h | ⟨p, hp, h1⟩
    · by_cases hx : x = true
      · rw [if_pos hx] at h
        by_cases ha : at_ bs c.1
        · rw [put_yes ha, List.getElem?_set] at h
          split at h
          · next he =>
            split at h
            · right
              exact ⟨c, List.mem_cons_self, by have := ha.1; omega, by simpa using h⟩
            · cases h
          · exact .inl h
        · rw [put_no ha] at h; exact .inl h
      · rw [if_neg hx] at h; exact .inl h
    · exact .inr ⟨p, List.mem_cons_of_mem _ hp, h1⟩

/-- The last write to a place, or else what is there. -/
def lastTo (cs : List (Int × ByteArray)) (i : Int) (s : ByteArray) : ByteArray := cs.foldl (fun a p => if p.1 = i then p.2 else a) s
theorem lastTo_snoc (cs : List (Int × ByteArray)) (p : Int × ByteArray) (i : Int) (s : ByteArray) : lastTo (cs ++ [p]) i s = if p.1 = i then p.2 else lastTo cs i s := by simp [lastTo]
theorem lastTo_none : ∀ (cs : List (Int × ByteArray)) (i : Int) (s : ByteArray), (∀ p ∈ cs, p.1 ≠ i) → lastTo cs i s = s
  | [], _, _, _ => rfl
  | c :: cs, i, s, h => by
    show lastTo cs i (if c.1 = i then c.2 else s) = s
    rw [if_neg (h c List.mem_cons_self)]
    exact lastTo_none cs i s fun p hp => h p (List.mem_cons_of_mem _ hp)
theorem lastTo_app (a b : List (Int × ByteArray)) (i : Int) (s : ByteArray) : lastTo (a ++ b) i s = lastTo b i (lastTo a i s) := by simp [lastTo]

def readD (d : D) (i : Int) : ByteArray × Int :=
  if d.dead = true then (⟨#[]⟩, 17) else if at_ d.bs i then (lastTo d.cs i (d.bs.getD i.toNat ⟨#[]⟩), 0) else (⟨#[]⟩, 15)
def spendD (d : D) : D × Int := if d.left = 0 then ({ d with dead := true }, 16) else if 0 < d.left then ({ d with left := d.left - 1 }, 0) else (d, 0)
def writeD (d : D) (i : Int) (s : ByteArray) : D × Int :=
  if d.dead = true then (d, 17) else if ¬ (at_ d.bs i ∧ s.size = 128) then (d, 15) else if 4096 ≤ d.cs.length then (d, 18)
  else if d.left = 0 then ({ d with dead := true }, 16) else ({ d with cs := d.cs ++ [(i, s)], left := if 0 < d.left then d.left - 1 else d.left }, 0)
/-- All the cache's writes done. -/
def allL (bs : List ByteArray) (cs : List (Int × ByteArray)) : List ByteArray := settleL bs cs (List.replicate cs.length true)
def flushD (d : D) : D × Int :=
  if d.dead = true then (d, 17) else if d.left = 0 then ({ d with dead := true }, 16)
  else ({ d with bs := allL d.bs d.cs, cs := [], left := if 0 < d.left then d.left - 1 else d.left }, 0)
def crashD (d : D) (ks : List Bool) : D := ⟨settleL d.bs d.cs ks, [], -1, false⟩
def armD (d : D) (n : Int) : D := if d.dead = true then d else { d with left := max n (-1) }

theorem settleL_sizes : ∀ (cs : List (Int × ByteArray)) (ks : List Bool) (bs : List ByteArray), (∀ b ∈ bs, b.size = 128) → (∀ p ∈ cs, p.2.size = 128) → ∀ b ∈ settleL bs cs ks, b.size = 128 := by
  intro cs ks bs hb hc b hm
  obtain ⟨i, hi, e⟩ := List.mem_iff_getElem.1 hm
  rcases settleL_from cs ks bs i b (by rw [List.getElem?_eq_getElem hi, e]) with h | ⟨p, hp, _, rfl⟩
  · exact hb b (List.mem_of_getElem? h)
  · exact hc p hp
theorem fit_crash {d : D} (h : FitP d) (ks : List Bool) : FitP (crashD d ks) := by
  obtain ⟨⟨h1, h2, h3, h4, h5⟩, hb, hc⟩ := h
  refine ⟨⟨?_, ?_, by simp [crashD], by simp [crashD], by simp [crashD]⟩, settleL_sizes _ _ _ hb (fun p hp => (hc p hp).2.2), by simp [crashD, CsP]⟩
  · show 1 ≤ (settleL _ _ _).length
    rw [settleL_length]; exact h1
  · show (settleL _ _ _).length ≤ 1024
    rw [settleL_length]; exact h2

theorem getD_put (bs : List ByteArray) (i : Int) (s : ByteArray) (j : Nat) (hj : j < bs.length) : (put bs i s).getD j ⟨#[]⟩ = if i = (j : Int) then s else bs.getD j ⟨#[]⟩ := by
  unfold put
  by_cases h : at_ bs i
  · rw [if_pos h]
    obtain ⟨h0, h1⟩ := h
    simp only [List.getD_eq_getElem?_getD, List.getElem?_set]
    by_cases e : i = (j : Int)
    · rw [if_pos e, if_pos (by omega), if_pos (by omega)]; rfl
    · rw [if_neg e, if_neg (by omega)]
  · rw [if_neg h, if_neg (fun e => h ⟨by omega, by omega⟩)]
/-- Behind a flush the blocks are what was read. -/
theorem all_last : ∀ (cs : List (Int × ByteArray)) (bs : List ByteArray) (j : Nat), j < bs.length → (allL bs cs).getD j ⟨#[]⟩ = lastTo cs (j : Int) (bs.getD j ⟨#[]⟩)
  | [], bs, j, h => by rw [allL, settleL_nil]; rfl
  | c :: cs, bs, j, h => by
    show (settleL (put bs c.1 c.2) cs (List.replicate cs.length true)).getD j ⟨#[]⟩ = lastTo cs (j : Int) (if c.1 = (j : Int) then c.2 else bs.getD j ⟨#[]⟩)
    rw [← getD_put bs c.1 c.2 j h]
    exact all_last cs (put bs c.1 c.2) j (by rw [put_length]; exact h)
theorem allL_length (bs : List ByteArray) (cs : List (Int × ByteArray)) : (allL bs cs).length = bs.length := settleL_length _ _ _

end Go.Proofs.YtlfhhnjdfpgadaaGreatDoor

/-
  Words for the memory of a device: slices of texts and of writes that read as plain lists, rows of the call's own, and append onto them.
-/
namespace Go.Proofs.YtlfhhnjdfpgadaaGreatDoor
open Go.RowKit

theorem bstep {w w1 w2 : World} (h : Below w.heap.size w w1) (h2 : Below w1.heap.size w1 w2) : Below w.heap.size w w2 := h.trans (h2.mono h.size)
theorem bstepB {B : Nat} {w w1 w2 : World} (h : Below B w w1) (hB : B ≤ w1.heap.size) (h2 : Below w1.heap.size w1 w2) : Below B w w2 := h.trans (h2.mono hB)
theorem bcell {W w1 : World} (hb : Below W.heap.size W w1) : (∀ b o, b < W.heap.size → w1.cell? ⟨b, o, none⟩ = W.cell? ⟨b, o, none⟩) ∧ (∀ b o, b < W.heap.size → w1.frozen? ⟨b, o, none⟩ = W.frozen? ⟨b, o, none⟩) :=
  ⟨fun b o h => hb.cell (p := ⟨b, o, none⟩) h, fun b o h => hb.frozen (p := ⟨b, o, none⟩) h⟩

/-- The slice with address A and length n holds the cells xs (size cells an element), below block B; at length 0 nothing is said of A. -/
def Reads (w : World) (B size : Nat) (A : Option Addr) (n : Nat) (xs : List Value) : Prop :=
  xs.length = n * size ∧ (0 < n → ∃ b o, A = some ⟨b, o, none⟩ ∧ b < B ∧ ∀ j u, xs[j]? = some u → w.cell? ⟨b, o + j, none⟩ = some u)

section
variable {w w' : World} {B B' size n : Nat} {A : Option Addr} {xs : List Value}
theorem Reads.keep (h : Reads w B size A n xs) (hk : ∀ b o, b < B → w'.cell? ⟨b, o, none⟩ = w.cell? ⟨b, o, none⟩) : Reads w' B size A n xs :=
  ⟨h.1, fun hn => by
    obtain ⟨b, o, e, hb, hc⟩ := h.2 hn
    exact ⟨b, o, e, hb, fun j u hu => (hk _ _ hb).trans (hc j u hu)⟩⟩
theorem Reads.more (h : Reads w B size A n xs) (hB : B ≤ B') : Reads w B' size A n xs :=
  ⟨h.1, fun hn => by
    obtain ⟨b, o, e, hb, hc⟩ := h.2 hn
    exact ⟨b, o, e, by omega, hc⟩⟩
theorem Reads.below (h : Reads w B size A n xs) (hb : Below B w w') : Reads w' B size A n xs := h.keep fun b o hp => hb.cell (p := ⟨b, o, none⟩) hp
theorem Reads.step (h : Reads w w.heap.size size A n xs) (hb : Below w.heap.size w w') : Reads w' w'.heap.size size A n xs := (h.below hb).more hb.size
theorem Reads.drewN (h : Reads w B size A n xs) (k : Nat) : Reads (w.drewN k) B size A n xs := h
theorem Reads.alloc (h : Reads w w.heap.size size A n xs) (o : Obj) : Reads (w.alloc o) (w.alloc o).heap.size size A n xs := h.step ((Below.refl _ _).alloc (Nat.le_refl _) o)
theorem Reads.nil : Reads w B size A 0 [] := ⟨by simp, fun h => absurd h (by omega)⟩

theorem own_slice {base : Nat} {e : TypeId} {v : Value} (h : w.ownsRow base e size v n xs) : ∃ A c, v = .slice A n c ∧ n ≤ c ∧ c ≤ maxLen := by
  rcases h.2 with ⟨rfl, rfl⟩ | ⟨g, cap, cur, rfl, _, _, h1, h2, _⟩
  · exact ⟨none, 0, rfl, Nat.le_refl _, by simp only [maxLen]; omega⟩
  · exact ⟨_, _, rfl, h1, h2⟩
theorem own_len {base : Nat} {e : TypeId} {v : Value} (h : w.ownsRow base e size v n xs) : n ≤ maxLen := by
  obtain ⟨_, _, _, h1, h2⟩ := own_slice h
  omega
theorem own_cells {base : Nat} {e : TypeId} {c : Nat} (h : w.ownsRow base e size (.slice A n c) n xs) (hn : 0 < n) : ∃ g, A = some ⟨g, 0, none⟩ ∧ base ≤ g ∧ g < w.heap.size ∧ (∃ cur, w.heap[g]? = some (.cells cur e (0, 0))) ∧ ∀ j u, xs[j]? = some u → w.cell? ⟨g, j, none⟩ = some u := by
  obtain ⟨g, cap, hv, hb, hlt⟩ := h.form hn
  injection hv with h1 h2 h3
  subst h1; subst h3
  refine ⟨g, rfl, hb, hlt, ?_, fun j u hu => ?_⟩
  · rcases h.2 with ⟨h', _⟩ | ⟨g', cap', cur, h', _, hg, _⟩
    · simp at h'
    · simp only [Value.slice.injEq, Option.some.injEq, Addr.mk.injEq, and_true, true_and] at h'
      obtain ⟨rfl, rfl⟩ := h'
      exact ⟨cur, hg⟩
  · rw [h.cellAt j (by rw [← h.1]; exact (List.getElem?_eq_some_iff.1 hu).1)]; exact hu
theorem Reads.of_own {base : Nat} {e : TypeId} {c : Nat} (h : w.ownsRow base e size (.slice A n c) n xs) : Reads w w.heap.size size A n xs :=
  ⟨h.1, fun hn => by
    obtain ⟨g, rfl, _, hlt, _, hc⟩ := own_cells h hn
    exact ⟨g, 0, rfl, hlt, fun j u hu => by rw [Nat.zero_add]; exact hc j u hu⟩⟩
/-- Two rows of different element types lie in different blocks. -/
theorem own_apart {base base' : Nat} {e e' : TypeId} {n' size' : Nat} {v v' : Value} {xs' : List Value} (h : w.ownsRow base e size v n xs) (h' : w.ownsRow base' e' size' v' n' xs') (hne : e ≠ e') : ∀ g, v.ownBlock = some g → v'.ownBlock ≠ some g := by
  intro g h1 h2
  rcases h.2 with ⟨rfl, _⟩ | ⟨g1, c1, cur1, rfl, _, hg1, _⟩
  · cases h1
  · rcases h'.2 with ⟨rfl, _⟩ | ⟨g2, c2, cur2, rfl, _, hg2, _⟩
    · cases h2
    · simp only [Value.ownBlock, Option.some.injEq] at h1 h2
      subst h1; subst h2
      rw [hg1] at hg2
      injection hg2 with hg2
      injection hg2 with _ ht
      exact hne ht
/-- A row of the call's own, over what leaves it alone. -/
theorem own_below {base : Nat} {e : TypeId} {v : Value} (h : w.ownsRow base e size v n xs) (hb : Below w.heap.size w w') : w'.ownsRow base e size v n xs := by
  refine ⟨h.1, ?_⟩
  rcases h.2 with h2 | ⟨g, cap, cur, hv, hg, hh, r⟩
  · exact .inl h2
  · refine .inr ⟨g, cap, cur, hv, hg, ?_, r⟩
    rw [hb.block g ?_]; exact hh
    rcases Nat.lt_or_ge g w.heap.size with hlt | hge
    · exact hlt
    · rw [Array.getElem?_eq_none hge] at hh; cases hh
theorem own_base {base base' : Nat} {e : TypeId} {v : Value} (h : w.ownsRow base e size v n xs) (hb : base' ≤ base) : w.ownsRow base' e size v n xs := by
  refine ⟨h.1, ?_⟩
  rcases h.2 with h2 | ⟨g, cap, cur, hv, hg, r⟩
  · exact .inl h2
  · exact .inr ⟨g, cap, cur, hv, by omega, r⟩
theorem own_grown {base : Nat} {e : TypeId} {v : Value} {row : Option Nat} (h : w.ownsRow base e size v n xs) (hg : w.grownBy w' row) (hr : ∀ g, v.ownBlock = some g → row ≠ some g) : w'.ownsRow base e size v n xs := by
  refine ⟨h.1, ?_⟩
  rcases h.2 with h2 | ⟨g, cap, cur, rfl, hb, hh, r⟩
  · exact .inl h2
  · refine .inr ⟨g, cap, cur, rfl, hb, ?_, r⟩
    rw [hg.block g ?_ (fun e => hr g rfl e.symm)]; exact hh
    rcases Nat.lt_or_ge g w.heap.size with hlt | hge
    · exact hlt
    · rw [Array.getElem?_eq_none hge] at hh; cases hh
theorem own_alloc {base : Nat} {e : TypeId} {v : Value} (h : w.ownsRow base e size v n xs) (o : Obj) : (w.alloc o).ownsRow base e size v n xs := own_below h ((Below.refl _ _).alloc (Nat.le_refl _) o)
theorem own_nil {base : Nat} {e : TypeId} : w.ownsRow base e size (.slice none 0 0) 0 [] := ⟨by simp, .inl ⟨rfl, rfl⟩⟩
end

/-- append onto a row of the call's own, the source nil, empty or not. -/
theorem run_append_reads {P : Program} (w : World) (base : Nat) (t ty e : TypeId) (i : TypeInfo) (z : Value) (size bytes : Nat) (ht : P.underlying t = some (.slice e)) (hi : P.info? e = some i) (hz : i.zero = some z)
    (hsize : i.size = size) (hby : i.bytes = bytes) (hzs : z.cells.size = size) (hsz : 0 < size) (v : Value) (n : Nat) (xs : List Value) (hown : w.ownsRow base e size v n xs)
    (B : Nat) (A : Option Addr) (m c : Nat) (news : List Value) (hr : Reads w B size A m news) (h1 : ∀ u ∈ news, u.oneCell' = true) (h63 : n + m ≤ maxLen) (hbytes : (n + m) * bytes ≤ 140737488355328) (hbase : base ≤ w.heap.size) :
    ∃ A2 c2 w', (Builtin.append_ #[t, t] ty #[v, .slice A m c]).run P w = .ok (.slice A2 (n + m) c2) w' ∧ w'.ownsRow base e size (.slice A2 (n + m) c2) (n + m) (xs ++ news) ∧ w.grownBy w' v.ownBlock ∧ ((Value.slice A2 (n + m) c2).ownBlock = v.ownBlock ∨ (Value.slice A2 (n + m) c2).ownBlock = some w.heap.size) := by
  rcases Nat.eq_zero_or_pos m with h0 | h0
  · subst h0
    have hn : news = [] := List.eq_nil_of_length_eq_zero (by simpa using hr.1)
    subst hn
    rcases A with _ | ad
    · obtain ⟨A2, c2, rfl, _⟩ := own_slice hown
      refine ⟨A2, c2, w, ?_, by simpa using hown, World.grownBy.refl w _, .inl rfl⟩
      rcases hown.2 with ⟨hv, rfl⟩ | ⟨g, cap, cur, hv, _, _, hnc, _⟩
      · simp only [Value.slice.injEq] at hv
        obtain ⟨rfl, _, rfl⟩ := hv
        simp [Builtin.append_, run_underlying ht, sizeOf, typeInfo, hi, Builtin.lenOf, Builtin.firstCells]
      · simp only [Value.slice.injEq, true_and] at hv
        obtain ⟨rfl, rfl⟩ := hv
        simp [Builtin.append_, run_underlying ht, sizeOf, typeInfo, hi, Builtin.lenOf, Builtin.firstCells, hnc, storeCells]
    · obtain ⟨v', w', hrun, h2, h3, _, h5⟩ := run_append_own_at (P := P) w base t ty e i z size bytes ht hi hz hsize hby hzs hsz v n xs hown ad 0 c [] (by simp) (by simp) (by simp) h63 hbytes hbase
      obtain ⟨A2, c2, rfl, _⟩ := own_slice h2
      exact ⟨A2, c2, w', hrun, h2, h3, h5⟩
  · obtain ⟨b, o, rfl, _, hc⟩ := hr.2 h0
    obtain ⟨v', w', hrun, h2, h3, _, h5⟩ := run_append_own_at (P := P) w base t ty e i z size bytes ht hi hz hsize hby hzs hsz v n xs hown ⟨b, o, none⟩ m c news hr.1 (fun j u hu => by rw [Go.WideShapes.add_plain]; exact hc j u hu) h1 h63 hbytes hbase
    obtain ⟨A2, c2, rfl, _⟩ := own_slice h2
    exact ⟨A2, c2, w', hrun, h2, h3, h5⟩

theorem wpList_append_reads {P : Program} (w : World) {ops : Array Oper} {rest : List Oper} {o : Oper} {a : Act} {Q : Exit → Act → World → Prop} (hgd : o.guard = none) (s x : Operand) (t : TypeId)
    (ho : o.op = .call { callee := .builtin .append, args := #[s, x], argTypes := #[t, t] })
    (base : Nat) (e : TypeId) (i : TypeInfo) (z : Value) (size bytes : Nat) (ht : P.underlying t = some (.slice e)) (hi : P.info? e = some i) (hz : i.zero = some z)
    (hsize : i.size = size) (hby : i.bytes = bytes) (hzs : z.cells.size = size) (hsz : 0 < size) (v : Value) (n : Nat) (xs : List Value) (hs : a.eval s = v) (hown : w.ownsRow base e size v n xs)
    (B : Nat) (A : Option Addr) (m c : Nat) (news : List Value) (hx : a.eval x = .slice A m c) (hr : Reads w B size A m news) (h1 : ∀ u ∈ news, u.oneCell' = true) (h63 : n + m ≤ maxLen) (hbytes : (n + m) * bytes ≤ 140737488355328) (hbase : base ≤ w.heap.size)
    (h : ∀ A2 c2 w', w'.ownsRow base e size (.slice A2 (n + m) c2) (n + m) (xs ++ news) → w.grownBy w' v.ownBlock → ((Value.slice A2 (n + m) c2).ownBlock = v.ownBlock ∨ (Value.slice A2 (n + m) c2).ownBlock = some w.heap.size) → wpList P ops Q rest (a.put o.dst (.slice A2 (n + m) c2)) w') : wpList P ops Q (o :: rest) a w := by
  refine wpList_plain hgd fun K hK => ?_
  obtain ⟨A2, c2, w', hrun, h2, h3, h4⟩ := run_append_reads (P := P) w base t o.type e i z size bytes ht hi hz hsize hby hzs hsz v n xs hown B A m c news hr h1 h63 hbytes hbase
  unfold Oper.wp execOp
  simp only [ho, resolve, invoke, builtin, Sem.run_bind, Sem.run_pure, Result.andThen_ok, List.map_toArray, List.map_cons, List.map_nil, hs, hx, hrun]
  exact hK _ _ (h A2 c2 w' h2 h3 h4)

/-- The same as one step of a region that draws its order. -/
theorem step_append_reads {P : Program} (w : World) {ops : Array Oper} {o : Oper} {a : Act} {K : Act → World → Prop} {Q : Exit → Act → World → Prop} {E : Prop} (hgd : o.guard = none) (s x : Operand) (t : TypeId)
    (ho : o.op = .call { callee := .builtin .append, args := #[s, x], argTypes := #[t, t] })
    (base : Nat) (e : TypeId) (i : TypeInfo) (z : Value) (size bytes : Nat) (ht : P.underlying t = some (.slice e)) (hi : P.info? e = some i) (hz : i.zero = some z)
    (hsize : i.size = size) (hby : i.bytes = bytes) (hzs : z.cells.size = size) (hsz : 0 < size) (v : Value) (n : Nat) (xs : List Value) (hs : a.eval s = v) (hown : w.ownsRow base e size v n xs)
    (B : Nat) (A : Option Addr) (m c : Nat) (news : List Value) (hx : a.eval x = .slice A m c) (hr : Reads w B size A m news) (h1 : ∀ u ∈ news, u.oneCell' = true) (h63 : n + m ≤ maxLen) (hbytes : (n + m) * bytes ≤ 140737488355328) (hbase : base ≤ w.heap.size)
    (h : ∀ A2 c2 w', w'.ownsRow base e size (.slice A2 (n + m) c2) (n + m) (xs ++ news) → w.grownBy w' v.ownBlock → ((Value.slice A2 (n + m) c2).ownBlock = v.ownBlock ∨ (Value.slice A2 (n + m) c2).ownBlock = some w.heap.size) → K (a.put o.dst (.slice A2 (n + m) c2)) w') :
    if Region.wanted o (yielded ops a.tmps) = true then Oper.wp P o a w K Q else E := by
  have hw : Region.wanted o (yielded ops a.tmps) = true := by simp [Region.wanted, hgd]
  rw [if_pos hw]
  obtain ⟨A2, c2, w', hrun, h2, h3, h4⟩ := run_append_reads (P := P) w base t o.type e i z size bytes ht hi hz hsize hby hzs hsz v n xs hown B A m c news hr h1 h63 hbytes hbase
  unfold Oper.wp execOp
  simp only [ho, resolve, invoke, builtin, Sem.run_bind, Sem.run_pure, Result.andThen_ok, List.map_toArray, List.map_cons, List.map_nil, hs, hx, hrun]
  exact h A2 c2 w' h2 h3 h4
/-- A slice over a block just made. -/
theorem reads_new (w : World) (vs : Array Value) (e : TypeId) (n size : Nat) (h : vs.size = n * size) : Reads (w.alloc (.cells vs e)) (w.alloc (.cells vs e)).heap.size size (some ⟨w.heap.size, 0, none⟩) n vs.toList :=
  ⟨by simpa using h, fun _ => ⟨w.heap.size, 0, rfl, by simp, fun j u hj => by
    rw [Nat.zero_add, cell_of_row _ w.heap.size j vs e (0, 0) (heap_alloc_new w _)]
    simpa using hj⟩⟩
theorem own_row_ge {w : World} {base n size : Nat} {e : TypeId} {v : Value} {xs : List Value} (h : w.ownsRow base e size v n xs) : ∀ g, v.ownBlock = some g → base ≤ g := by
  intro g hg
  rcases h.2 with ⟨rfl, _⟩ | ⟨g', cap, cur, rfl, hb, _⟩
  · cases hg
  · have : g' = g := by simpa [Value.ownBlock] using hg
    omega

/-- The cells of a list of texts, of writes, of truth values. -/
def encS (bs : List ByteArray) : List Value := bs.map Value.string
def encW : List (Int × ByteArray) → List Value
  | [] => []
  | p :: cs => .int .i64 p.1 :: .string p.2 :: encW cs
def encB (ks : List Bool) : List Value := ks.map Value.bool
def blk (bs : List ByteArray) (k : Nat) : ByteArray := bs.getD k ⟨#[]⟩
def wAt (cs : List (Int × ByteArray)) (k : Nat) : Int := (cs.getD k (0, ⟨#[]⟩)).1
def wDat (cs : List (Int × ByteArray)) (k : Nat) : ByteArray := (cs.getD k (0, ⟨#[]⟩)).2
def bAt (ks : List Bool) (k : Nat) : Bool := ks.getD k false
theorem encS_length (bs : List ByteArray) : (encS bs).length = bs.length := by simp [encS]
theorem encB_length (ks : List Bool) : (encB ks).length = ks.length := by simp [encB]
theorem encW_length : ∀ cs : List (Int × ByteArray), (encW cs).length = cs.length * 2
  | [] => rfl
  | p :: cs => by simp only [encW, List.length_cons, encW_length cs]; omega
theorem encW_app : ∀ a b : List (Int × ByteArray), encW (a ++ b) = encW a ++ encW b
  | [], b => rfl
  | p :: a, b => by simp only [List.cons_append, encW, encW_app a b]
theorem encS_get {bs : List ByteArray} {k : Nat} (hk : k < bs.length) : (encS bs)[k]? = some (.string (blk bs k)) := by
  simp [encS, blk, hk]
theorem encB_get {ks : List Bool} {k : Nat} (hk : k < ks.length) : (encB ks)[k]? = some (.bool (bAt ks k)) := by
  simp [encB, bAt, hk]
theorem encW_get : ∀ {cs : List (Int × ByteArray)} {k : Nat}, k < cs.length → (encW cs)[k * 2]? = some (.int .i64 (wAt cs k)) ∧ (encW cs)[k * 2 + 1]? = some (.string (wDat cs k))
  | p :: cs, 0, _ => ⟨rfl, rfl⟩
  | p :: cs, k + 1, h => by
    have := encW_get (cs := cs) (k := k) (by simpa using h)
    rw [show (k + 1) * 2 = k * 2 + 1 + 1 by omega]
    exact this
theorem wr_get {cs : List (Int × ByteArray)} {k : Nat} (hk : k < cs.length) : cs[k]? = some (wAt cs k, wDat cs k) := by
  simp [wAt, wDat, hk]
theorem b_get {ks : List Bool} {k : Nat} (hk : k < ks.length) : ks[k]? = some (bAt ks k) := by simp [bAt, hk]
theorem blk_get {bs : List ByteArray} {k : Nat} (hk : k < bs.length) : bs[k]? = some (blk bs k) := by simp [blk, hk]
theorem encS_one (bs : List ByteArray) : ∀ u ∈ encS bs, u.oneCell' = true := by
  intro u hu
  obtain ⟨s, _, rfl⟩ := List.mem_map.1 hu
  rfl
theorem encB_one (ks : List Bool) : ∀ u ∈ encB ks, u.oneCell' = true := by
  intro u hu
  obtain ⟨s, _, rfl⟩ := List.mem_map.1 hu
  rfl
theorem encW_one : ∀ cs : List (Int × ByteArray), ∀ u ∈ encW cs, u.oneCell' = true
  | p :: cs, u, hu => by
    simp only [encW, List.mem_cons] at hu
    rcases hu with rfl | rfl | hu
    · rfl
    · rfl
    · exact encW_one cs u hu
theorem encS_inj {a b : List ByteArray} (h : encS a = encS b) : a = b := by
  unfold encS at h
  exact (List.map_inj_right (fun x y e => by injection e)).1 h

section
variable {w : World} {B n : Nat} {A : Option Addr}
theorem Reads.lenS {bs : List ByteArray} (h : Reads w B 1 A n (encS bs)) : bs.length = n := by have := h.1; rw [encS_length] at this; omega
theorem Reads.lenB {ks : List Bool} (h : Reads w B 1 A n (encB ks)) : ks.length = n := by have := h.1; rw [encB_length] at this; omega
theorem Reads.lenW {cs : List (Int × ByteArray)} (h : Reads w B 2 A n (encW cs)) : cs.length = n := by have := h.1; rw [encW_length] at this; omega
theorem Reads.str {bs : List ByteArray} (h : Reads w B 1 A n (encS bs)) {k : Nat} (hk : k < n) : ∃ b o, A = some ⟨b, o, none⟩ ∧ b < B ∧ w.cell? ⟨b, o + k, none⟩ = some (.string (blk bs k)) := by
  obtain ⟨b, o, e, hb, hc⟩ := h.2 (by omega)
  exact ⟨b, o, e, hb, hc k _ (encS_get (by rw [h.lenS]; exact hk))⟩
theorem Reads.bool {ks : List Bool} (h : Reads w B 1 A n (encB ks)) {k : Nat} (hk : k < n) : ∃ b o, A = some ⟨b, o, none⟩ ∧ b < B ∧ w.cell? ⟨b, o + k, none⟩ = some (.bool (bAt ks k)) := by
  obtain ⟨b, o, e, hb, hc⟩ := h.2 (by omega)
  exact ⟨b, o, e, hb, hc k _ (encB_get (by rw [h.lenB]; exact hk))⟩
theorem Reads.wr {cs : List (Int × ByteArray)} (h : Reads w B 2 A n (encW cs)) {k : Nat} (hk : k < n) : ∃ b o, A = some ⟨b, o, none⟩ ∧ b < B ∧ w.cell? ⟨b, o + k * 2, none⟩ = some (.int .i64 (wAt cs k)) ∧ w.cell? ⟨b, o + k * 2 + 1, none⟩ = some (.string (wDat cs k)) := by
  obtain ⟨b, o, e, hb, hc⟩ := h.2 (by omega)
  have := encW_get (cs := cs) (k := k) (by rw [h.lenW]; exact hk)
  exact ⟨b, o, e, hb, hc _ _ this.1, hc _ _ this.2⟩
end

/-- A device's value: its two slices read as d's lists; sizes as memory allows. -/
structure Dv (w : World) (B : Nat) (A : Option Addr) (n : Nat) (A' : Option Addr) (m : Nat) (d : D) : Prop where
  bs : Reads w B 1 A n (encS d.bs)
  cs : Reads w B 2 A' m (encW d.cs)
  hn : n * 16 ≤ 140737488355328
  hm : m * 24 ≤ 140737488355328
theorem Dv.step {w w' : World} {A A' : Option Addr} {n m : Nat} {d : D} (h : Dv w w.heap.size A n A' m d) (hb : Below w.heap.size w w') : Dv w' w'.heap.size A n A' m d := ⟨h.bs.step hb, h.cs.step hb, h.hn, h.hm⟩
theorem Dv.alloc {w : World} {A A' : Option Addr} {n m : Nat} {d : D} (h : Dv w w.heap.size A n A' m d) (o : Obj) : Dv (w.alloc o) (w.alloc o).heap.size A n A' m d := h.step ((Below.refl _ _).alloc (Nat.le_refl _) o)

theorem infoS : (Tryz.prog.info? 9).map (fun i => (i.zero, i.size, i.bytes)) = some (some (.string ⟨#[]⟩), 1, 16) := by kernel_rfl
theorem infoB : (Tryz.prog.info? 4).map (fun i => (i.zero, i.size, i.bytes)) = some (some (.bool false), 1, 1) := by kernel_rfl

section
variable {w w' : World} {g : Nat} {a b c d : Value}
end

end Go.Proofs.YtlfhhnjdfpgadaaGreatDoor

/-
  The contracts of slices.Clone and slices.Equal at texts and at writes: for all slices, nil and empty ones too.
-/
namespace Go.Proofs.YtlfhhnjdfpgadaaGreatDoor
open Go.RowKit

set_option maxHeartbeats 1000000 in
theorem cloneS_any (A : Option Addr) (n c : Nat) (bs : List ByteArray) (w : World) (h : Reads w w.heap.size 1 A n (encS bs)) (hb : n * 16 ≤ 140737488355328) :
    Calls Tryz.prog 37 #[.slice A n c] w fun e w' => ∃ A2 c2, e = .returned (.slice A2 n c2) ∧ w'.ownsRow w.heap.size 9 1 (.slice A2 n c2) n (encS bs) ∧ Below w.heap.size w w' := by
  have q := fun (w : World) (a : Option Addr) (n c n' c' : Nat) => Lib.run_eql_slice_nil (P := Tryz.prog) w _ _ a n c n' c' Tryz.underlying46
  obtain ⟨i0, hi0, hz0, hz1, hz2⟩ := info_parts infoS
  rcases A with _ | ad
  · have hn : n = 0 := by
      rcases Nat.eq_zero_or_pos n with h0 | h0
      · exact h0
      · obtain ⟨_, _, e, _⟩ := h.2 h0
        cases e
    subst hn
    have he : encS bs = [] := List.eq_nil_of_length_eq_zero (by have := h.1; omega)
    have H := Lib.hid he; clear he
    go_enter Tryz.func37, Tryz.ntmps37
    go_wp2
    go_ret
    exact ⟨none, 0, rfl, by rw [H.out]; exact own_nil, Below.refl _ _⟩
  · have hr := Lib.hid h; clear h
    go_enter Tryz.func37, Tryz.ntmps37
    go_wp2_with (at_builtin; refine wpList_append_reads _ rfl _ _ 46 rfl w.heap.size 9 i0 _ 1 16 Tryz.underlying46 hi0 hz0 hz1 hz2 rfl (by omega) _ 0 _ rfl (World.ownsRow_made w #[] 0 (Nat.le_refl _) (Nat.zero_le _) (by simp)) _ (some ad) n c (encS bs) rfl (hr.out.alloc _) (encS_one bs) ?_ ?_ ?_ ?_)
    · simp only [maxLen]; omega
    · rw [Nat.zero_add]; exact hb
    · simp
    intro A2 c2 w1 hown hgrow _
    go_wp2
    go_ret
    refine ⟨_, _, rfl, by simpa using hown, ?_⟩
    exact ((Below.refl _ w).alloc (Nat.le_refl _) _).grown hgrow (by simp) (by intro k hk; simp [Value.ownBlock] at hk; omega)

theorem ne_of_blk {xs ys : List ByteArray} {k : Nat} (h : blk xs k ≠ blk ys k) : xs ≠ ys := fun e => h (by rw [e])
theorem eq_of_blk {xs ys : List ByteArray} (hl : xs.length = ys.length) (h : ∀ j, j < xs.length → blk xs j = blk ys j) : xs = ys := by
  refine List.ext_getElem? fun j => ?_
  by_cases hj : j < xs.length
  · rw [blk_get hj, blk_get (by omega), h j hj]
  · rw [List.getElem?_eq_none (by omega), List.getElem?_eq_none (by omega)]
theorem ne_of_wr {xs ys : List (Int × ByteArray)} {k : Nat} (h : ¬ (wAt xs k = wAt ys k ∧ wDat xs k = wDat ys k)) : xs ≠ ys := fun e => h (by rw [e]; exact ⟨rfl, rfl⟩)
theorem eq_of_wr {xs ys : List (Int × ByteArray)} (hl : xs.length = ys.length) (h : ∀ j, j < xs.length → wAt xs j = wAt ys j ∧ wDat xs j = wDat ys j) : xs = ys := by
  refine List.ext_getElem? fun j => ?_
  by_cases hj : j < xs.length
  · rw [wr_get hj, wr_get (by omega), (h j hj).1, (h j hj).2]
  · rw [List.getElem?_eq_none (by omega), List.getElem?_eq_none (by omega)]
theorem bytes_same {a b : ByteArray} (h : a = b) : (a.toList == b.toList) = true := by subst h; simp
theorem bytes_inj {a b : ByteArray} (h : a.toList = b.toList) : a = b := by
  rw [ByteArray.toList_eq, ByteArray.toList_eq] at h
  obtain ⟨x⟩ := a
  obtain ⟨y⟩ := b
  exact congrArg ByteArray.mk (Array.toList_inj.1 h)
theorem bytes_other {a b : ByteArray} (h : a ≠ b) : (a.toList == b.toList) = false := by
  rw [beq_eq_false_iff_ne]
  exact fun e => h (bytes_inj e)

set_option maxHeartbeats 2000000 in
set_option maxRecDepth 100000 in
theorem equalS_any (A A' : Option Addr) (n c m c' : Nat) (xs ys : List ByteArray) (w : World) (B B' : Nat) (hx : Reads w B 1 A n (encS xs)) (hy : Reads w B' 1 A' m (encS ys)) (hn : n ≤ maxLen) (hm : m ≤ maxLen) :
    Calls Tryz.prog 71 #[.slice A n c, .slice A' m c'] w fun e w' => e = .returned (.bool (decide (xs = ys))) ∧ ∃ q, w' = w.drewN q := by
  unfold maxLen at hn hm
  have lx := hx.lenS
  have ly := hy.lenS
  by_cases hnm : n = m
  · subst hnm
    go_enter Tryz.func71, Tryz.ntmps71
    go_wp2
    go_loopg [13] n (fun g s13 wr => ∃ k q : Nat, k ≤ n ∧ n - k ≤ g ∧ s13 = .int .i64 k ∧ wr = w.drewN q ∧ Hid (∀ j, j < k → blk xs j = blk ys j))
    case atStart => exact ⟨0, 0, Nat.zero_le _, by omega, rfl, rfl, Lib.hid fun j hj => absurd hj (Nat.not_lt_zero _)⟩
    case round =>
      obtain ⟨k, q, hk, hg, rfl, rfl, H⟩ := hrel
      by_cases hlt : k < n
      · obtain ⟨b1, o1, rfl, _, g1⟩ := hx.str hlt
        obtain ⟨b2, o2, rfl, _, g2⟩ := hy.str hlt
        have HX := Lib.hid hx; have HY := Lib.hid hy; have LX := Lib.hid lx; have LY := Lib.hid ly
        clear hx hy lx ly
        generalize hxk : blk xs k = x at g1
        generalize hyk : blk ys k = y at g2
        have Bk : Hid (blk xs k = x ∧ blk ys k = y) := Lib.hid ⟨hxk, hyk⟩
        clear hxk hyk
        have hk1 : (k : Int) < (n : Int) := by omega
        by_cases hxy : x = y
        · have ht := bytes_same hxy
          have HXY := Lib.hid hxy; clear hxy
          go_wp2_with fail
          go_quiet (fail)
          go_wp2
          go_roundg (n - (k + 1))
          case measure => omega
          case rel =>
            refine ⟨k + 1, q + nq, by omega, by omega, by go_num, rfl, Lib.hid fun j hj => ?_⟩
            by_cases e : j = k
            · subst e
              rw [Bk.out.1, Bk.out.2]; exact HXY.out
            · exact H.out j (by omega)
        · have ht := bytes_other hxy
          have HXY := Lib.hid hxy; clear hxy
          go_wp2_with fail
          go_quiet (fail)
          go_wp2
          go_ret
          refine ⟨?_, q + nq, World.drewN_drewN ..⟩
          rw [decide_eq_false (ne_of_blk (k := k) (by rw [Bk.out.1, Bk.out.2]; exact HXY.out))]; rfl
      · have : k = n := by omega
        subst this
        have HE : Hid (xs = ys) := Lib.hid (eq_of_blk (by omega) fun j hj => H.out j (by omega))
        clear hx hy lx ly
        go_wp2
        go_ret
        refine ⟨?_, q, rfl⟩
        rw [decide_eq_true HE.out]; rfl
  · have HE : Hid (xs ≠ ys) := Lib.hid fun e => hnm (by rw [← lx, ← ly, e])
    have hnm' : ¬ (n : Int) = (m : Int) := by omega
    clear hx hy lx ly hnm
    go_enter Tryz.func71, Tryz.ntmps71
    go_wp2
    go_ret
    refine ⟨?_, 0, rfl⟩
    rw [decide_eq_false HE.out]; rfl


end Go.Proofs.YtlfhhnjdfpgadaaGreatDoor

/-
  The small functions on a device, of the program and of the document: copies, one operation spent, blocks, Same, Arm.
-/
namespace Go.Proofs.YtlfhhnjdfpgadaaGreatDoor
open Go.RowKit

/-- One less, but of -1. -/
def spL (l : Int) : Int := if 0 < l then l - 1 else l
theorem spL_pos {l : Int} (h : 0 < l) : spL l = l - 1 := if_pos h
theorem spL_neg {l : Int} (h : ¬ 0 < l) : spL l = l := if_neg h

end Go.Proofs.YtlfhhnjdfpgadaaGreatDoor
