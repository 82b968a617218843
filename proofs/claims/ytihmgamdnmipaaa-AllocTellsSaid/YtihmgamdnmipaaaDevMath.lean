/-
  A device and what is done to it, as plain lists: what the program's and the document's functions compute, and what follows from it.
-/
namespace Go.Proofs.Ytihmgamdnmipaaa

/-- A device: its blocks, its cache, how many more, whether it refused. -/
structure D where
  bs : List ByteArray
  cs : List (Int × ByteArray)
  left : Int
  dead : Bool
  deriving DecidableEq

def zeroB : ByteArray := ⟨Array.replicate 128 0⟩
theorem zeroB_size : zeroB.size = 128 := by decide +kernel
def noD : D := ⟨[], [], 0, false⟩
def newD (n : Int) : D := if n < 1 ∨ 1024 < n then noD else ⟨List.replicate n.toNat zeroB, [], -1, false⟩

def HeadP (d : D) : Prop := 1 ≤ d.bs.length ∧ d.bs.length ≤ 1024 ∧ d.cs.length ≤ 4096 ∧ -1 ≤ d.left ∧ (d.dead = true → d.left = 0)
def BsP (d : D) : Prop := ∀ b ∈ d.bs, b.size = 128
def CsP (d : D) : Prop := ∀ p ∈ d.cs, 0 ≤ p.1 ∧ p.1 < d.bs.length ∧ p.2.size = 128
def FitP (d : D) : Prop := HeadP d ∧ BsP d ∧ CsP d
instance (d : D) : Decidable (FitP d) := by unfold FitP HeadP BsP CsP; exact inferInstance
def fitD (d : D) : Bool := decide (FitP d)
theorem fitD_true {d : D} (h : FitP d) : fitD d = true := by unfold fitD; exact decide_eq_true h
theorem fitD_false {d : D} (h : ¬ FitP d) : fitD d = false := by unfold fitD; exact decide_eq_false h
theorem fitD_iff {d : D} : fitD d = true ↔ FitP d := by unfold fitD; exact decide_eq_true_iff

/-- A place that is a block. -/
def at_ (bs : List ByteArray) (i : Int) : Prop := 0 ≤ i ∧ i < bs.length
instance (bs : List ByteArray) (i : Int) : Decidable (at_ bs i) := by unfold at_; exact inferInstance
/-- One write done to the blocks. -/
def put (bs : List ByteArray) (i : Int) (s : ByteArray) : List ByteArray := if at_ bs i then bs.set i.toNat s else bs
theorem put_length (bs : List ByteArray) (i : Int) (s : ByteArray) : (put bs i s).length = bs.length := by unfold put; split <;> simp
theorem put_yes {bs : List ByteArray} {i : Int} (h : at_ bs i) (s : ByteArray) : put bs i s = bs.set i.toNat s := by unfold put; rw [if_pos h]
theorem put_no {bs : List ByteArray} {i : Int} (h : ¬ at_ bs i) (s : ByteArray) : put bs i s = bs := by unfold put; rw [if_neg h]
/-- The writes that are kept, done in order. -/
def settleL : List ByteArray → List (Int × ByteArray) → List Bool → List ByteArray
  | bs, p :: cs, k :: ks => settleL (if k = true then put bs p.1 p.2 else bs) cs ks
  | bs, _, _ => bs
theorem settleL_nil (bs : List ByteArray) (ks : List Bool) : settleL bs [] ks = bs := by cases ks <;> rfl
theorem settleL_none (bs : List ByteArray) (cs : List (Int × ByteArray)) : settleL bs cs [] = bs := by cases cs <;> rfl
theorem settleL_length : ∀ (cs : List (Int × ByteArray)) (bs : List ByteArray) (ks : List Bool), (settleL bs cs ks).length = bs.length
  | [], bs, ks => by rw [settleL_nil]
  | p :: cs, bs, [] => rfl
  | p :: cs, bs, k :: ks => by
    show (settleL (if k = true then put bs p.1 p.2 else bs) cs ks).length = _
    rw [settleL_length cs]
    split
    · exact put_length _ _ _
    · rfl
theorem settleL_step : ∀ (cs : List (Int × ByteArray)) (ks : List Bool) (bs : List ByteArray) (k : Nat) (p : Int × ByteArray) (b : Bool), cs[k]? = some p → ks[k]? = some b →
    settleL bs (cs.take (k + 1)) (ks.take (k + 1)) = if b = true then put (settleL bs (cs.take k) (ks.take k)) p.1 p.2 else settleL bs (cs.take k) (ks.take k)
  | c :: cs, x :: ks, bs, 0, p, b, h1, h2 => by
    simp only [List.getElem?_cons_zero, Option.some.injEq] at h1 h2
    subst h1; subst h2
    show settleL (if x = true then put bs c.1 c.2 else bs) (cs.take 0) (ks.take 0) = if x = true then put (settleL bs [] []) c.1 c.2 else settleL bs [] []
    rw [List.take_zero, List.take_zero, settleL_nil, settleL_nil]
  | c :: cs, x :: ks, bs, k + 1, p, b, h1, h2 => by
    simp only [List.getElem?_cons_succ] at h1 h2
    exact settleL_step cs ks (if x = true then put bs c.1 c.2 else bs) k p b h1 h2
theorem settleL_cut : ∀ (cs : List (Int × ByteArray)) (ks : List Bool) (bs : List ByteArray) (n : Nat), min cs.length ks.length ≤ n → settleL bs (cs.take n) (ks.take n) = settleL bs cs ks
  | [], ks, bs, n, _ => by rw [List.take_nil, settleL_nil, settleL_nil]
  | c :: cs, [], bs, n, _ => by rw [List.take_nil, settleL_none, settleL_none]
  | c :: cs, x :: ks, bs, 0, h => by simp at h
  | c :: cs, x :: ks, bs, n + 1, h => by
    simp only [List.length_cons] at h
    exact settleL_cut cs ks (if x = true then put bs c.1 c.2 else bs) n (by omega)
/-- Each block behind it is what it was, or one of the writes to it. -/
theorem settleL_from : ∀ (cs : List (Int × ByteArray)) (ks : List Bool) (bs : List ByteArray) (i : Nat) (s : ByteArray), (settleL bs cs ks)[i]? = some s → bs[i]? = some s ∨ ∃ p ∈ cs, p.1 = (i : Int) ∧ p.2 = s
  | [], ks, bs, i, s, h => by rw [settleL_nil] at h; exact .inl h
  | c :: cs, [], bs, i, s, h => .inl h
  | c :: cs, x :: ks, bs, i, s, h => by
    rcases settleL_from cs ks (if x = true then put bs c.1 c.2 else bs) i s h with h | ⟨p, hp, h1⟩
    · by_cases hx : x = true
      · rw [if_pos hx] at h
        by_cases ha : at_ bs c.1
        · rw [put_yes ha, List.getElem?_set] at h
          split at h
          · next he =>
            split at h
            · right
              exact ⟨c, List.mem_cons_self, by have := ha.1; omega, by simpa using h⟩
            · cases h
          · exact .inl h
        · rw [put_no ha] at h; exact .inl h
      · rw [if_neg hx] at h; exact .inl h
    · exact .inr ⟨p, List.mem_cons_of_mem _ hp, h1⟩

/-- The last write to a place, or else what is there. -/
def lastTo (cs : List (Int × ByteArray)) (i : Int) (s : ByteArray) : ByteArray := cs.foldl (fun a p => if p.1 = i then p.2 else a) s
theorem lastTo_snoc (cs : List (Int × ByteArray)) (p : Int × ByteArray) (i : Int) (s : ByteArray) : lastTo (cs ++ [p]) i s = if p.1 = i then p.2 else lastTo cs i s := by simp [lastTo]
theorem lastTo_none : ∀ (cs : List (Int × ByteArray)) (i : Int) (s : ByteArray), (∀ p ∈ cs, p.1 ≠ i) → lastTo cs i s = s
  | [], _, _, _ => rfl
  | c :: cs, i, s, h => by
    show lastTo cs i (if c.1 = i then c.2 else s) = s
    rw [if_neg (h c List.mem_cons_self)]
    exact lastTo_none cs i s fun p hp => h p (List.mem_cons_of_mem _ hp)
theorem lastTo_app (a b : List (Int × ByteArray)) (i : Int) (s : ByteArray) : lastTo (a ++ b) i s = lastTo b i (lastTo a i s) := by simp [lastTo]

def readD (d : D) (i : Int) : ByteArray × Int :=
  if d.dead = true then (⟨#[]⟩, 17) else if at_ d.bs i then (lastTo d.cs i (d.bs.getD i.toNat ⟨#[]⟩), 0) else (⟨#[]⟩, 15)
def spendD (d : D) : D × Int := if d.left = 0 then ({ d with dead := true }, 16) else if 0 < d.left then ({ d with left := d.left - 1 }, 0) else (d, 0)
def writeD (d : D) (i : Int) (s : ByteArray) : D × Int :=
  if d.dead = true then (d, 17) else if ¬ (at_ d.bs i ∧ s.size = 128) then (d, 15) else if 4096 ≤ d.cs.length then (d, 18)
  else if d.left = 0 then ({ d with dead := true }, 16) else ({ d with cs := d.cs ++ [(i, s)], left := if 0 < d.left then d.left - 1 else d.left }, 0)
/-- All the cache's writes done. -/
def allL (bs : List ByteArray) (cs : List (Int × ByteArray)) : List ByteArray := settleL bs cs (List.replicate cs.length true)
def flushD (d : D) : D × Int :=
  if d.dead = true then (d, 17) else if d.left = 0 then ({ d with dead := true }, 16)
  else ({ d with bs := allL d.bs d.cs, cs := [], left := if 0 < d.left then d.left - 1 else d.left }, 0)
def crashD (d : D) (ks : List Bool) : D := ⟨settleL d.bs d.cs ks, [], -1, false⟩
def armD (d : D) (n : Int) : D := if d.dead = true then d else { d with left := max n (-1) }

theorem settleL_sizes : ∀ (cs : List (Int × ByteArray)) (ks : List Bool) (bs : List ByteArray), (∀ b ∈ bs, b.size = 128) → (∀ p ∈ cs, p.2.size = 128) → ∀ b ∈ settleL bs cs ks, b.size = 128 := by
  intro cs ks bs hb hc b hm
  obtain ⟨i, hi, e⟩ := List.mem_iff_getElem.1 hm
  rcases settleL_from cs ks bs i b (by rw [List.getElem?_eq_getElem hi, e]) with h | ⟨p, hp, _, rfl⟩
  · exact hb b (List.mem_of_getElem? h)
  · exact hc p hp
theorem fit_crash {d : D} (h : FitP d) (ks : List Bool) : FitP (crashD d ks) := by
  obtain ⟨⟨h1, h2, h3, h4, h5⟩, hb, hc⟩ := h
  refine ⟨⟨?_, ?_, by simp [crashD], by simp [crashD], by simp [crashD]⟩, settleL_sizes _ _ _ hb (fun p hp => (hc p hp).2.2), by simp [crashD, CsP]⟩
  · show 1 ≤ (settleL _ _ _).length
    rw [settleL_length]; exact h1
  · show (settleL _ _ _).length ≤ 1024
    rw [settleL_length]; exact h2

theorem getD_put (bs : List ByteArray) (i : Int) (s : ByteArray) (j : Nat) (hj : j < bs.length) : (put bs i s).getD j ⟨#[]⟩ = if i = (j : Int) then s else bs.getD j ⟨#[]⟩ := by
  unfold put
  by_cases h : at_ bs i
  · rw [if_pos h]
    obtain ⟨h0, h1⟩ := h
    simp only [List.getD_eq_getElem?_getD, List.getElem?_set]
    by_cases e : i = (j : Int)
    · rw [if_pos e, if_pos (by omega), if_pos (by omega)]; rfl
    · rw [if_neg e, if_neg (by omega)]
  · rw [if_neg h, if_neg (fun e => h ⟨by omega, by omega⟩)]
/-- Behind a flush the blocks are what was read. -/
theorem all_last : ∀ (cs : List (Int × ByteArray)) (bs : List ByteArray) (j : Nat), j < bs.length → (allL bs cs).getD j ⟨#[]⟩ = lastTo cs (j : Int) (bs.getD j ⟨#[]⟩)
  | [], bs, j, h => by rw [allL, settleL_nil]; rfl
  | c :: cs, bs, j, h => by
    show (settleL (put bs c.1 c.2) cs (List.replicate cs.length true)).getD j ⟨#[]⟩ = lastTo cs (j : Int) (if c.1 = (j : Int) then c.2 else bs.getD j ⟨#[]⟩)
    rw [← getD_put bs c.1 c.2 j h]
    exact all_last cs (put bs c.1 c.2) j (by rw [put_length]; exact h)
theorem allL_length (bs : List ByteArray) (cs : List (Int × ByteArray)) : (allL bs cs).length = bs.length := settleL_length _ _ _

end Go.Proofs.Ytihmgamdnmipaaa
