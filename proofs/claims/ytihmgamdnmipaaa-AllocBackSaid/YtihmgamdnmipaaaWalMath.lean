/-
  A log over a device, as plain lists: how it is laid out, a commit, a recovery; and that devices stay fit.
-/
import Derived.Test.YtihmgamdnmipaaaDevMath
import Derived.Test.YtihmgamdnmipaaaCodeMath
namespace Go.Proofs.Ytihmgamdnmipaaa

/-- A write, or a flush. -/
inductive Step where
  | put (i : Int) (s : ByteArray)
  | flush
def stepD (x : D × Int) : Step → D × Int
  | .put i s => if x.2 = 0 then writeD x.1 i s else x
  | .flush => if x.2 = 0 then flushD x.1 else x
theorem stepD_W (x : D × Int) (i : Int) (s : ByteArray) : stepD x (.put i s) = if x.2 = 0 then writeD x.1 i s else x := rfl
theorem stepD_F (x : D × Int) : stepD x .flush = if x.2 = 0 then flushD x.1 else x := rfl
/-- One after another, up to the first error. -/
def runD (x : D × Int) (l : List Step) : D × Int := l.foldl stepD x
theorem runD_nil (x : D × Int) : runD x [] = x := rfl
theorem runD_cons (x : D × Int) (s : Step) (l : List Step) : runD x (s :: l) = runD (stepD x s) l := rfl
theorem runD_app (x : D × Int) (a b : List Step) : runD x (a ++ b) = runD (runD x a) b := by simp [runD]
theorem stepD_err {x : D × Int} (h : x.2 ≠ 0) (s : Step) : stepD x s = x := by cases s <;> simp [stepD, h]
theorem runD_err {x : D × Int} (h : x.2 ≠ 0) : ∀ l : List Step, runD x l = x
  | [] => rfl
  | s :: l => by rw [runD_cons, stepD_err h s]; exact runD_err h l

theorem fit_write {d : D} (h : FitP d) (i : Int) (s : ByteArray) : FitP (writeD d i s).1 := by
  unfold writeD
  by_cases h1 : d.dead = true
  · rw [if_pos h1]; exact h
  rw [if_neg h1]
  by_cases h2 : ¬ (at_ d.bs i ∧ s.size = 128)
  · rw [if_pos h2]; exact h
  rw [if_neg h2]
  by_cases h3 : 4096 ≤ d.cs.length
  · rw [if_pos h3]; exact h
  rw [if_neg h3]
  have h2' : at_ d.bs i ∧ s.size = 128 := Decidable.not_not.1 h2
  obtain ⟨⟨a1, a2, a3, a4, a5⟩, hb, hc⟩ := h
  by_cases h4 : d.left = 0
  · rw [if_pos h4]
    exact ⟨⟨a1, a2, a3, a4, fun _ => h4⟩, hb, hc⟩
  rw [if_neg h4]
  refine ⟨⟨a1, a2, ?_, ?_, fun h => absurd h h1⟩, hb, fun p hp => ?_⟩
  · show (d.cs ++ [(i, s)]).length ≤ 4096
    simp; omega
  · show -1 ≤ (if 0 < d.left then d.left - 1 else d.left)
    split <;> omega
  · rcases List.mem_append.1 hp with hp | hp
    · exact hc p hp
    · obtain rfl : p = (i, s) := by simpa using hp
      exact ⟨h2'.1.1, h2'.1.2, h2'.2⟩
theorem fit_flush {d : D} (h : FitP d) : FitP (flushD d).1 := by
  unfold flushD
  by_cases h1 : d.dead = true
  · rw [if_pos h1]; exact h
  rw [if_neg h1]
  obtain ⟨⟨a1, a2, a3, a4, a5⟩, hb, hc⟩ := h
  by_cases h4 : d.left = 0
  · rw [if_pos h4]
    exact ⟨⟨a1, a2, a3, a4, fun _ => h4⟩, hb, hc⟩
  rw [if_neg h4]
  refine ⟨⟨?_, ?_, by simp, ?_, fun h => absurd h h1⟩, settleL_sizes _ _ _ hb (fun p hp => (hc p hp).2.2), by simp [CsP]⟩
  · show 1 ≤ (allL d.bs d.cs).length
    rw [allL_length]; exact a1
  · show (allL d.bs d.cs).length ≤ 1024
    rw [allL_length]; exact a2
  · show -1 ≤ (if 0 < d.left then d.left - 1 else d.left)
    split <;> omega
theorem fit_step {x : D × Int} (h : FitP x.1) (s : Step) : FitP (stepD x s).1 := by
  cases s with
  | put i s => rw [stepD_W]; split; exact fit_write h i s; exact h
  | flush => rw [stepD_F]; split; exact fit_flush h; exact h
theorem fit_run : ∀ (l : List Step) {x : D × Int}, FitP x.1 → FitP (runD x l).1
  | [], _, h => h
  | s :: l, _, h => fit_run l (fit_step h s)
theorem fit_arm {d : D} (h : FitP d) (n : Int) : FitP (armD d n) := by
  unfold armD
  by_cases h1 : d.dead = true
  · rw [if_pos h1]; exact h
  rw [if_neg h1]
  exact ⟨⟨h.1.1, h.1.2.1, h.1.2.2.1, by show -1 ≤ max n (-1); omega, fun h => absurd h h1⟩, h.2⟩
theorem fit_new {n : Int} (h : 1 ≤ n ∧ n ≤ 1024) : FitP (newD n) := by
  unfold newD
  rw [if_neg (by omega)]
  refine ⟨⟨?_, ?_, by simp, by simp, by simp⟩, fun b hb => ?_, by simp [CsP]⟩
  · simp; omega
  · simp; omega
  · rw [(List.mem_replicate.1 hb).2]; exact zeroB_size
theorem left_step {x : D × Int} (h : x.1.left ≤ 9223372036854775807) (s : Step) : (stepD x s).1.left ≤ 9223372036854775807 := by
  cases s with
  | put i s =>
    rw [stepD_W]; split
    · unfold writeD
      split
      · exact h
      split
      · exact h
      split
      · exact h
      split
      · exact h
      dsimp only
      split <;> omega
    · exact h
  | flush =>
    rw [stepD_F]; split
    · unfold flushD
      split
      · exact h
      split
      · exact h
      dsimp only
      split <;> omega
    · exact h
theorem blocks_step (x : D × Int) (s : Step) : (stepD x s).1.bs.length = x.1.bs.length := by
  cases s with
  | put i s =>
    rw [stepD_W]; split
    · unfold writeD
      split
      · rfl
      split
      · rfl
      split
      · rfl
      split <;> rfl
    · rfl
  | flush =>
    rw [stepD_F]; split
    · unfold flushD
      split
      · rfl
      split
      · rfl
      exact allL_length _ _
    · rfl

/-! ### How it is laid out -/
def listsN (h : Nat) : Nat := (h + 63) / 64
def blocksI (home log : Int) : Int := if home < 1 ∨ 512 < home ∨ log < 1 ∨ 256 < log then 0 else 1 + (home + 63) / 64 + log + home
def wrongE (d : D) (home log : Int) : Int := if blocksI home log = 0 then 13 else if (d.bs.length : Int) ≠ blocksI home log then 14 else 0
def homeAt (h g i : Nat) : Nat := 1 + listsN h + g + i
/-- What is read of each home block. -/
def homeL (d : D) (h g : Nat) : List ByteArray := (List.range h).map fun i => (readD d (homeAt h g i : Nat)).1
def homeD (d : D) (home log : Int) : List ByteArray × Int :=
  if wrongE d home log ≠ 0 then ([], wrongE d home log) else if d.dead = true then ([], 17) else (homeL d home.toNat log.toNat, 0)
/-- The places, rising, at which two images differ. -/
def changedL (a b : List ByteArray) : List Nat := (List.range (max a.length b.length)).filter fun i => decide (a[i]? ≠ b[i]?)
def ImageP (img : List ByteArray) (home : Int) : Prop := (∀ s ∈ img, s.size = 128) ∧ (img.length : Int) = home
instance (img : List ByteArray) (home : Int) : Decidable (ImageP img home) := by unfold ImageP; exact inferInstance

/-! ### Numbers as bytes, the highest first -/
def mkB (l : List UInt8) : ByteArray := ⟨l.toArray⟩
def beL (n k : Nat) : List UInt8 := (List.range k).map fun j => UInt8.ofNat (n / 256 ^ (k - 1 - j))
def neL (l : List UInt8) : Nat := l.foldl (fun n b => n * 256 + b.toNat) 0
def padL (l : List UInt8) : ByteArray := mkB (l ++ List.replicate (128 - l.length) 0)
def placesL (l : List Nat) : List UInt8 := l.flatMap fun p => beL p 2
def dataL (l : List Nat) (img : List ByteArray) : List UInt8 := l.flatMap fun p => (img.getD p ⟨#[]⟩).data.toList

end Go.Proofs.Ytihmgamdnmipaaa
