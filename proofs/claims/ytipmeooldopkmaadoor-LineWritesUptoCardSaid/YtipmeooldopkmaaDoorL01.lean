/-
  A region that draws its order, in which loads stand beside calls and the cells that they load are stored at its end: a condition on the world that has to hold only till a given operation is carried out.
-/
import Derived.Deep.RegionHeld
import Derived.StillTail
namespace Go.Proofs.YtipmeooldopkmaaDoor

section
variable {P : Program} {ops : Array Oper} {Q : Exit → Act → World → Prop} {md : Region.Mode} {S : World → Prop} {k : Nat}

/-- Each waits for the next one. -/
def waitsPath (md : Region.Mode) (ops : Array Oper) : List Nat → Bool
  | x :: y :: t => Region.waitsFor md ops x y && waitsPath md ops (y :: t)
  | _ => true
/-- What a carried out operation waits for is carried out. -/
def Closed (md : Region.Mode) (ops : Array Oper) (listed : Array Bool) : Prop :=
  ∀ j oj, ops[j]? = some oj → listed.getD j false = true → ∀ e ∈ oj.after, Region.binds md e = true → listed.getD e.on false = true
theorem closed_none (n : Nat) : Closed md ops (Array.replicate n false) := fun j oj _ hl => by rw [getD_replicate_false] at hl; cases hl
theorem closed_set {j : Nat} {listed : Array Bool} (h : Closed md ops listed) (hj : j ∈ Region.ready md ops listed) : Closed md ops (listed.setIfInBounds j true) := by
  obtain ⟨_, oj, hoj, hall⟩ := mem_ready.1 hj
  intro i oi hi hl e he hb
  by_cases hij : j = i
  · subst hij
    obtain rfl : oj = oi := Option.some.inj (hoj.symm.trans hi)
    exact getD_set_true (hall e he hb)
  · rw [getD_set_ne false hij] at hl
    exact getD_set_true (h i oi hi hl e he hb)
theorem path_last {listed : Array Bool} (hc : Closed md ops listed) : ∀ (p : List Nat) (x i : Nat), waitsPath md ops (x :: p) = true →
    (∀ ox, ops[x]? = some ox → ∀ e ∈ ox.after, Region.binds md e = true → listed.getD e.on false = true) → (x :: p).getLast? = some i → p ≠ [] → listed.getD i false = true
  | [], _, _, _, _, _, hne => absurd rfl hne
  | y :: t, x, i, hp, hx, hl, _ => by
    simp only [waitsPath, Bool.and_eq_true] at hp
    obtain ⟨ox, hox, e, he, hb, hon⟩ := Region.waitsFor_spec hp.1
    have hy := hx ox hox e he hb
    rw [hon] at hy
    rcases t with _ | ⟨z, t⟩
    · simp at hl
      rw [← hl]; exact hy
    · exact path_last hc (z :: t) y i hp.2 (fun oy hoy => hc y oy hoy hy) (by simpa using hl) (by simp)
theorem not_yet {listed : Array Bool} (hc : Closed md ops listed) {p : List Nat} {i : Nat} (hp : waitsPath md ops (k :: p) = true) (hl : (k :: p).getLast? = some i) (hne : p ≠ []) (hi : listed.getD i true = false) : k ∉ Region.ready md ops listed := by
  intro hr
  obtain ⟨_, ok, hok, hall⟩ := mem_ready.1 hr
  have := path_last hc p k i hp (fun ox hox => by rw [hok] at hox; injection hox with hox; subst hox; exact hall) hl hne
  rw [getD_both hi] at this
  cases this

/-- Whatever order is picked from here on; S holds behind each operation, till k is carried out. -/
def wpTill (P : Program) (md : Region.Mode) (ops : Array Oper) (Q : Exit → Act → World → Prop) (S : World → Prop) (k : Nat) : Nat → Array Bool → Act → World → Prop
  | 0, listed, a, w => Region.ready md ops listed = [] ∧ Q .normal a w
  | f + 1, listed, a, w => (Region.ready md ops listed = [] → Q .normal a w) ∧
    ∀ i ∈ Region.ready md ops listed, wpOp P ops Q i (fun a' w' => (i ≠ k → listed.getD k true = false → S w') ∧ wpTill P md ops Q S k f (listed.setIfInBounds i true) a' w') a w
theorem wpAny_of_till : ∀ (f : Nat) (listed : Array Bool) (a : Act) (w : World), wpTill P md ops Q S k f listed a w → wpAny P md ops Q f listed a w
  | 0, _, _, _, h => h
  | f + 1, _, _, _, h => ⟨h.1, fun i hi => wpOp_mono (fun a' w' h' => wpAny_of_till f _ a' w' h'.2) (h.2 i hi)⟩
theorem till_first {i : Nat} {oi : Oper} {v : Value} {p : List Nat} (hi : ops[i]? = some oi) (hsel : ∀ (j : Nat) (o : Oper) cs b, ops[j]? = some o → o.op ≠ .select cs b)
    (hQ : ∀ c a w, Q (.panic c) (a.put oi.dst v) w → Q (.panic c) a w) (hik : i ≠ k) (hp : waitsPath md ops (k :: p) = true) (hpl : (k :: p).getLast? = some i) (hpn : p ≠ []) :
    ∀ (f : Nat) (listed : Array Bool) (a : Act) (w : World), Closed md ops listed → listed.getD k true = false →
      (∀ j oj, ops[j]? = some oj → j ≠ i → listed.getD j true = false → (∀ e ∈ oj.after, Region.binds md e = true → e.on ≠ i) → oi.apart ops oj = true) →
      i ∈ Region.ready md ops listed → YieldsIf P ops S oi v a → S w →
      wpTill P md ops Q S k f (listed.setIfInBounds i true) (a.put oi.dst v) w → wpTill P md ops Q S k (f + 1) listed a w := by
  intro f
  induction f with
  | zero =>
    intro listed a w _ _ _ hr hy hS H
    refine ⟨fun h => (by rw [h] at hr; cases hr), fun j hj => ?_⟩
    by_cases hji : j = i
    · subst hji
      exact hy.wpOp hi hS ⟨fun _ _ => hS, H⟩
    · have := ready_mono hj hji
      rw [H.1] at this
      cases this
  | succ f ih =>
    intro listed a w hc hk hfree hr hy hS H
    have hun := (mem_ready.1 hr).1
    refine ⟨fun h => (by rw [h] at hr; cases hr), fun j hj => ?_⟩
    by_cases hji : j = i
    · subst hji
      exact hy.wpOp hi hS ⟨fun _ _ => hS, H⟩
    have hjk : j ≠ k := fun e => not_yet hc hp hpl hpn hun (e ▸ hj)
    obtain ⟨hjun, oj, hoj, hall⟩ := mem_ready.1 hj
    have hnot : ∀ e ∈ oj.after, Region.binds md e = true → e.on ≠ i := fun e he hb heq => by
      have h1 := hall e he hb
      rw [heq, getD_both hun] at h1
      cases h1
    refine wpOp_mono (fun a' w' h3 => ?_) (wpOp_putIf hoj (hfree j oj hoj hji hjun hnot) (fun cs b => hsel i oi cs b hi) (fun cs b => hsel j oj cs b hoj) hQ hy (H.2 j (ready_mono hj hji)))
    have hS' : S w' := h3.2.1 hjk (by rw [getD_set_ne true hik]; exact hk)
    refine ⟨fun _ _ => hS', ih (listed.setIfInBounds j true) a' w' (closed_set hc hj) (by rw [getD_set_ne true hjk]; exact hk) (fun q oq hq hqi hqun hno => ?_) (ready_mono hr (Ne.symm hji)) h3.1 hS' ?_⟩
    · by_cases hjq : j = q
      · subst hjq
        exact hfree j oq hq hqi hjun hno
      · rw [getD_set_ne true hjq] at hqun
        exact hfree q oq hq hqi hqun hno
    · rw [Array.setIfInBounds_comm _ _ hji]
      exact h3.2.2

/-- The same, where what is carried out is closed. -/
def TillC (P : Program) (md : Region.Mode) (ops : Array Oper) (Q : Exit → Act → World → Prop) (S : World → Prop) (k f : Nat) (listed : Array Bool) (a : Act) (w : World) : Prop :=
  Closed md ops listed → wpTill P md ops Q S k f listed a w
/-- Taken first: what yields its value in every world that meets S. -/
theorem till_take {i : Nat} (oi : Oper) (v : Value) (p : List Nat) {f : Nat} {listed : Array Bool} {a : Act} {w : World} (hi : ops[i]? = some oi) (hs : Region.noSelect ops = true) (hf : Region.free md ops listed i = true)
    (hr : (Region.ready md ops listed).contains i = true) (hp : (waitsPath md ops (k :: p) && decide ((k :: p).getLast? = some i) && !p.isEmpty && decide (i ≠ k) && !listed.getD k true) = true)
    (hQ : ∀ c a w, Q (.panic c) (a.put oi.dst v) w → Q (.panic c) a w) (hy : YieldsIf P ops S oi v a) (hS : S w)
    (h : TillC P md ops Q S k f (listed.setIfInBounds i true) (a.put oi.dst v) w) : TillC P md ops Q S k (f + 1) listed a w := fun hc => by
  simp only [Bool.and_eq_true, decide_eq_true_eq, Bool.not_eq_true', List.isEmpty_eq_false_iff] at hp
  have hr' : i ∈ Region.ready md ops listed := by simpa using hr
  exact till_first hi (Region.noSelect_spec hs) hQ hp.1.2 hp.1.1.1.1 hp.1.1.1.2 hp.1.1.2 f listed a w hc hp.2 (Region.free_spec hi hf) hr' hy hS (h (closed_set hc hr'))
/-- One alone comes up. -/
theorem till_one {i : Nat} (o : Oper) {f : Nat} {listed : Array Bool} {a : Act} {w : World} (hr : Region.ready md ops listed = [i]) (ho : ops[i]? = some o) (hg : o.guard = none)
    (h : ∀ K : Act → World → Prop, Shut (∀ a' w', (i ≠ k → listed.getD k true = false → S w') → TillC P md ops Q S k f (listed.setIfInBounds i true) a' w' → K a' w') → Oper.wp P o a w K Q) : TillC P md ops Q S k (f + 1) listed a w := fun hc => by
  refine ⟨fun h0 => (by rw [hr] at h0; cases h0), fun j hj => ?_⟩
  have hj' := hj
  rw [hr] at hj'
  obtain rfl : j = i := by simpa using hj'
  unfold wpOp
  simp only [ho]
  have hw : Region.wanted o (yielded ops a.tmps) = true := by simp [Region.wanted, hg]
  rw [if_pos hw]
  exact .inl (h _ fun a' w' hS hT => ⟨hS, hT (closed_set hc hj)⟩)
theorem till_done {f : Nat} {listed : Array Bool} {a : Act} {w : World} (hr : Region.ready md ops listed = []) (h : Q .normal a w) : TillC P md ops Q S k f listed a w := fun _ => by
  cases f with
  | zero => exact ⟨hr, h⟩
  | succ f => exact ⟨fun _ => h, by rw [hr]; simp⟩
theorem wp_region_till (S : World → Prop) (k n : Nat) {id : Nat} {a : Act} {w : World} (hm : P.follows .mixedOrders = true) (hn : ops.size = n)
    (h : TillC P .any ops Q S k n (Array.replicate n false) a w.drew) : (Code.region id ops true).wp P Q a w := by
  subst hn
  exact wp_region_any hm (wpAny_of_till _ _ _ _ (h (closed_none _)))
end

end Go.Proofs.YtipmeooldopkmaaDoor

/-
  A device and what is done to it, as plain lists: what the program's and the document's functions compute, and what follows from it.
-/
namespace Go.Proofs.YtipmeooldopkmaaDoor

/-- A device: its blocks, its cache, how many more, whether it refused. -/
structure D where
  bs : List ByteArray
  cs : List (Int × ByteArray)
  left : Int
  dead : Bool
  deriving DecidableEq

def zeroB : ByteArray := ⟨Array.replicate 128 0⟩
theorem zeroB_size : zeroB.size = 128 := by decide +kernel
def noD : D := ⟨[], [], 0, false⟩
def newD (n : Int) : D := if n < 1 ∨ 1024 < n then noD else ⟨List.replicate n.toNat zeroB, [], -1, false⟩

def HeadP (d : D) : Prop := 1 ≤ d.bs.length ∧ d.bs.length ≤ 1024 ∧ d.cs.length ≤ 4096 ∧ -1 ≤ d.left ∧ (d.dead = true → d.left = 0)
def BsP (d : D) : Prop := ∀ b ∈ d.bs, b.size = 128
def CsP (d : D) : Prop := ∀ p ∈ d.cs, 0 ≤ p.1 ∧ p.1 < d.bs.length ∧ p.2.size = 128
def FitP (d : D) : Prop := HeadP d ∧ BsP d ∧ CsP d
instance (d : D) : Decidable (FitP d) := by unfold FitP HeadP BsP CsP; exact inferInstance
def fitD (d : D) : Bool := decide (FitP d)
theorem fitD_true {d : D} (h : FitP d) : fitD d = true := by unfold fitD; exact decide_eq_true h
theorem fitD_false {d : D} (h : ¬ FitP d) : fitD d = false := by unfold fitD; exact decide_eq_false h
theorem fitD_iff {d : D} : fitD d = true ↔ FitP d := by unfold fitD; exact decide_eq_true_iff

/-- A place that is a block. -/
def at_ (bs : List ByteArray) (i : Int) : Prop := 0 ≤ i ∧ i < bs.length
instance (bs : List ByteArray) (i : Int) : Decidable (at_ bs i) := by unfold at_; exact inferInstance
/-- One write done to the blocks. -/
def put (bs : List ByteArray) (i : Int) (s : ByteArray) : List ByteArray := if at_ bs i then bs.set i.toNat s else bs
theorem put_length (bs : List ByteArray) (i : Int) (s : ByteArray) : (put bs i s).length = bs.length := by unfold put; split <;> simp
theorem put_yes {bs : List ByteArray} {i : Int} (h : at_ bs i) (s : ByteArray) : put bs i s = bs.set i.toNat s := by unfold put; rw [if_pos h]
theorem put_no {bs : List ByteArray} {i : Int} (h : ¬ at_ bs i) (s : ByteArray) : put bs i s = bs := by unfold put; rw [if_neg h]
/-- The writes that are kept, done in order. -/
def settleL : List ByteArray → List (Int × ByteArray) → List Bool → List ByteArray
  | bs, p :: cs, k :: ks => settleL (if k = true then put bs p.1 p.2 else bs) cs ks
  | bs, _, _ => bs
theorem settleL_nil (bs : List ByteArray) (ks : List Bool) : settleL bs [] ks = bs := by cases ks <;> rfl
theorem settleL_none (bs : List ByteArray) (cs : List (Int × ByteArray)) : settleL bs cs [] = bs := by cases cs <;> rfl
theorem settleL_length : ∀ (cs : List (Int × ByteArray)) (bs : List ByteArray) (ks : List Bool), (settleL bs cs ks).length = bs.length
  | [], bs, ks => by rw [settleL_nil]
  | p :: cs, bs, [] => rfl
  | p :: cs, bs, k :: ks => by
    show (settleL (if k = true then put bs p.1 p.2 else bs) cs ks).length = _
    rw [settleL_length cs]
    split
    · exact put_length _ _ _
    · rfl
theorem settleL_step : ∀ (cs : List (Int × ByteArray)) (ks : List Bool) (bs : List ByteArray) (k : Nat) (p : Int × ByteArray) (b : Bool), cs[k]? = some p → ks[k]? = some b →
    settleL bs (cs.take (k + 1)) (ks.take (k + 1)) = if b = true then put (settleL bs (cs.take k) (ks.take k)) p.1 p.2 else settleL bs (cs.take k) (ks.take k)
  | c :: cs, x :: ks, bs, 0, p, b, h1, h2 => by
    simp only [List.getElem?_cons_zero, Option.some.injEq] at h1 h2
    subst h1; subst h2
    show settleL (if x = true then put bs c.1 c.2 else bs) (cs.take 0) (ks.take 0) = if x = true then put (settleL bs [] []) c.1 c.2 else settleL bs [] []
    rw [List.take_zero, List.take_zero, settleL_nil, settleL_nil]
  | c :: cs, x :: ks, bs, k + 1, p, b, h1, h2 => by
    simp only [List.getElem?_cons_succ] at h1 h2
    exact settleL_step cs ks (if x = true then put bs c.1 c.2 else bs) k p b h1 h2
theorem settleL_cut : ∀ (cs : List (Int × ByteArray)) (ks : List Bool) (bs : List ByteArray) (n : Nat), min cs.length ks.length ≤ n → settleL bs (cs.take n) (ks.take n) = settleL bs cs ks
  | [], ks, bs, n, _ => by rw [List.take_nil, settleL_nil, settleL_nil]
  | c :: cs, [], bs, n, _ => by rw [List.take_nil, settleL_none, settleL_none]
  | c :: cs, x :: ks, bs, 0, h => by simp at h
  | c :: cs, x :: ks, bs, n + 1, h => by
    simp only [List.length_cons] at h
    exact settleL_cut cs ks (if x = true then put bs c.1 c.2 else bs) n (by omega)
/-- Each block behind it is what it was, or one of the writes to it. -/
theorem settleL_from : ∀ (cs : List (Int × ByteArray)) (ks : List Bool) (bs : List ByteArray) (i : Nat) (s : ByteArray), (settleL bs cs ks)[i]? = some s → bs[i]? = some s ∨ ∃ p ∈ cs, p.1 = (i : Int) ∧ p.2 = s
  | [], ks, bs, i, s, h => by rw [settleL_nil] at h; exact .inl h
  | c :: cs, [], bs, i, s, h => .inl h
  | c :: cs, x :: ks, bs, i, s, h => by
    rcases settleL_from cs ks (if x = true then put bs c.1 c.2 else bs) i s h with h | ⟨p, hp, h1⟩
    · by_cases hx : x = true
      · rw [if_pos hx] at h
        by_cases ha : at_ bs c.1
        · rw [put_yes ha, List.getElem?_set] at h
          split at h
          · next he =>
            split at h
            · right
              exact ⟨c, List.mem_cons_self, by have := ha.1; omega, by simpa using h⟩
            · cases h
          · exact .inl h
        · rw [put_no ha] at h; exact .inl h
      · rw [if_neg hx] at h; exact .inl h
    · exact .inr ⟨p, List.mem_cons_of_mem _ hp, h1⟩

/-- The last write to a place, or else what is there. -/
def lastTo (cs : List (Int × ByteArray)) (i : Int) (s : ByteArray) : ByteArray := cs.foldl (fun a p => if p.1 = i then p.2 else a) s
theorem lastTo_snoc (cs : List (Int × ByteArray)) (p : Int × ByteArray) (i : Int) (s : ByteArray) : lastTo (cs ++ [p]) i s = if p.1 = i then p.2 else lastTo cs i s := by simp [lastTo]
theorem lastTo_none : ∀ (cs : List (Int × ByteArray)) (i : Int) (s : ByteArray), (∀ p ∈ cs, p.1 ≠ i) → lastTo cs i s = s
  | [], _, _, _ => rfl
  | c :: cs, i, s, h => by
    show lastTo cs i (if c.1 = i then c.2 else s) = s
    rw [if_neg (h c List.mem_cons_self)]
    exact lastTo_none cs i s fun p hp => h p (List.mem_cons_of_mem _ hp)
theorem lastTo_app (a b : List (Int × ByteArray)) (i : Int) (s : ByteArray) : lastTo (a ++ b) i s = lastTo b i (lastTo a i s) := by simp [lastTo]

def readD (d : D) (i : Int) : ByteArray × Int :=
  if d.dead = true then (⟨#[]⟩, 17) else if at_ d.bs i then (lastTo d.cs i (d.bs.getD i.toNat ⟨#[]⟩), 0) else (⟨#[]⟩, 15)
def spendD (d : D) : D × Int := if d.left = 0 then ({ d with dead := true }, 16) else if 0 < d.left then ({ d with left := d.left - 1 }, 0) else (d, 0)
def writeD (d : D) (i : Int) (s : ByteArray) : D × Int :=
  if d.dead = true then (d, 17) else if ¬ (at_ d.bs i ∧ s.size = 128) then (d, 15) else if 4096 ≤ d.cs.length then (d, 18)
  else if d.left = 0 then ({ d with dead := true }, 16) else ({ d with cs := d.cs ++ [(i, s)], left := if 0 < d.left then d.left - 1 else d.left }, 0)
/-- All the cache's writes done. -/
def allL (bs : List ByteArray) (cs : List (Int × ByteArray)) : List ByteArray := settleL bs cs (List.replicate cs.length true)
def flushD (d : D) : D × Int :=
  if d.dead = true then (d, 17) else if d.left = 0 then ({ d with dead := true }, 16)
  else ({ d with bs := allL d.bs d.cs, cs := [], left := if 0 < d.left then d.left - 1 else d.left }, 0)
def crashD (d : D) (ks : List Bool) : D := ⟨settleL d.bs d.cs ks, [], -1, false⟩
def armD (d : D) (n : Int) : D := if d.dead = true then d else { d with left := max n (-1) }

theorem settleL_sizes : ∀ (cs : List (Int × ByteArray)) (ks : List Bool) (bs : List ByteArray), (∀ b ∈ bs, b.size = 128) → (∀ p ∈ cs, p.2.size = 128) → ∀ b ∈ settleL bs cs ks, b.size = 128 := by
  intro cs ks bs hb hc b hm
  obtain ⟨i, hi, e⟩ := List.mem_iff_getElem.1 hm
  rcases settleL_from cs ks bs i b (by rw [List.getElem?_eq_getElem hi, e]) with h | ⟨p, hp, _, rfl⟩
  · exact hb b (List.mem_of_getElem? h)
  · exact hc p hp
theorem fit_crash {d : D} (h : FitP d) (ks : List Bool) : FitP (crashD d ks) := by
  obtain ⟨⟨h1, h2, h3, h4, h5⟩, hb, hc⟩ := h
  refine ⟨⟨?_, ?_, by simp [crashD], by simp [crashD], by simp [crashD]⟩, settleL_sizes _ _ _ hb (fun p hp => (hc p hp).2.2), by simp [crashD, CsP]⟩
  · show 1 ≤ (settleL _ _ _).length
    rw [settleL_length]; exact h1
  · show (settleL _ _ _).length ≤ 1024
    rw [settleL_length]; exact h2

theorem getD_put (bs : List ByteArray) (i : Int) (s : ByteArray) (j : Nat) (hj : j < bs.length) : (put bs i s).getD j ⟨#[]⟩ = if i = (j : Int) then s else bs.getD j ⟨#[]⟩ := by
  unfold put
  by_cases h : at_ bs i
  · rw [if_pos h]
    obtain ⟨h0, h1⟩ := h
    simp only [List.getD_eq_getElem?_getD, List.getElem?_set]
    by_cases e : i = (j : Int)
    · rw [if_pos e, if_pos (by omega), if_pos (by omega)]; rfl
    · rw [if_neg e, if_neg (by omega)]
  · rw [if_neg h, if_neg (fun e => h ⟨by omega, by omega⟩)]
/-- Behind a flush the blocks are what was read. -/
theorem all_last : ∀ (cs : List (Int × ByteArray)) (bs : List ByteArray) (j : Nat), j < bs.length → (allL bs cs).getD j ⟨#[]⟩ = lastTo cs (j : Int) (bs.getD j ⟨#[]⟩)
  | [], bs, j, h => by rw [allL, settleL_nil]; rfl
  | c :: cs, bs, j, h => by
    show (settleL (put bs c.1 c.2) cs (List.replicate cs.length true)).getD j ⟨#[]⟩ = lastTo cs (j : Int) (if c.1 = (j : Int) then c.2 else bs.getD j ⟨#[]⟩)
    rw [← getD_put bs c.1 c.2 j h]
    exact all_last cs (put bs c.1 c.2) j (by rw [put_length]; exact h)
theorem allL_length (bs : List ByteArray) (cs : List (Int × ByteArray)) : (allL bs cs).length = bs.length := settleL_length _ _ _

end Go.Proofs.YtipmeooldopkmaaDoor
