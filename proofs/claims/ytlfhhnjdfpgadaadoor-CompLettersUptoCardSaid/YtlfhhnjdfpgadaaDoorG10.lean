/-
  Plain mathematics for layer 11: lines unfolded, as the program does it.
-/
import Derived.Lib.IndexMore
import Derived.Lib.Strings
import Derived.Test.YtlfhhnjdfpgadaaDoorG09
import Derived.Test.YtlfhhnjdfpgadaaDoorG04
import Derived.Test.YtlfhhnjdfpgadaaDoorG03
namespace Go.Proofs.YtlfhhnjdfpgadaaDoor
open Go.RowKit

def notLf (c : UInt8) : Bool := !decide (c = 10)
theorem tw_dropU {p : UInt8 → Bool} : ∀ l : List UInt8, l.drop (l.takeWhile p).length = l.dropWhile p
  | [] => rfl
  | x :: l => by
    by_cases hx : p x = true
    · rw [List.takeWhile_cons_of_pos hx, List.dropWhile_cons_of_pos hx]; simpa using tw_dropU l
    · rw [List.takeWhile_cons_of_neg hx, List.dropWhile_cons_of_neg hx]; rfl
theorem tw_takeU {p : UInt8 → Bool} : ∀ l : List UInt8, l.take (l.takeWhile p).length = l.takeWhile p
  | [] => rfl
  | x :: l => by
    by_cases hx : p x = true
    · rw [List.takeWhile_cons_of_pos hx]; simpa using tw_takeU l
    · rw [List.takeWhile_cons_of_neg hx]; rfl
/-- Lines as they stand. -/
def rawP : Nat → List UInt8 → List (List UInt8)
  | 0, _ => []
  | f + 1, l => if l = [] then [] else
      (if (l.takeWhile notLf).length < l.length then stripL (l.takeWhile notLf) else l.takeWhile notLf) :: rawP f (l.drop ((l.takeWhile notLf).length + 1))
theorem raw_all : ∀ (f : Nat) (l : List UInt8), l.length ≤ f → rawG l [] = rawP f l
  | 0, l, h => by
    have : l = [] := List.eq_nil_of_length_eq_zero (by omega)
    subst this; simp [rawG, rawP]
  | f + 1, l, h => by
    by_cases h0 : l = []
    · subst h0; simp [rawG, rawP]
    · rw [rawP, if_neg h0]
      have hsp := List.takeWhile_append_dropWhile (p := notLf) (l := l)
      have hno : ∀ c ∈ l.takeWhile notLf, c ≠ 10 := fun c hc e => by
        have : notLf c = true := by
          have := List.all_takeWhile (p := notLf) (l := l)
          exact List.all_eq_true.1 this c hc
        subst e; exact absurd this (by decide)
      have hdr : l.drop (l.takeWhile notLf).length = l.dropWhile notLf := tw_dropU l
      cases hd : l.dropWhile notLf with
      | nil =>
        rw [hd, List.append_nil] at hsp
        rw [if_neg (by rw [hsp]; omega), List.drop_eq_nil_of_le (by rw [hsp]; omega)]
        conv => lhs; rw [← hsp]
        have := raw_feed (l.takeWhile notLf) [] [] hno
        rw [List.append_nil, List.nil_append] at this
        rw [this, rawG, if_neg (by rw [hsp]; exact h0)]
        cases f <;> simp [rawP]
      | cons c t =>
        have hc : c = 10 := by
          have := List.head?_dropWhile_not notLf l
          rw [hd] at this
          unfold notLf at this
          simpa using this
        subst hc
        rw [hd] at hsp hdr
        have hlen : (l.takeWhile notLf).length + (t.length + 1) = l.length := by
          conv => rhs; rw [← hsp]
          simp
        rw [if_pos (by omega)]
        conv => lhs; rw [← hsp]
        rw [raw_feed _ _ _ hno, List.nil_append, rawG, if_pos rfl]
        have ht : l.drop ((l.takeWhile notLf).length + 1) = t := by rw [← List.drop_drop, hdr]; rfl
        rw [ht, raw_all f t (by omega)]
theorem trim_strip (a : List UInt8) : Lib.trimSuffix a [13] = stripL a := by
  unfold Lib.trimSuffix Lib.hasSuffix stripL
  by_cases h : a.getLast? = some 13
  · obtain ⟨b, rfl⟩ := List.getLast?_eq_some_iff.1 h
    rw [if_pos (by simp), if_pos (by simp)]
    simp
  · rw [if_neg h, if_neg]
    intro hs
    rw [List.isSuffixOf_iff_suffix] at hs
    obtain ⟨b, rfl⟩ := hs
    exact h (by simp)
theorem cut_lf : ∀ (l : List UInt8), Lib.index l [10] = (if (l.takeWhile notLf).length < l.length then ((l.takeWhile notLf).length : Int) else -1)
  | [] => by decide
  | b :: l => by
    have ih := cut_lf l
    unfold Lib.index
    by_cases hb : b = 10
    · subst hb
      rw [if_pos (by simp [List.isPrefixOf])]
      simp [notLf]
    · have h1 : ([10] : List UInt8).isPrefixOf (b :: l) = false := by simp [List.isPrefixOf]; exact fun e => hb e.symm
      rw [if_neg (by rw [h1]; decide), ih]
      have h2 : (b :: l).takeWhile notLf = b :: l.takeWhile notLf := List.takeWhile_cons_of_pos (by simp [notLf, hb])
      rw [h2]
      simp only [List.length_cons]
      generalize (l.takeWhile notLf).length = n
      generalize l.length = m
      by_cases h : n < m
      · have e1 : (if n < m then (n : Int) else -1) = n := if_pos h
        have e2 : (if n + 1 < m + 1 then ((n + 1 : Nat) : Int) else -1) = ((n + 1 : Nat) : Int) := if_pos (by omega)
        have e3 : ((n : Int) == -1) = false := by rw [beq_eq_false_iff_ne]; omega
        rw [e1, e2, e3]; simp
      · have e1 : (if n < m then (n : Int) else -1) = -1 := if_neg h
        have e2 : (if n + 1 < m + 1 then ((n + 1 : Nat) : Int) else -1) = -1 := if_neg (by omega)
        rw [e1, e2]; rfl
theorem cut_is (l : List UInt8) : (Lib.cut l [10]).1 = l.takeWhile notLf ∧ (Lib.cut l [10]).2.2 = decide ((l.takeWhile notLf).length < l.length) := by
  unfold Lib.cut
  rw [cut_lf]
  have hle : (l.takeWhile notLf).length ≤ l.length := (List.takeWhile_sublist _).length_le
  by_cases h : (l.takeWhile notLf).length < l.length
  · rw [if_pos h, if_pos (by omega)]
    refine ⟨?_, by simp [h]⟩
    have hsp := List.takeWhile_append_dropWhile (p := notLf) (l := l)
    show l.take ((((l.takeWhile notLf).length : Nat) : Int)).toNat = _
    rw [Int.toNat_natCast]
    exact tw_takeU l
  · rw [if_neg h, if_neg (by decide)]
    refine ⟨?_, by simp [h]⟩
    have hsp := List.takeWhile_append_dropWhile (p := notLf) (l := l)
    have : (l.dropWhile notLf) = [] := List.eq_nil_of_length_eq_zero (by
      have := congrArg List.length hsp
      rw [List.length_append] at this
      omega)
    rw [this, List.append_nil] at hsp
    exact hsp.symm
/-- Lines joined; none: the first one goes on with none. -/
def joinP : List (List UInt8) → List (List UInt8) → Option (List (List UInt8))
  | [], out => some out
  | x :: xs, out => if goesL x = false then joinP xs (out ++ [x]) else if out = [] then none else joinP xs (out.dropLast ++ [out.getLastD [] ++ x.drop 1])
def chkP : Nat → List (List UInt8) → Int
  | _, [] => 0
  | i, x :: xs => if x = [] then 10 else if i = 400 then 27 else if 1024 < x.length then 12 else chkP (i + 1) xs
/-- What Unfold tells, as the program does it. -/
def unfQ (s : List UInt8) : List (List UInt8) × Int :=
  if 8192 < s.length then ([], 12) else match joinP (rawG s []) [] with
  | none => ([], 10)
  | some l => if chkP 0 l = 0 then (l, 0) else ([], chkP 0 l)
theorem joinP_app : ∀ (a b out : List (List UInt8)), joinP (a ++ b) out = (match joinP a out with | none => none | some o => joinP b o)
  | [], b, out => rfl
  | x :: a, b, out => by
    rw [List.cons_append, joinP, joinP]
    split
    · exact joinP_app a b _
    · split
      · rfl
      · exact joinP_app a b _
theorem chkP_good : ∀ (l : List (List UInt8)) (i : Nat), (∀ x ∈ l, x ≠ [] ∧ x.length ≤ 1024) → i + l.length ≤ 400 → chkP i l = 0
  | [], _, _, _ => rfl
  | x :: l, i, h, hi => by
    have hx := h x (by simp)
    simp only [List.length_cons] at hi
    rw [chkP, if_neg hx.1, if_neg (by omega), if_neg (by omega)]
    exact chkP_good l (i + 1) (fun y hy => h y (by simp [hy])) (by omega)
theorem unf_join : ∀ (raws out ls : List (List UInt8)), unfG raws out = (ls, 0) → (∀ x ∈ out, x ≠ [] ∧ x.length ≤ 1024) → out.length ≤ 400 → joinP raws out = some ls ∧ chkP 0 ls = 0
  | [], out, ls, h, hg, hl => by
    rw [unfG] at h
    injection h with h1 h2
    subst h1
    exact ⟨rfl, chkP_good _ 0 hg (by omega)⟩
  | x :: xs, out, ls, h, hg, hl => by
    rw [unfG] at h
    rw [joinP]
    by_cases h1 : x = [] ∨ (goesL x = true ∧ out = [])
    · rw [if_pos h1] at h
      injection h with _ h2
      exact absurd h2 (by decide)
    · rw [if_neg h1] at h
      by_cases hgo : goesL x = true
      · rw [if_pos hgo] at h
        rw [if_neg (by rw [hgo]; decide)]
        have hne : out ≠ [] := fun e => h1 (.inr ⟨hgo, e⟩)
        rw [if_neg hne]
        by_cases h5 : 1024 < (out.getLastD [] ++ x.drop 1).length
        · rw [if_pos h5] at h
          injection h with _ h2
          exact absurd h2 (by decide)
        · rw [if_neg h5] at h
          refine unf_join xs _ ls h (fun y hy => ?_) (by simp; omega)
          rcases List.mem_append.1 hy with hy | hy
          · exact hg y ((List.dropLast_sublist out).subset hy)
          · obtain rfl : y = out.getLastD [] ++ x.drop 1 := by simpa using hy
            refine ⟨fun e => ?_, by omega⟩
            have hl := hg (out.getLast hne) (List.getLast_mem hne)
            rw [List.getLastD_eq_getLast?, List.getLast?_eq_some_getLast hne] at e
            simp at e
            exact hl.1 e.1
      · rw [if_neg hgo] at h
        rw [if_pos (by simpa using hgo)]
        by_cases h4 : out.length = 400
        · rw [if_pos h4] at h
          injection h with _ h2
          exact absurd h2 (by decide)
        · rw [if_neg h4] at h
          by_cases h5 : 1024 < x.length
          · rw [if_pos h5] at h
            injection h with _ h2
            exact absurd h2 (by decide)
          · rw [if_neg h5] at h
            refine unf_join xs _ ls h (fun y hy => ?_) (by simp; omega)
            rcases List.mem_append.1 hy with hy | hy
            · exact hg y hy
            · obtain rfl : y = x := by simpa using hy
              exact ⟨fun e => h1 (.inl e), by omega⟩
/-- Where the document tells lines, so does the program. -/
theorem unfQ_of {s : List UInt8} {ls : List (List UInt8)} (h : unfL s = (ls, 0)) : unfQ s = (ls, 0) := by
  unfold unfL at h
  unfold unfQ
  split at h
  · injection h with _ h2
    exact absurd h2 (by decide)
  · rename_i hs
    rw [if_neg hs]
    obtain ⟨h1, h2⟩ := unf_join _ [] ls h (fun x hx => by cases hx) (by simp)
    rw [h1]
    show (if chkP 0 ls = 0 then (ls, 0) else ([], chkP 0 ls)) = _
    rw [if_pos h2]
end Go.Proofs.YtlfhhnjdfpgadaaDoor

/-
  What Parse tells of lines, and that a component's own lines are read as itself: mathematics alone.
-/
namespace Go.Proofs.YtlfhhnjdfpgadaaDoor
open Go.RowKit

/-- A component's lines from a place on, behind its BEGIN: what is read, or why not, and what is left. -/
def takeC : Nat → List Pro → List UInt8 → Nat → List Pro → List CM → Except Int (CM × List Pro)
  | 0, _, _, _, _, _ => .error 11
  | _ + 1, [], _, _, _, _ => .error 11
  | f + 1, p :: l, nm, d, ps, cs =>
    if p.name ≠ beginT ∧ p.name ≠ endT then takeC f l nm d (ps ++ [p]) cs
    else if p.pars ≠ [] ∨ nameB (upL p.value) = false then .error 10
    else if p.name = endT then (if upL p.value ≠ nm then .error 31 else .ok (.mk nm ps cs, l))
    else if d = 12 then .error 24
    else match takeC f l (upL p.value) (d + 1) [] [] with
      | .error e => .error e
      | .ok (k, l') => takeC f l' nm d ps (cs ++ [k])
mutual
def prosC : CM → List Pro
  | .mk nm ps cs => ⟨beginT, [], nm⟩ :: (ps ++ (prosCs cs ++ [⟨endT, [], nm⟩]))
def prosCs : List CM → List Pro
  | [] => []
  | c :: cs => prosC c ++ prosCs cs
end
theorem begin_ne_end : beginT ≠ endT := by decide
theorem take_props : ∀ (ps : List Pro) (f : Nat) (l : List Pro) (nm : List UInt8) (d : Nat) (acc : List Pro) (cs : List CM), (∀ p ∈ ps, propB p = true) → takeC (f + ps.length) (ps ++ l) nm d acc cs = takeC f l nm d (acc ++ ps) cs
  | [], f, l, nm, d, acc, cs, _ => by simp
  | p :: ps, f, l, nm, d, acc, cs, h => by
    have hp := h p (List.mem_cons_self ..)
    have ih := take_props ps f l nm d (acc ++ [p]) cs (fun q hq => h q (List.mem_cons_of_mem _ hq))
    have hb : p.name ≠ beginT ∧ p.name ≠ endT := by
      unfold propB at hp
      simp only [Bool.and_eq_true, Bool.not_eq_true', decide_eq_false_iff_not] at hp
      exact hp.2
    rw [List.length_cons, ← Nat.add_assoc, List.cons_append, takeC, if_pos hb, ih, List.append_assoc]; rfl
theorem fitC_mk {d : Nat} {nm : List UInt8} {ps : List Pro} {cs : List CM} (h : fitC (d + 1) (.mk nm ps cs) = true) : nameB nm = true ∧ (∀ p ∈ ps, propB p = true) ∧ ∀ c ∈ cs, fitC d c = true := by
  rw [fitC, Bool.and_eq_true, Bool.and_eq_true, List.all_eq_true, List.all_eq_true] at h
  exact ⟨h.1, h.2.1, h.2.2⟩
theorem take_fuel : ∀ (f g : Nat) (l : List Pro) (nm : List UInt8) (d : Nat) (ps : List Pro) (cs : List CM) (k : CM × List Pro), takeC f l nm d ps cs = .ok k → f ≤ g → takeC g l nm d ps cs = .ok k
  | 0, _, _, _, _, _, _, _, h, _ => by rw [takeC] at h; cases h
  | f + 1, 0, _, _, _, _, _, _, _, hg => absurd hg (by omega)
  | f + 1, g + 1, [], nm, d, ps, cs, k, h, _ => by rw [takeC] at h; cases h
  | f + 1, g + 1, p :: l, nm, d, ps, cs, k, h, hg => by
    rw [takeC] at h ⊢
    split at h
    · rename_i h1; rw [if_pos h1]; exact take_fuel f g _ _ _ _ _ _ h (by omega)
    · rename_i h1
      rw [if_neg h1]
      split at h
      · cases h
      · rename_i h2
        rw [if_neg h2]
        split at h
        · rename_i h3; rw [if_pos h3]; exact h
        · rename_i h3
          rw [if_neg h3]
          split at h
          · cases h
          · rename_i h4
            rw [if_neg h4]
            cases hq : takeC f l (upL p.value) (d + 1) [] [] with
            | error e => rw [hq] at h; cases h
            | ok kl =>
              rw [hq] at h
              rw [take_fuel f g _ _ _ _ _ _ hq (by omega)]
              exact take_fuel f g _ _ _ _ _ _ h (by omega)

theorem name_up {nm : List UInt8} (h : nameB nm = true) : upL nm = nm := ((nameB_iff nm).1 h).2.2.2
theorem take_end {nm : List UInt8} (h : nameB nm = true) (rest : List Pro) (d : Nat) (ps : List Pro) (cs : List CM) : takeC 1 (⟨endT, [], nm⟩ :: rest) nm d ps cs = .ok (.mk nm ps cs, rest) := by
  have hu := name_up h
  rw [takeC, if_neg (by intro h; exact h.2 rfl), if_neg (by simp [hu, h]), if_pos rfl, if_neg (by simp [hu])]
theorem take_begin {n2 : List UInt8} (h : nameB n2 = true) {f : Nat} {l l' : List Pro} {nm : List UInt8} {d : Nat} (hd : d ≠ 12) {ps : List Pro} {cs : List CM} {k : CM} (hk : takeC f l n2 (d + 1) [] [] = .ok (k, l')) :
    takeC (f + 1) (⟨beginT, [], n2⟩ :: l) nm d ps cs = takeC f l' nm d ps (cs ++ [k]) := by
  have hu := name_up h
  rw [takeC, if_neg (by intro h; exact h.1 rfl), if_neg (by simp [hu, h]), if_neg (by intro h; exact begin_ne_end h), if_neg hd]
  simp only [hu, hk]
/-- A component's own lines are read as itself. -/
theorem take_ok : ∀ (d : Nat) (nm : List UInt8) (ps : List Pro) (cs : List CM) (depth : Nat) (rest : List Pro), fitC d (.mk nm ps cs) = true → depth + d = 13 → ∃ f, takeC f (ps ++ (prosCs cs ++ (⟨endT, [], nm⟩ :: rest))) nm depth [] [] = .ok (.mk nm ps cs, rest)
  | 0, nm, ps, cs, depth, rest, h, _ => by rw [fitC] at h; cases h
  | d + 1, nm, ps, cs, depth, rest, h, hd => by
    obtain ⟨hn, hp, hc⟩ := fitC_mk h
    have hcs : ∀ (l acc : List CM), (∀ c ∈ l, fitC d c = true) → ∃ f, takeC f (prosCs l ++ (⟨endT, [], nm⟩ :: rest)) nm depth ps acc = .ok (.mk nm ps (acc ++ l), rest) := by
      intro l
      induction l with
      | nil => intro acc _; exact ⟨1, by rw [prosCs, List.nil_append, List.append_nil]; exact take_end hn rest depth ps acc⟩
      | cons c l ih =>
        intro acc hl
        obtain ⟨n2, ps2, cs2⟩ := c
        have h2 := hl _ (List.mem_cons_self ..)
        have hdp : d ≠ 0 := fun e => by subst e; rw [fitC] at h2; cases h2
        have hn2 : nameB n2 = true := by
          obtain ⟨e, rfl⟩ : ∃ e, d = e + 1 := ⟨d - 1, by omega⟩
          exact (fitC_mk h2).1
        obtain ⟨f1, hf1⟩ := take_ok d n2 ps2 cs2 (depth + 1) (prosCs l ++ (⟨endT, [], nm⟩ :: rest)) h2 (by omega)
        obtain ⟨f2, hf2⟩ := ih (acc ++ [.mk n2 ps2 cs2]) (fun c hc => hl c (List.mem_cons_of_mem _ hc))
        refine ⟨max f1 f2 + 1, ?_⟩
        have e : prosCs (.mk n2 ps2 cs2 :: l) ++ (⟨endT, [], nm⟩ :: rest) = ⟨beginT, [], n2⟩ :: (ps2 ++ (prosCs cs2 ++ (⟨endT, [], n2⟩ :: (prosCs l ++ (⟨endT, [], nm⟩ :: rest))))) := by
          rw [prosCs, prosC]; simp
        rw [e, take_begin hn2 (by omega) (take_fuel f1 (max f1 f2) _ _ _ _ _ _ hf1 (Nat.le_max_left ..))]
        have := take_fuel f2 (max f1 f2) _ _ _ _ _ _ hf2 (Nat.le_max_right ..)
        rw [this]; simp
    obtain ⟨f, hf⟩ := hcs cs [] hc
    refine ⟨f + ps.length, ?_⟩
    rw [take_props ps f _ nm depth [] [] hp, List.nil_append, hf]
    simp
theorem nb_noctl {c : UInt8} (h : nbC c = true) : ctlN c.toNat = false := by
  have h1 : nbN c.toNat = true := h
  unfold nbN letN digN at h1
  unfold ctlN
  simp only [Bool.or_eq_true, Bool.and_eq_true, decide_eq_true_eq] at h1
  simp only [Bool.or_eq_false_iff, Bool.and_eq_false_iff, decide_eq_false_iff_not, Bool.not_eq_false', decide_eq_true_eq]
  omega
theorem mark_ok {w nm : List UInt8} (hw : nameB w = true) (h : nameB nm = true) : proOk ⟨w, [], nm⟩ := by
  have h1 := (nameB_iff nm).1 h
  have h2 := (nameB_iff w).1 hw
  refine ⟨h2, by simp, ⟨?_, vld_name h1⟩, (fun x hx => by cases hx), ?_⟩
  · rw [List.all_eq_true]
    intro c hc
    rw [nb_noctl (List.all_eq_true.1 h1.1 c hc)]; rfl
  · have a := h1.2.2.1
    have b := h2.2.2.1
    simp only [textL, List.flatMap_nil, List.nil_append, List.length_append, List.length_cons]
    omega
theorem prop_ok {p : Pro} (h : propB p = true) : proOk p ∧ prnL p = textL p := by
  unfold propB at h
  rw [Bool.and_eq_true] at h
  exact ⟨(fitB_iff p).1 h.1, by unfold prnL; rw [if_pos h.1]⟩
theorem begin_name : nameB beginT = true := by decide
theorem end_name : nameB endT = true := by decide
/-- A component's lines are its properties' texts, each right. -/
theorem lines_pros : ∀ (d : Nat) (c : CM), fitC d c = true → linesC c = (prosC c).map textL ∧ ∀ p ∈ prosC c, proOk p
  | 0, c, h => by cases c; rw [fitC] at h; cases h
  | d + 1, .mk nm ps cs, h => by
    obtain ⟨hn, hp, hc⟩ := fitC_mk h
    have hcs : ∀ l : List CM, (∀ c ∈ l, fitC d c = true) → linesCs l = (prosCs l).map textL ∧ ∀ p ∈ prosCs l, proOk p := by
      intro l
      induction l with
      | nil => intro _; rw [linesCs, prosCs]; exact ⟨rfl, fun p hp => by cases hp⟩
      | cons c l ih =>
        intro hl
        obtain ⟨a1, a2⟩ := lines_pros d c (hl c (List.mem_cons_self ..))
        obtain ⟨b1, b2⟩ := ih (fun c hc => hl c (List.mem_cons_of_mem _ hc))
        rw [linesCs, prosCs, a1, b1, List.map_append]
        exact ⟨rfl, fun p hp => (List.mem_append.1 hp).elim (a2 p) (b2 p)⟩
    obtain ⟨b1, b2⟩ := hcs cs hc
    have hps : ps.map prnL = ps.map textL := List.map_congr_left fun p hq => (prop_ok (hp p hq)).2
    rw [linesC, prosC, hps, b1]
    refine ⟨by simp [textL], fun p hq => ?_⟩
    rcases List.mem_cons.1 hq with e | hq
    · rw [e]; exact mark_ok begin_name hn
    · rcases List.mem_append.1 hq with hq | hq
      · exact (prop_ok (hp p hq)).1
      · rcases List.mem_append.1 hq with hq | hq
        · exact b2 p hq
        · rw [List.mem_singleton.1 hq]; exact mark_ok end_name hn
/-- Lines read one by one, till one is none. -/
def readL : List (List UInt8) → List Pro × Int
  | [] => ([], 0)
  | x :: xs => if (parL x).2 ≠ 0 then ([], (parL x).2) else ((parL x).1 :: (readL xs).1, (readL xs).2)
theorem read_ok : ∀ l : List Pro, (∀ p ∈ l, proOk p) → readL (l.map textL) = (l, 0)
  | [], _ => rfl
  | p :: l, h => by
    have h1 := parse_print (h p (List.mem_cons_self ..))
    have h2 := read_ok l (fun q hq => h q (List.mem_cons_of_mem _ hq))
    rw [List.map_cons, readL, h1, h2, if_neg (by simp)]

end Go.Proofs.YtlfhhnjdfpgadaaDoor

/-
  What Parse tells of a text, and that a component that is written is read as itself: mathematics alone.
-/
namespace Go.Proofs.YtlfhhnjdfpgadaaDoor
open Go.RowKit

theorem take_len : ∀ (f : Nat) (l : List Pro) (nm : List UInt8) (d : Nat) (ps : List Pro) (cs : List CM) (k : CM) (l' : List Pro), takeC f l nm d ps cs = .ok (k, l') → l'.length < l.length
  | 0, _, _, _, _, _, _, _, h => by rw [takeC] at h; cases h
  | f + 1, [], nm, d, ps, cs, k, l', h => by rw [takeC] at h; cases h
  | f + 1, p :: l, nm, d, ps, cs, k, l', h => by
    rw [takeC] at h
    split at h
    · have := take_len f _ _ _ _ _ _ _ h; rw [List.length_cons]; omega
    · split at h
      · cases h
      · split at h
        · split at h
          · cases h
          · injection h with h; injection h with _ h; subst h; simp
        · split at h
          · cases h
          · cases hq : takeC f l (upL p.value) (d + 1) [] [] with
            | error e => rw [hq] at h; cases h
            | ok kl =>
              rw [hq] at h
              have h1 := take_len f _ _ _ _ _ kl.1 kl.2 hq
              have h2 := take_len f _ _ _ _ _ _ _ h
              rw [List.length_cons]; omega
theorem take_need : ∀ (f : Nat) (l : List Pro) (nm : List UInt8) (d : Nat) (ps : List Pro) (cs : List CM) (k : CM × List Pro), takeC f l nm d ps cs = .ok k → takeC (l.length + 1) l nm d ps cs = .ok k
  | 0, _, _, _, _, _, _, h => by rw [takeC] at h; cases h
  | f + 1, [], nm, d, ps, cs, k, h => by rw [takeC] at h; cases h
  | f + 1, p :: l, nm, d, ps, cs, k, h => by
    rw [takeC] at h
    rw [List.length_cons, takeC]
    split at h
    · rename_i h1; rw [if_pos h1]; exact take_need f _ _ _ _ _ _ h
    · rename_i h1
      rw [if_neg h1]
      split at h
      · cases h
      · rename_i h2
        rw [if_neg h2]
        split at h
        · rename_i h3; rw [if_pos h3]; exact h
        · rename_i h3
          rw [if_neg h3]
          split at h
          · cases h
          · rename_i h4
            rw [if_neg h4]
            cases hq : takeC f l (upL p.value) (d + 1) [] [] with
            | error e => rw [hq] at h; cases h
            | ok kl =>
              rw [hq] at h
              have h5 := take_len f _ _ _ _ _ kl.1 kl.2 hq
              rw [take_need f _ _ _ _ _ _ hq]
              exact take_fuel _ _ _ _ _ _ _ _ (take_need f _ _ _ _ _ _ h) (by omega)
/-- What Parse tells of a text. -/
def parC (s : List UInt8) : Except Int CM :=
  if (unfQ s).2 ≠ 0 then .error (unfQ s).2 else
  match readL (unfQ s).1 with
  | ([], bad) => .error (if bad = 0 then 11 else bad)
  | (p :: l, bad) =>
    if p.name ≠ beginT ∨ p.pars ≠ [] ∨ nameB (upL p.value) = false then .error 10 else
    match takeC (l.length + 1) l (upL p.value) 1 [] [] with
    | .error e => .error (if e = 11 ∧ bad ≠ 0 then bad else e)
    | .ok (c, rest) => if rest ≠ [] then .error 10 else if bad ≠ 0 then .error bad else .ok c
def plainC (c : UInt8) : Prop := c ≠ 10 ∧ c ≠ 13
theorem plain_noctl {c : UInt8} (h : ctlN c.toNat = false) : plainC c := by
  constructor
  · intro e; subst e; exact absurd h (by decide)
  · intro e; subst e; exact absurd h (by decide)
theorem plain_quote {v : List UInt8} (h : plainOk v) : ∀ c ∈ quoteL v, plainC c := by
  have hv : ∀ c ∈ v, plainC c := fun c hc => by
    have := List.all_eq_true.1 h.1 c hc
    unfold qvC at this
    simp only [Bool.and_eq_true, Bool.not_eq_true'] at this
    exact plain_noctl this.2
  intro c hc
  unfold quoteL at hc
  split at hc
  · rcases List.mem_cons.1 hc with e | hc
    · rw [e]; exact ⟨by decide, by decide⟩
    · rcases List.mem_append.1 hc with hc | hc
      · exact hv c hc
      · rw [List.mem_singleton.1 hc]; exact ⟨by decide, by decide⟩
  · exact hv c hc
theorem plain_more {vs : List (List UInt8)} (h : ∀ v ∈ vs, plainOk v) : ∀ c ∈ moreL vs, plainC c := by
  intro c hc
  unfold moreL at hc
  obtain ⟨v, hv, hc⟩ := List.mem_flatMap.1 hc
  rcases List.mem_cons.1 hc with e | hc
  · rw [e]; exact ⟨by decide, by decide⟩
  · exact plain_quote (h v hv) c hc
theorem plain_vals {vs : List (List UInt8)} (h : ∀ v ∈ vs, plainOk v) : ∀ c ∈ valsL vs, plainC c := by
  cases vs with
  | nil => intro c hc; cases hc
  | cons v vs =>
    intro c hc
    have hc : c ∈ quoteL v ++ moreL vs := hc
    rcases List.mem_append.1 hc with hc | hc
    · exact plain_quote (h v (List.mem_cons_self ..)) c hc
    · exact plain_more (fun v hv => h v (List.mem_cons_of_mem _ hv)) c hc
theorem plain_name {n : List UInt8} (h : nameOk n) : ∀ c ∈ n, plainC c := fun c hc => plain_noctl (nb_noctl (List.all_eq_true.1 h.1 c hc))
theorem plain_par {x : Par} (h : parOk x) : ∀ c ∈ parT x, plainC c := by
  intro c hc
  unfold parT at hc
  rcases List.mem_cons.1 hc with e | hc
  · rw [e]; exact ⟨by decide, by decide⟩
  · rcases List.mem_append.1 hc with hc | hc
    · exact plain_name h.1 c hc
    · rcases List.mem_cons.1 hc with e | hc
      · rw [e]; exact ⟨by decide, by decide⟩
      · exact plain_vals h.2.2 c hc
theorem plain_text {p : Pro} (h : proOk p) : ∀ c ∈ textL p, plainC c := by
  intro c hc
  unfold textL at hc
  rcases List.mem_append.1 hc with hc | hc
  · exact plain_name h.1 c hc
  · rcases List.mem_append.1 hc with hc | hc
    · obtain ⟨x, hx, hc⟩ := List.mem_flatMap.1 hc
      exact plain_par (h.2.2.2.1 x hx) c hc
    · rcases List.mem_cons.1 hc with e | hc
      · rw [e]; exact ⟨by decide, by decide⟩
      · have := List.all_eq_true.1 h.2.2.1.1 c hc
        simp only [Bool.not_eq_true'] at this
        exact plain_noctl this
theorem line_text {p : Pro} (h : proOk p) : lineOk (textL p) := by
  obtain ⟨a, l, e⟩ : ∃ a l, p.name = a :: l := by
    cases hn : p.name with
    | nil => exact absurd hn h.1.2.1
    | cons a l => exact ⟨a, l, rfl⟩
  have et : textL p = a :: (l ++ (p.pars.flatMap parT ++ 58 :: p.value)) := by unfold textL; rw [e]; rfl
  refine ⟨by rw [et]; simp, h.2.2.2.2, ?_, plain_text h⟩
  have ha : nbC a = true := List.all_eq_true.1 h.1.1 a (by rw [e]; exact List.mem_cons_self ..)
  rw [et]
  unfold goesL
  have a1 : a ≠ 32 := fun e => by subst e; exact absurd ha (by decide)
  have a2 : a ≠ 9 := fun e => by subst e; exact absurd ha (by decide)
  simp [a1, a2]
/-- What is written of a component that can be is read as itself. -/
theorem parC_print {c : CM} (h : fitT c = true) : parC (foldL (linesC c)) = .ok c := by
  unfold fitT at h
  simp only [Bool.and_eq_true, decide_eq_true_eq] at h
  obtain ⟨h1, h2, h3⟩ := h
  obtain ⟨e1, e2⟩ := lines_pros 12 c h1
  have hu : unfQ (foldL (linesC c)) = (linesC c, 0) := unfQ_of (unfold_fold (fun x hx => by
    rw [e1] at hx
    obtain ⟨p, hp, rfl⟩ := List.mem_map.1 hx
    exact line_text (e2 p hp)) h2 h3)
  obtain ⟨nm, ps, cs⟩ := c
  have hn : nameB nm = true := (fitC_mk (d := 11) h1).1
  obtain ⟨f, hf⟩ := take_ok 12 nm ps cs 1 [] h1 (by omega)
  have hr := read_ok _ e2
  rw [← e1] at hr
  unfold parC
  rw [hu]
  simp only [ne_eq, not_true_eq_false, if_false]
  rw [hr, prosC]
  simp only [name_up hn, hn]
  have e : ps ++ (prosCs cs ++ [⟨endT, [], nm⟩]) = ps ++ (prosCs cs ++ (⟨endT, [], nm⟩ :: [])) := rfl
  rw [if_neg (by simp), e, take_need f _ _ _ _ _ _ hf]
  simp

end Go.Proofs.YtlfhhnjdfpgadaaDoor

/-
  A valid text cut ahead of a byte below 128 is two valid texts.
-/
namespace Go.Proofs.YtlfhhnjdfpgadaaDoor
open Go.RowKit

theorem runeL_cut {a b : List UInt8} (h : 0 < a.length) (hb : cont (a ++ b) a.length = false) (hr : runeL (a ++ b) ≠ 0) : runeL a = runeL (a ++ b) ∧ runeL (a ++ b) ≤ a.length := by
  have e0 : byt (a ++ b) 0 = byt a 0 := byt_app h
  have kk : ∀ i, i ≤ a.length → cont (a ++ b) i = true → i + 1 ≤ a.length ∧ cont a i = true ∧ byt (a ++ b) i = byt a i := by
    intro i hi hc
    have hne : i ≠ a.length := fun e => by rw [e, hb] at hc; cases hc
    have hlt : i < a.length := by omega
    have e := byt_app (b := b) hlt
    refine ⟨hlt, ?_, e⟩
    unfold cont at hc ⊢
    rw [e] at hc
    exact hc
  unfold runeL at hr ⊢
  rw [e0] at hr ⊢
  by_cases g0 : byt a 0 < 128
  · rw [if_pos g0, if_pos g0]; exact ⟨rfl, h⟩
  · rw [if_neg g0] at hr ⊢
    rw [if_neg g0]
    by_cases g1 : 194 ≤ byt a 0 ∧ byt a 0 < 224
    · rw [if_pos g1] at hr ⊢
      rw [if_pos g1]
      by_cases c1 : cont (a ++ b) 1 = true
      · obtain ⟨l1, d1, _⟩ := kk 1 h c1
        rw [if_pos c1, if_pos d1]; exact ⟨rfl, l1⟩
      · rw [if_neg c1] at hr; exact absurd rfl hr
    · rw [if_neg g1] at hr ⊢
      rw [if_neg g1]
      by_cases g2 : 224 ≤ byt a 0 ∧ byt a 0 < 240
      · rw [if_pos g2] at hr ⊢
        rw [if_pos g2]
        split at hr
        · rename_i hc
          obtain ⟨l1, d1, e1⟩ := kk 1 h hc.1
          obtain ⟨l2, d2, _⟩ := kk 2 l1 hc.2.1
          rw [if_pos hc, if_pos ⟨d1, d2, by rw [← e1]; exact hc.2.2⟩]; exact ⟨rfl, l2⟩
        · exact absurd rfl hr
      · rw [if_neg g2] at hr ⊢
        rw [if_neg g2]
        by_cases g3 : 240 ≤ byt a 0 ∧ byt a 0 < 245
        · rw [if_pos g3] at hr ⊢
          rw [if_pos g3]
          split at hr
          · rename_i hc
            obtain ⟨l1, d1, e1⟩ := kk 1 h hc.1
            obtain ⟨l2, d2, _⟩ := kk 2 l1 hc.2.1
            obtain ⟨l3, d3, _⟩ := kk 3 l2 hc.2.2.1
            rw [if_pos hc, if_pos ⟨d1, d2, d3, by rw [← e1]; exact hc.2.2.2⟩]; exact ⟨rfl, l3⟩
          · exact absurd rfl hr
        · rw [if_neg g3] at hr; exact absurd rfl hr
theorem nocont {a b : List UInt8} (hb : ∀ c, b.head? = some c → c.toNat < 128) : cont (a ++ b) a.length = false := by
  unfold cont
  have e : byt (a ++ b) a.length = byt b 0 := by
    unfold byt
    rw [List.getD_eq_getElem?_getD, List.getD_eq_getElem?_getD, List.getElem?_append_right (Nat.le_refl _), Nat.sub_self]
  rw [e]
  have h0 : byt b 0 < 128 := by
    unfold byt
    cases b with
    | nil => simp
    | cons c b => simpa using hb c rfl
  rw [decide_eq_false (by omega)]; rfl
theorem vld_cut (n : Nat) : ∀ a b : List UInt8, a.length ≤ n → (∀ c, b.head? = some c → c.toNat < 128) → vld (a ++ b) = true → vld a = true ∧ vld b = true := by
  induction n with
  | zero =>
    intro a b ha hb h
    obtain rfl : a = [] := List.length_eq_zero_iff.1 (by omega)
    exact ⟨vld_nil, by simpa using h⟩
  | succ n ih =>
    intro a b ha hb h
    by_cases h0 : a.length = 0
    · obtain rfl : a = [] := List.length_eq_zero_iff.1 h0
      exact ⟨vld_nil, by simpa using h⟩
    · have hp : 0 < a.length := by omega
      have hp2 : 0 < (a ++ b).length := by rw [List.length_append]; omega
      by_cases hr : runeL (a ++ b) = 0
      · rw [vld_bad hp2 hr] at h; cases h
      · obtain ⟨e, hle⟩ := runeL_cut hp (nocont hb) hr
        rw [vld_step hp2 hr, List.drop_append_of_le_length hle] at h
        obtain ⟨h1, h2⟩ := ih (a.drop (runeL (a ++ b))) b (by rw [List.length_drop]; omega) hb h
        rw [vld_step hp (by rw [e]; exact hr), e]
        exact ⟨h1, h2⟩

end Go.Proofs.YtlfhhnjdfpgadaaDoor
