/-
  What Parse tells of lines, and that a component's own lines are read as itself: mathematics alone.
-/
import Derived.Test.YtlfhhnjdfpgadaaGreatDoorG13
import Derived.Test.YtlfhhnjdfpgadaaGreatDoorG03
namespace Go.Proofs.YtlfhhnjdfpgadaaGreatDoor
open Go.RowKit

/-- A component's lines from a place on, behind its BEGIN: what is read, or why not, and what is left. -/
def takeC : Nat → List Pro → List UInt8 → Nat → List Pro → List CM → Except Int (CM × List Pro)
  | 0, _, _, _, _, _ => .error 11
  | _ + 1, [], _, _, _, _ => .error 11
  | f + 1, p :: l, nm, d, ps, cs =>
    if p.name ≠ beginT ∧ p.name ≠ endT then takeC f l nm d (ps ++ [p]) cs
    else if p.pars ≠ [] ∨ nameB (upL p.value) = false then .error 10
    else if p.name = endT then (if upL p.value ≠ nm then .error 31 else .ok (.mk nm ps cs, l))
    else if d = 12 then .error 24
    else match takeC f l (upL p.value) (d + 1) [] [] with
      | .error e => .error e
      | .ok (k, l') => takeC f l' nm d ps (cs ++ [k])
mutual
def prosC : CM → List Pro
  | .mk nm ps cs => ⟨beginT, [], nm⟩ :: (ps ++ (prosCs cs ++ [⟨endT, [], nm⟩]))
def prosCs : List CM → List Pro
  | [] => []
  | c :: cs => prosC c ++ prosCs cs
end
theorem begin_ne_end : beginT ≠ endT := by decide
theorem take_props : ∀ (ps : List Pro) (f : Nat) (l : List Pro) (nm : List UInt8) (d : Nat) (acc : List Pro) (cs : List CM), (∀ p ∈ ps, propB p = true) → takeC (f + ps.length) (ps ++ l) nm d acc cs = takeC f l nm d (acc ++ ps) cs
  | [], f, l, nm, d, acc, cs, _ => by simp
  | p :: ps, f, l, nm, d, acc, cs, h => by
    have hp := h p (List.mem_cons_self ..)
    have ih := take_props ps f l nm d (acc ++ [p]) cs (fun q hq => h q (List.mem_cons_of_mem _ hq))
    have hb : p.name ≠ beginT ∧ p.name ≠ endT := by
      unfold propB at hp
      simp only [Bool.and_eq_true, Bool.not_eq_true', decide_eq_false_iff_not] at hp
      exact hp.2
    rw [List.length_cons, ← Nat.add_assoc, List.cons_append, takeC, if_pos hb, ih, List.append_assoc]; rfl
theorem fitC_mk {d : Nat} {nm : List UInt8} {ps : List Pro} {cs : List CM} (h : fitC (d + 1) (.mk nm ps cs) = true) : nameB nm = true ∧ (∀ p ∈ ps, propB p = true) ∧ ∀ c ∈ cs, fitC d c = true := by
  rw [fitC, Bool.and_eq_true, Bool.and_eq_true, List.all_eq_true, List.all_eq_true] at h
  exact ⟨h.1, h.2.1, h.2.2⟩
theorem take_fuel : ∀ (f g : Nat) (l : List Pro) (nm : List UInt8) (d : Nat) (ps : List Pro) (cs : List CM) (k : CM × List Pro), takeC f l nm d ps cs = .ok k → f ≤ g → takeC g l nm d ps cs = .ok k
  | 0, _, _, _, _, _, _, _, h, _ => by rw [takeC] at h; cases h
  | f + 1, 0, _, _, _, _, _, _, _, hg => absurd hg (by omega)
  | f + 1, g + 1, [], nm, d, ps, cs, k, h, _ => by rw [takeC] at h; cases h
  | f + 1, g + 1, p :: l, nm, d, ps, cs, k, h, hg => by
    rw [takeC] at h ⊢
    split at h
    · rename_i h1; rw [if_pos h1]; exact take_fuel f g _ _ _ _ _ _ h (by omega)
    · rename_i h1
      rw [if_neg h1]
      split at h
      · cases h
      · rename_i h2
        rw [if_neg h2]
        split at h
        · rename_i h3; rw [if_pos h3]; exact h
        · rename_i h3
          rw [if_neg h3]
          split at h
          · cases h
          · rename_i h4
            rw [if_neg h4]
            cases hq : takeC f l (upL p.value) (d + 1) [] [] with
            | error e => rw [hq] at h; cases h
            | ok kl =>
              rw [hq] at h
              rw [take_fuel f g _ _ _ _ _ _ hq (by omega)]
              exact take_fuel f g _ _ _ _ _ _ h (by omega)

theorem name_up {nm : List UInt8} (h : nameB nm = true) : upL nm = nm := ((nameB_iff nm).1 h).2.2.2
theorem take_end {nm : List UInt8} (h : nameB nm = true) (rest : List Pro) (d : Nat) (ps : List Pro) (cs : List CM) : takeC 1 (⟨endT, [], nm⟩ :: rest) nm d ps cs = .ok (.mk nm ps cs, rest) := by
  have hu := name_up h
  rw [takeC, if_neg (by intro h; exact h.2 rfl), if_neg (by simp [hu, h]), if_pos rfl, if_neg (by simp [hu])]
theorem take_begin {n2 : List UInt8} (h : nameB n2 = true) {f : Nat} {l l' : List Pro} {nm : List UInt8} {d : Nat} (hd : d ≠ 12) {ps : List Pro} {cs : List CM} {k : CM} (hk : takeC f l n2 (d + 1) [] [] = .ok (k, l')) :
    takeC (f + 1) (⟨beginT, [], n2⟩ :: l) nm d ps cs = takeC f l' nm d ps (cs ++ [k]) := by
  have hu := name_up h
  rw [takeC, if_neg (by intro h; exact h.1 rfl), if_neg (by simp [hu, h]), if_neg (by intro h; exact begin_ne_end h), if_neg hd]
  simp only [hu, hk]
/-- A component's own lines are read as itself. -/
theorem take_ok : ∀ (d : Nat) (nm : List UInt8) (ps : List Pro) (cs : List CM) (depth : Nat) (rest : List Pro), fitC d (.mk nm ps cs) = true → depth + d = 13 → ∃ f, takeC f (ps ++ (prosCs cs ++ (⟨endT, [], nm⟩ :: rest))) nm depth [] [] = .ok (.mk nm ps cs, rest)
  | 0, nm, ps, cs, depth, rest, h, _ => by rw [fitC] at h; cases h
  | d + 1, nm, ps, cs, depth, rest, h, hd => by
    obtain ⟨hn, hp, hc⟩ := fitC_mk h
    have hcs : ∀ (l acc : List CM), (∀ c ∈ l, fitC d c = true) → ∃ f, takeC f (prosCs l ++ (⟨endT, [], nm⟩ :: rest)) nm depth ps acc = .ok (.mk nm ps (acc ++ l), rest) := by
      intro l
      induction l with
      | nil => intro acc _; exact ⟨1, by rw [prosCs, List.nil_append, List.append_nil]; exact take_end hn rest depth ps acc⟩
      | cons c l ih =>
        intro acc hl
        obtain ⟨n2, ps2, cs2⟩ := c
        have h2 := hl _ (List.mem_cons_self ..)
        have hdp : d ≠ 0 := fun e => by subst e; rw [fitC] at h2; cases h2
        have hn2 : nameB n2 = true := by
          obtain ⟨e, rfl⟩ : ∃ e, d = e + 1 := ⟨d - 1, by omega⟩
          exact (fitC_mk h2).1
        obtain ⟨f1, hf1⟩ := take_ok d n2 ps2 cs2 (depth + 1) (prosCs l ++ (⟨endT, [], nm⟩ :: rest)) h2 (by omega)
        obtain ⟨f2, hf2⟩ := ih (acc ++ [.mk n2 ps2 cs2]) (fun c hc => hl c (List.mem_cons_of_mem _ hc))
        refine ⟨max f1 f2 + 1, ?_⟩
        have e : prosCs (.mk n2 ps2 cs2 :: l) ++ (⟨endT, [], nm⟩ :: rest) = ⟨beginT, [], n2⟩ :: (ps2 ++ (prosCs cs2 ++ (⟨endT, [], n2⟩ :: (prosCs l ++ (⟨endT, [], nm⟩ :: rest))))) := by
          rw [prosCs, prosC]; simp
        rw [e, take_begin hn2 (by omega) (take_fuel f1 (max f1 f2) _ _ _ _ _ _ hf1 (Nat.le_max_left ..))]
        have := take_fuel f2 (max f1 f2) _ _ _ _ _ _ hf2 (Nat.le_max_right ..)
        rw [this]; simp
    obtain ⟨f, hf⟩ := hcs cs [] hc
    refine ⟨f + ps.length, ?_⟩
    rw [take_props ps f _ nm depth [] [] hp, List.nil_append, hf]
    simp
theorem nb_noctl {c : UInt8} (h : nbC c = true) : ctlN c.toNat = false := by
  have h1 : nbN c.toNat = true := h
  unfold nbN letN digN at h1
  unfold ctlN
  simp only [Bool.or_eq_true, Bool.and_eq_true, decide_eq_true_eq] at h1
  simp only [Bool.or_eq_false_iff, Bool.and_eq_false_iff, decide_eq_false_iff_not, Bool.not_eq_false', decide_eq_true_eq]
  omega
theorem mark_ok {w nm : List UInt8} (hw : nameB w = true) (h : nameB nm = true) : proOk ⟨w, [], nm⟩ := by
  have h1 := (nameB_iff nm).1 h
  have h2 := (nameB_iff w).1 hw
  refine ⟨h2, by simp, ⟨?_, vld_name h1⟩, (fun x hx => by cases hx), ?_⟩
  · rw [List.all_eq_true]
    intro c hc
    rw [nb_noctl (List.all_eq_true.1 h1.1 c hc)]; rfl
  · have a := h1.2.2.1
    have b := h2.2.2.1
    simp only [textL, List.flatMap_nil, List.nil_append, List.length_append, List.length_cons]
    omega
theorem prop_ok {p : Pro} (h : propB p = true) : proOk p ∧ prnL p = textL p := by
  unfold propB at h
  rw [Bool.and_eq_true] at h
  exact ⟨(fitB_iff p).1 h.1, by unfold prnL; rw [if_pos h.1]⟩
theorem begin_name : nameB beginT = true := by decide
theorem end_name : nameB endT = true := by decide
/-- A component's lines are its properties' texts, each right. -/
theorem lines_pros : ∀ (d : Nat) (c : CM), fitC d c = true → linesC c = (prosC c).map textL ∧ ∀ p ∈ prosC c, proOk p
  | 0, c, h => by cases c; rw [fitC] at h; cases h
  | d + 1, .mk nm ps cs, h => by
    obtain ⟨hn, hp, hc⟩ := fitC_mk h
    have hcs : ∀ l : List CM, (∀ c ∈ l, fitC d c = true) → linesCs l = (prosCs l).map textL ∧ ∀ p ∈ prosCs l, proOk p := by
      intro l
      induction l with
      | nil => intro _; rw [linesCs, prosCs]; exact ⟨rfl, fun p hp => by cases hp⟩
      | cons c l ih =>
        intro hl
        obtain ⟨a1, a2⟩ := lines_pros d c (hl c (List.mem_cons_self ..))
        obtain ⟨b1, b2⟩ := ih (fun c hc => hl c (List.mem_cons_of_mem _ hc))
        rw [linesCs, prosCs, a1, b1, List.map_append]
        exact ⟨rfl, fun p hp => (List.mem_append.1 hp).elim (a2 p) (b2 p)⟩
    obtain ⟨b1, b2⟩ := hcs cs hc
    have hps : ps.map prnL = ps.map textL := List.map_congr_left fun p hq => (prop_ok (hp p hq)).2
    rw [linesC, prosC, hps, b1]
    refine ⟨by simp [textL], fun p hq => ?_⟩
    rcases List.mem_cons.1 hq with e | hq
    · rw [e]; exact mark_ok begin_name hn
    · rcases List.mem_append.1 hq with hq | hq
      · exact (prop_ok (hp p hq)).1
      · rcases List.mem_append.1 hq with hq | hq
        · exact b2 p hq
        · rw [List.mem_singleton.1 hq]; exact mark_ok end_name hn
/-- Lines read one by one, till one is none. -/
def readL : List (List UInt8) → List Pro × Int
  | [] => ([], 0)
  | x :: xs => if (parL x).2 ≠ 0 then ([], (parL x).2) else ((parL x).1 :: (readL xs).1, (readL xs).2)
theorem read_ok : ∀ l : List Pro, (∀ p ∈ l, proOk p) → readL (l.map textL) = (l, 0)
  | [], _ => rfl
  | p :: l, h => by
    have h1 := parse_print (h p (List.mem_cons_self ..))
    have h2 := read_ok l (fun q hq => h q (List.mem_cons_of_mem _ hq))
    rw [List.map_cons, readL, h1, h2, if_neg (by simp)]

end Go.Proofs.YtlfhhnjdfpgadaaGreatDoor

/-
  What Parse tells of a text, and that a component that is written is read as itself: mathematics alone.
-/
namespace Go.Proofs.YtlfhhnjdfpgadaaGreatDoor
open Go.RowKit

theorem take_len : ∀ (f : Nat) (l : List Pro) (nm : List UInt8) (d : Nat) (ps : List Pro) (cs : List CM) (k : CM) (l' : List Pro), takeC f l nm d ps cs = .ok (k, l') → l'.length < l.length
  | 0, _, _, _, _, _, _, _, h => by rw [takeC] at h; cases h
  | f + 1, [], nm, d, ps, cs, k, l', h => by rw [takeC] at h; cases h
  | f + 1, p :: l, nm, d, ps, cs, k, l', h => by
    rw [takeC] at h
    split at h
    · have := take_len f _ _ _ _ _ _ _ h; rw [List.length_cons]; omega
    · split at h
      · cases h
      · split at h
        · split at h
          · cases h
          · injection h with h; injection h with _ h; subst h; simp
        · split at h
          · cases h
          · cases hq : takeC f l (upL p.value) (d + 1) [] [] with
            | error e => rw [hq] at h; cases h
            | ok kl =>
              rw [hq] at h
              have h1 := take_len f _ _ _ _ _ kl.1 kl.2 hq
              have h2 := take_len f _ _ _ _ _ _ _ h
              rw [List.length_cons]; omega
theorem take_need : ∀ (f : Nat) (l : List Pro) (nm : List UInt8) (d : Nat) (ps : List Pro) (cs : List CM) (k : CM × List Pro), takeC f l nm d ps cs = .ok k → takeC (l.length + 1) l nm d ps cs = .ok k
  | 0, _, _, _, _, _, _, h => by rw [takeC] at h; cases h
  | f + 1, [], nm, d, ps, cs, k, h => by rw [takeC] at h; cases h
  | f + 1, p :: l, nm, d, ps, cs, k, h => by
    rw [takeC] at h
    rw [List.length_cons, takeC]
    split at h
    · rename_i h1; rw [if_pos h1]; exact take_need f _ _ _ _ _ _ h
    · rename_i h1
      rw [if_neg h1]
      split at h
      · cases h
      · rename_i h2
        rw [if_neg h2]
        split at h
        · rename_i h3; rw [if_pos h3]; exact h
        · rename_i h3
          rw [if_neg h3]
          split at h
          · cases h
          · rename_i h4
            rw [if_neg h4]
            cases hq : takeC f l (upL p.value) (d + 1) [] [] with
            | error e => rw [hq] at h; cases h
            | ok kl =>
              rw [hq] at h
              have h5 := take_len f _ _ _ _ _ kl.1 kl.2 hq
              rw [take_need f _ _ _ _ _ _ hq]
              exact take_fuel _ _ _ _ _ _ _ _ (take_need f _ _ _ _ _ _ h) (by omega)
/-- What Parse tells of a text. -/
def parC (s : List UInt8) : Except Int CM :=
  if (unfQ s).2 ≠ 0 then .error (unfQ s).2 else
  match readL (unfQ s).1 with
  | ([], bad) => .error (if bad = 0 then 11 else bad)
  | (p :: l, bad) =>
    if p.name ≠ beginT ∨ p.pars ≠ [] ∨ nameB (upL p.value) = false then .error 10 else
    match takeC (l.length + 1) l (upL p.value) 1 [] [] with
    | .error e => .error (if e = 11 ∧ bad ≠ 0 then bad else e)
    | .ok (c, rest) => if rest ≠ [] then .error 10 else if bad ≠ 0 then .error bad else .ok c
def plainC (c : UInt8) : Prop := c ≠ 10 ∧ c ≠ 13
theorem plain_noctl {c : UInt8} (h : ctlN c.toNat = false) : plainC c := by
  constructor
  · intro e; subst e; exact absurd h (by decide)
  · intro e; subst e; exact absurd h (by decide)
theorem plain_quote {v : List UInt8} (h : plainOk v) : ∀ c ∈ quoteL v, plainC c := by
  have hv : ∀ c ∈ v, plainC c := fun c hc => by
    have := List.all_eq_true.1 h.1 c hc
    unfold qvC at this
    simp only [Bool.and_eq_true, Bool.not_eq_true'] at this
    exact plain_noctl this.2
  intro c hc
  unfold quoteL at hc
  split at hc
  · rcases List.mem_cons.1 hc with e | hc
    · rw [e]; exact ⟨by decide, by decide⟩
    · rcases List.mem_append.1 hc with hc | hc
      · exact hv c hc
      · rw [List.mem_singleton.1 hc]; exact ⟨by decide, by decide⟩
  · exact hv c hc
theorem plain_more {vs : List (List UInt8)} (h : ∀ v ∈ vs, plainOk v) : ∀ c ∈ moreL vs, plainC c := by
  intro c hc
  unfold moreL at hc
  obtain ⟨v, hv, hc⟩ := List.mem_flatMap.1 hc
  rcases List.mem_cons.1 hc with e | hc
  · rw [e]; exact ⟨by decide, by decide⟩
  · exact plain_quote (h v hv) c hc
theorem plain_vals {vs : List (List UInt8)} (h : ∀ v ∈ vs, plainOk v) : ∀ c ∈ valsL vs, plainC c := by
  cases vs with
  | nil => intro c hc; cases hc
  | cons v vs =>
    intro c hc
    have hc : c ∈ quoteL v ++ moreL vs := hc
    rcases List.mem_append.1 hc with hc | hc
    · exact plain_quote (h v (List.mem_cons_self ..)) c hc
    · exact plain_more (fun v hv => h v (List.mem_cons_of_mem _ hv)) c hc
theorem plain_name {n : List UInt8} (h : nameOk n) : ∀ c ∈ n, plainC c := fun c hc => plain_noctl (nb_noctl (List.all_eq_true.1 h.1 c hc))
theorem plain_par {x : Par} (h : parOk x) : ∀ c ∈ parT x, plainC c := by
  intro c hc
  unfold parT at hc
  rcases List.mem_cons.1 hc with e | hc
  · rw [e]; exact ⟨by decide, by decide⟩
  · rcases List.mem_append.1 hc with hc | hc
    · exact plain_name h.1 c hc
    · rcases List.mem_cons.1 hc with e | hc
      · rw [e]; exact ⟨by decide, by decide⟩
      · exact plain_vals h.2.2 c hc
theorem plain_text {p : Pro} (h : proOk p) : ∀ c ∈ textL p, plainC c := by
  intro c hc
  unfold textL at hc
  rcases List.mem_append.1 hc with hc | hc
  · exact plain_name h.1 c hc
  · rcases List.mem_append.1 hc with hc | hc
    · obtain ⟨x, hx, hc⟩ := List.mem_flatMap.1 hc
      exact plain_par (h.2.2.2.1 x hx) c hc
    · rcases List.mem_cons.1 hc with e | hc
      · rw [e]; exact ⟨by decide, by decide⟩
      · have := List.all_eq_true.1 h.2.2.1.1 c hc
        simp only [Bool.not_eq_true'] at this
        exact plain_noctl this
theorem line_text {p : Pro} (h : proOk p) : lineOk (textL p) := by
  obtain ⟨a, l, e⟩ : ∃ a l, p.name = a :: l := by
    cases hn : p.name with
    | nil => exact absurd hn h.1.2.1
    | cons a l => exact ⟨a, l, rfl⟩
  have et : textL p = a :: (l ++ (p.pars.flatMap parT ++ 58 :: p.value)) := by unfold textL; rw [e]; rfl
  refine ⟨by rw [et]; simp, h.2.2.2.2, ?_, plain_text h⟩
  have ha : nbC a = true := List.all_eq_true.1 h.1.1 a (by rw [e]; exact List.mem_cons_self ..)
  rw [et]
  unfold goesL
  have a1 : a ≠ 32 := fun e => by subst e; exact absurd ha (by decide)
  have a2 : a ≠ 9 := fun e => by subst e; exact absurd ha (by decide)
  simp [a1, a2]
/-- What is written of a component that can be is read as itself. -/
theorem parC_print {c : CM} (h : fitT c = true) : parC (foldL (linesC c)) = .ok c := by
  unfold fitT at h
  simp only [Bool.and_eq_true, decide_eq_true_eq] at h
  obtain ⟨h1, h2, h3⟩ := h
  obtain ⟨e1, e2⟩ := lines_pros 12 c h1
  have hu : unfQ (foldL (linesC c)) = (linesC c, 0) := unfQ_of (unfold_fold (fun x hx => by
    rw [e1] at hx
    obtain ⟨p, hp, rfl⟩ := List.mem_map.1 hx
    exact line_text (e2 p hp)) h2 h3)
  obtain ⟨nm, ps, cs⟩ := c
  have hn : nameB nm = true := (fitC_mk (d := 11) h1).1
  obtain ⟨f, hf⟩ := take_ok 12 nm ps cs 1 [] h1 (by omega)
  have hr := read_ok _ e2
  rw [← e1] at hr
  unfold parC
  rw [hu]
  simp only [ne_eq, not_true_eq_false, if_false]
  rw [hr, prosC]
  simp only [name_up hn, hn]
  have e : ps ++ (prosCs cs ++ [⟨endT, [], nm⟩]) = ps ++ (prosCs cs ++ (⟨endT, [], nm⟩ :: [])) := rfl
  rw [if_neg (by simp), e, take_need f _ _ _ _ _ _ hf]
  simp

end Go.Proofs.YtlfhhnjdfpgadaaGreatDoor

/-
  A valid text cut ahead of a byte below 128 is two valid texts.
-/
namespace Go.Proofs.YtlfhhnjdfpgadaaGreatDoor
open Go.RowKit

theorem runeL_cut {a b : List UInt8} (h : 0 < a.length) (hb : cont (a ++ b) a.length = false) (hr : runeL (a ++ b) ≠ 0) : runeL a = runeL (a ++ b) ∧ runeL (a ++ b) ≤ a.length := by
  have e0 : byt (a ++ b) 0 = byt a 0 := byt_app h
  have kk : ∀ i, i ≤ a.length → cont (a ++ b) i = true → i + 1 ≤ a.length ∧ cont a i = true ∧ byt (a ++ b) i = byt a i := by
    intro i hi hc
    have hne : i ≠ a.length := fun e => by rw [e, hb] at hc; cases hc
    have hlt : i < a.length := by omega
    have e := byt_app (b := b) hlt
    refine ⟨hlt, ?_, e⟩
    unfold cont at hc ⊢
    rw [e] at hc
    exact hc
  unfold runeL at hr ⊢
  rw [e0] at hr ⊢
  by_cases g0 : byt a 0 < 128
  · rw [if_pos g0, if_pos g0]; exact ⟨rfl, h⟩
  · rw [if_neg g0] at hr ⊢
    rw [if_neg g0]
    by_cases g1 : 194 ≤ byt a 0 ∧ byt a 0 < 224
    · rw [if_pos g1] at hr ⊢
      rw [if_pos g1]
      by_cases c1 : cont (a ++ b) 1 = true
      · obtain ⟨l1, d1, _⟩ := kk 1 h c1
        rw [if_pos c1, if_pos d1]; exact ⟨rfl, l1⟩
      · rw [if_neg c1] at hr; exact absurd rfl hr
    · rw [if_neg g1] at hr ⊢
      rw [if_neg g1]
      by_cases g2 : 224 ≤ byt a 0 ∧ byt a 0 < 240
      · rw [if_pos g2] at hr ⊢
        rw [if_pos g2]
        split at hr
        · rename_i hc
          obtain ⟨l1, d1, e1⟩ := kk 1 h hc.1
          obtain ⟨l2, d2, _⟩ := kk 2 l1 hc.2.1
          rw [if_pos hc, if_pos ⟨d1, d2, by rw [← e1]; exact hc.2.2⟩]; exact ⟨rfl, l2⟩
        · exact absurd rfl hr
      · rw [if_neg g2] at hr ⊢
        rw [if_neg g2]
        by_cases g3 : 240 ≤ byt a 0 ∧ byt a 0 < 245
        · rw [if_pos g3] at hr ⊢
          rw [if_pos g3]
          split at hr
          · rename_i hc
            obtain ⟨l1, d1, e1⟩ := kk 1 h hc.1
            obtain ⟨l2, d2, _⟩ := kk 2 l1 hc.2.1
            obtain ⟨l3, d3, _⟩ := kk 3 l2 hc.2.2.1
            rw [if_pos hc, if_pos ⟨d1, d2, d3, by rw [← e1]; exact hc.2.2.2⟩]; exact ⟨rfl, l3⟩
          · exact absurd rfl hr
        · rw [if_neg g3] at hr; exact absurd rfl hr
theorem nocont {a b : List UInt8} (hb : ∀ c, b.head? = some c → c.toNat < 128) : cont (a ++ b) a.length = false := by
  unfold cont
  have e : byt (a ++ b) a.length = byt b 0 := by
    unfold byt
    rw [List.getD_eq_getElem?_getD, List.getD_eq_getElem?_getD, List.getElem?_append_right (Nat.le_refl _), Nat.sub_self]
  rw [e]
  have h0 : byt b 0 < 128 := by
    unfold byt
    cases b with
    | nil => simp
    | cons c b => simpa using hb c rfl
  rw [decide_eq_false (by omega)]; rfl
theorem vld_cut (n : Nat) : ∀ a b : List UInt8, a.length ≤ n → (∀ c, b.head? = some c → c.toNat < 128) → vld (a ++ b) = true → vld a = true ∧ vld b = true := by
  induction n with
  | zero =>
    intro a b ha hb h
    obtain rfl : a = [] := List.length_eq_zero_iff.1 (by omega)
    exact ⟨vld_nil, by simpa using h⟩
  | succ n ih =>
    intro a b ha hb h
    by_cases h0 : a.length = 0
    · obtain rfl : a = [] := List.length_eq_zero_iff.1 h0
      exact ⟨vld_nil, by simpa using h⟩
    · have hp : 0 < a.length := by omega
      have hp2 : 0 < (a ++ b).length := by rw [List.length_append]; omega
      by_cases hr : runeL (a ++ b) = 0
      · rw [vld_bad hp2 hr] at h; cases h
      · obtain ⟨e, hle⟩ := runeL_cut hp (nocont hb) hr
        rw [vld_step hp2 hr, List.drop_append_of_le_length hle] at h
        obtain ⟨h1, h2⟩ := ih (a.drop (runeL (a ++ b))) b (by rw [List.length_drop]; omega) hb h
        rw [vld_step hp (by rw [e]; exact hr), e]
        exact ⟨h1, h2⟩

end Go.Proofs.YtlfhhnjdfpgadaaGreatDoor

/-
  What Parse reads of a line is a property that can be, and its text is no longer: mathematics alone.
-/
namespace Go.Proofs.YtlfhhnjdfpgadaaGreatDoor
open Go.RowKit

theorem vld_byte {c : UInt8} {l : List UInt8} (hc : c.toNat < 128) : vld (c :: l) = vld l := by
  have h1 : runeL (c :: l) = 1 := by
    unfold runeL
    have e : byt (c :: l) 0 = c.toNat := by simp [byt]
    rw [e, if_pos hc]
  rw [vld_step (by simp) (by omega), h1]; rfl
theorem vld_bytes : ∀ (t l : List UInt8), (∀ c ∈ t, c.toNat < 128) → vld (t ++ l) = vld l
  | [], l, _ => rfl
  | c :: t, l, h => by
    rw [List.cons_append, vld_byte (h c (List.mem_cons_self ..))]
    exact vld_bytes t l (fun d hd => h d (List.mem_cons_of_mem _ hd))
theorem up_nb {c : UInt8} (h : nbC c = true) : nbC (upC c) = true ∧ upC (upC c) = upC c := by
  have hn : nbN c.toNat = true := h
  have hlt := c.toNat_lt
  have e1 : (upC c).toNat = upN c.toNat := by
    unfold upC
    have : upN c.toNat < 256 := by unfold upN; split <;> omega
    simp [UInt8.toNat_ofNat', Nat.mod_eq_of_lt this]
  have e2 : upN (upN c.toNat) = upN c.toNat := by unfold upN; split <;> (try split) <;> omega
  constructor
  · show nbN (upC c).toNat = true
    rw [e1]
    unfold nbN letN digN at hn ⊢
    simp only [Bool.or_eq_true, Bool.and_eq_true, decide_eq_true_eq] at hn ⊢
    unfold upN
    split <;> omega
  · apply UInt8.toNat_inj.1
    show (UInt8.ofNat (upN (upC c).toNat)).toNat = _
    rw [e1, e2]
    exact e1
theorem dropW {f : UInt8 → Bool} : ∀ l : List UInt8, l.drop (l.takeWhile f).length = l.dropWhile f
  | [] => rfl
  | c :: l => by
    by_cases h : f c = true
    · rw [List.takeWhile_cons_of_pos h, List.dropWhile_cons_of_pos h, List.length_cons, List.drop_succ_cons]; exact dropW l
    · rw [List.takeWhile_cons_of_neg h, List.dropWhile_cons_of_neg h]; rfl
theorem take_drop {f : UInt8 → Bool} (l : List UInt8) : l = l.takeWhile f ++ l.drop (l.takeWhile f).length := by
  have h := (List.takeWhile_append_dropWhile (p := f) (l := l)).symm
  rw [dropW l]; exact h
theorem drop_head {f : UInt8 → Bool} {l : List UInt8} {c : UInt8} (h : (l.drop (l.takeWhile f).length).head? = some c) : f c = false := by
  rw [dropW l] at h
  have := List.head?_dropWhile_not f l
  rw [h] at this
  simpa using this
theorem all_take {f : UInt8 → Bool} (l : List UInt8) : (l.takeWhile f).all f = true := List.all_takeWhile
theorem rdName_snd {l n r : List UInt8} (h : rdName l = .ok n r) (hv : vld l = true) : nameOk n ∧ vld r = true ∧ n.length + r.length = l.length := by
  unfold rdName at h
  split at h
  · cases h
  · rename_i h1
    split at h
    · cases h
    · rename_i h2
      injection h with ha hb
      have ht := take_drop (f := nbC) l
      have hall := all_take (f := nbC) l
      generalize l.takeWhile nbC = t at *
      subst ha hb
      have hnb := List.all_eq_true.1 hall
      refine ⟨⟨?_, ?_, ?_, ?_⟩, ?_, ?_⟩
      · rw [List.all_eq_true]
        intro c hc
        unfold upL at hc
        obtain ⟨d, hd, rfl⟩ := List.mem_map.1 hc
        exact (up_nb (hnb d hd)).1
      · unfold upL; simpa using h2
      · unfold upL; rw [List.length_map]; omega
      · unfold upL
        rw [List.map_map]
        exact List.map_congr_left fun d hd => (up_nb (hnb d hd)).2
      · rw [ht, vld_bytes t _ (fun c hc => nb_ascii (hnb c hc))] at hv
        exact hv
      · unfold upL
        rw [List.length_map]
        have := congrArg List.length ht
        rw [List.length_append] at this
        omega
theorem rdVal_snd {l v r : List UInt8} (h : rdVal l = .ok v r) (hv : vld l = true) : plainOk v ∧ vld r = true ∧ (quoteL v).length + r.length ≤ l.length := by
  unfold rdVal at h
  split at h
  · rename_i h1
    obtain ⟨m, rfl⟩ : ∃ m, l = 34 :: m := by
      cases l with
      | nil => cases h1
      | cons a m => simp only [List.head?_cons, Option.some.injEq] at h1; exact ⟨m, by rw [h1]⟩
    rw [vld_byte (by decide)] at hv
    rw [List.drop_succ_cons, List.drop_zero] at h
    unfold rdQuoted at h
    split at h
    · rename_i h2
      injection h with ha hb
      have ht := take_drop (f := qvC) m
      have hall := all_take (f := qvC) m
      have hdd : m.drop ((m.takeWhile qvC).length + 1) = (m.drop (m.takeWhile qvC).length).drop 1 := by rw [List.drop_drop]
      rw [hdd] at hb
      generalize m.takeWhile qvC = t at *
      generalize m.drop t.length = u at *
      obtain ⟨u', rfl⟩ : ∃ u', u = 34 :: u' := by
        cases u with
        | nil => cases h2
        | cons a m => simp only [List.head?_cons, Option.some.injEq] at h2; exact ⟨m, by rw [h2]⟩
      subst ha
      rw [List.drop_succ_cons, List.drop_zero] at hb
      subst hb
      rw [ht] at hv
      obtain ⟨a1, a2⟩ := vld_cut _ t (34 :: u') (Nat.le_refl _) (fun c hc => by simp only [List.head?_cons, Option.some.injEq] at hc; rw [← hc]; decide) hv
      rw [vld_byte (by decide)] at a2
      refine ⟨⟨hall, a1⟩, a2, ?_⟩
      have := quoteL_len t
      have e := congrArg List.length ht
      simp only [List.length_append, List.length_cons] at e ⊢
      omega
    · cases h
  · injection h with ha hb
    have ht := take_drop (f := uvC) l
    have hall := all_take (f := uvC) l
    have hd := fun c hc => drop_head (f := uvC) (l := l) (c := c) hc
    generalize l.takeWhile uvC = t at *
    subst ha
    rw [hb] at ht hd
    rw [ht] at hv
    obtain ⟨a1, a2⟩ := vld_cut _ t r (Nat.le_refl _) (fun c hc => by
      have := hd c hc
      unfold uvC qvC ctlN at this
      simp only [Bool.and_eq_false_iff, Bool.not_eq_false', Bool.or_eq_true, Bool.and_eq_true, decide_eq_true_eq] at this
      omega) hv
    have hu := List.all_eq_true.1 hall
    have hns : hasSep t = false := by
      unfold hasSep
      rw [List.any_eq_false]
      intro c hc
      have := hu c hc
      unfold uvC at this
      simp only [Bool.and_eq_true, Bool.not_eq_true', decide_eq_false_iff_not] at this
      simp only [Bool.or_eq_true, decide_eq_true_eq]
      omega
    refine ⟨⟨?_, a1⟩, a2, ?_⟩
    · rw [List.all_eq_true]
      intro c hc
      have := hu c hc
      unfold uvC at this
      rw [Bool.and_eq_true] at this
      exact this.1
    · unfold quoteL
      rw [hns]
      have e := congrArg List.length ht
      rw [List.length_append] at e
      simp only [Bool.false_eq_true, if_false]
      omega

theorem head_cons {l : List UInt8} {c : UInt8} (h : l.head? = some c) : ∃ m, l = c :: m := by
  cases l with
  | nil => cases h
  | cons a m => simp only [List.head?_cons, Option.some.injEq] at h; exact ⟨m, by rw [h]⟩
theorem rdMore_snd : ∀ (f : Nat) (l : List UInt8) (vs ws : List (List UInt8)) (r : List UInt8), rdMore f l vs = .ok ws r → vld l = true → ∃ us, ws = vs ++ us ∧ (∀ u ∈ us, plainOk u) ∧ vld r = true ∧ (moreL us).length + r.length ≤ l.length
  | 0, l, vs, ws, r, h, hv => by
    rw [rdMore] at h
    injection h with ha hb
    subst ha hb
    exact ⟨[], by simp, (fun u hu => by cases hu), hv, by simp [moreL]⟩
  | f + 1, l, vs, ws, r, h, hv => by
    rw [rdMore] at h
    split at h
    · rename_i h1
      obtain ⟨m, rfl⟩ := head_cons h1
      rw [vld_byte (by decide)] at hv
      rw [List.drop_succ_cons, List.drop_zero] at h
      cases hq : rdVal m with
      | bad e => rw [hq] at h; cases h
      | ok v r1 =>
        rw [hq] at h
        obtain ⟨a1, a2, a3⟩ := rdVal_snd hq hv
        obtain ⟨us, b1, b2, b3, b4⟩ := rdMore_snd f r1 (vs ++ [v]) ws r h a2
        refine ⟨v :: us, by rw [b1]; simp, fun u hu => ?_, b3, ?_⟩
        · rcases List.mem_cons.1 hu with e | hu
          · rw [e]; exact a1
          · exact b2 u hu
        · rw [moreL_cons]
          simp only [List.length_cons, List.length_append]
          omega
    · injection h with ha hb
      subst ha hb
      exact ⟨[], by simp, (fun u hu => by cases hu), hv, by simp [moreL]⟩
theorem rdPar_snd {l r : List UInt8} {p : Par} (h : rdPar l = .ok p r) (hv : vld l = true) : parOk p ∧ vld r = true ∧ (parT p).length + r.length ≤ l.length + 1 := by
  unfold rdPar at h
  cases hn : rdName l with
  | bad e => rw [hn] at h; cases h
  | ok n r1 =>
    rw [hn] at h
    obtain ⟨a1, a2, a3⟩ := rdName_snd hn hv
    dsimp only at h
    split at h
    · rename_i h1
      obtain ⟨m, rfl⟩ := head_cons h1
      rw [vld_byte (by decide)] at a2
      rw [List.drop_succ_cons, List.drop_zero] at h
      cases hq : rdVal m with
      | bad e => rw [hq] at h; cases h
      | ok v r2 =>
        rw [hq] at h
        dsimp only at h
        obtain ⟨b1, b2, b3⟩ := rdVal_snd hq a2
        cases hm : rdMore r2.length r2 [v] with
        | bad e => rw [hm] at h; cases h
        | ok vs r3 =>
          rw [hm] at h
          injection h with ha hb
          subst ha hb
          obtain ⟨us, c1, c2, c3, c4⟩ := rdMore_snd _ _ _ _ _ hm b2
          subst c1
          refine ⟨⟨a1, by simp, fun u hu => ?_⟩, c3, ?_⟩
          · rcases List.mem_append.1 hu with hu | hu
            · rw [List.mem_singleton.1 hu]; exact b1
            · exact c2 u hu
          · have e : valsL ([v] ++ us) = quoteL v ++ moreL us := rfl
            unfold parT
            simp only [e, List.length_cons, List.length_append] at a3 ⊢
            omega
    · cases h
theorem rdPars_snd : ∀ (f : Nat) (l : List UInt8) (ps qs : List Par) (r : List UInt8), rdPars f l ps = .ok qs r → vld l = true → ps.length ≤ 16 → ∃ us, qs = ps ++ us ∧ (∀ u ∈ us, parOk u) ∧ qs.length ≤ 16 ∧ vld r = true ∧ (us.flatMap parT).length + r.length ≤ l.length
  | 0, l, ps, qs, r, h, hv, hl => by
    rw [rdPars] at h
    injection h with ha hb
    subst ha hb
    exact ⟨[], by simp, (fun u hu => by cases hu), hl, hv, by simp⟩
  | f + 1, l, ps, qs, r, h, hv, hl => by
    rw [rdPars] at h
    split at h
    · rename_i h1
      obtain ⟨m, rfl⟩ := head_cons h1
      rw [vld_byte (by decide)] at hv
      rw [List.drop_succ_cons, List.drop_zero] at h
      split at h
      · cases h
      · rename_i h2
        cases hq : rdPar m with
        | bad e => rw [hq] at h; cases h
        | ok p r1 =>
          rw [hq] at h
          obtain ⟨a1, a2, a3⟩ := rdPar_snd hq hv
          obtain ⟨us, b1, b2, b3, b4, b5⟩ := rdPars_snd f r1 (ps ++ [p]) qs r h a2 (by rw [List.length_append, List.length_singleton]; omega)
          refine ⟨p :: us, by rw [b1]; simp, fun u hu => ?_, b3, b4, ?_⟩
          · rcases List.mem_cons.1 hu with e | hu
            · rw [e]; exact a1
            · exact b2 u hu
          · rw [List.flatMap_cons, List.length_append, List.length_cons]
            omega
    · injection h with ha hb
      subst ha hb
      exact ⟨[], by simp, (fun u hu => by cases hu), hl, hv, by simp⟩
theorem rdName_nz {l : List UInt8} {e : Int} (h : rdName l = .bad e) : e ≠ 0 := by
  unfold rdName at h
  split at h
  · injection h with h; subst h; decide
  · split at h
    · injection h with h; subst h; exact eoE_pos _
    · cases h
theorem rdVal_nz {l : List UInt8} {e : Int} (h : rdVal l = .bad e) : e ≠ 0 := by
  unfold rdVal at h
  split at h
  · unfold rdQuoted at h
    split at h
    · cases h
    · injection h with h; subst h; exact eoE_pos _
  · cases h
theorem rdMore_nz : ∀ (f : Nat) (l : List UInt8) (vs : List (List UInt8)) (e : Int), rdMore f l vs = .bad e → e ≠ 0
  | 0, l, vs, e, h => by rw [rdMore] at h; cases h
  | f + 1, l, vs, e, h => by
    rw [rdMore] at h
    split at h
    · cases hq : rdVal (l.drop 1) with
      | bad e2 => rw [hq] at h; injection h with h; subst h; exact rdVal_nz hq
      | ok v r => rw [hq] at h; exact rdMore_nz f _ _ _ h
    · cases h
theorem rdPar_nz {l : List UInt8} {e : Int} (h : rdPar l = .bad e) : e ≠ 0 := by
  unfold rdPar at h
  cases hn : rdName l with
  | bad e2 => rw [hn] at h; injection h with h; subst h; exact rdName_nz hn
  | ok n r =>
    rw [hn] at h
    dsimp only at h
    split at h
    · cases hq : rdVal (r.drop 1) with
      | bad e2 => rw [hq] at h; injection h with h; subst h; exact rdVal_nz hq
      | ok v r2 =>
        rw [hq] at h
        dsimp only at h
        cases hm : rdMore r2.length r2 [v] with
        | bad e2 => rw [hm] at h; injection h with h; subst h; exact rdMore_nz _ _ _ _ hm
        | ok vs r3 => rw [hm] at h; cases h
    · injection h with h; subst h; exact eoE_pos _
theorem rdPars_nz : ∀ (f : Nat) (l : List UInt8) (ps : List Par) (e : Int), rdPars f l ps = .bad e → e ≠ 0
  | 0, l, ps, e, h => by rw [rdPars] at h; cases h
  | f + 1, l, ps, e, h => by
    rw [rdPars] at h
    split at h
    · split at h
      · injection h with h; subst h; decide
      · cases hq : rdPar (l.drop 1) with
        | bad e2 => rw [hq] at h; injection h with h; subst h; exact rdPar_nz hq
        | ok v r => rw [hq] at h; exact rdPars_nz f _ _ _ h
    · cases h
theorem rdRest_nz {l : List UInt8} {e : Int} (h : rdRest l = .bad e) : e ≠ 0 := by
  unfold rdRest at h
  cases hn : rdName l with
  | bad e2 => rw [hn] at h; injection h with h; subst h; exact rdName_nz hn
  | ok n r =>
    rw [hn] at h
    dsimp only at h
    cases hp : rdPars r.length r [] with
    | bad e2 => rw [hp] at h; injection h with h; subst h; exact rdPars_nz _ _ _ _ hp
    | ok ps r2 =>
      rw [hp] at h
      dsimp only at h
      split at h
      · split at h
        · cases h
        · injection h with h; subst h; decide
      · injection h with h; subst h; exact eoE_pos _
/-- What is read of a line is a property that can be; its text is no longer than the line. -/
theorem parL_snd {l : List UInt8} {p : Pro} (h : parL l = (p, 0)) : proOk p ∧ (textL p).length ≤ l.length := by
  unfold parL at h
  split at h
  · injection h with _ h; cases h
  · rename_i h1
    split at h
    · rename_i hv
      cases hr : rdRest l with
      | bad e =>
        rw [hr] at h
        injection h with _ h
        exact absurd h (rdRest_nz hr)
      | ok q r =>
        rw [hr] at h
        injection h with h _
        subst h
        unfold rdRest at hr
        cases hn : rdName l with
        | bad e => rw [hn] at hr; cases hr
        | ok n r1 =>
          rw [hn] at hr
          obtain ⟨a1, a2, a3⟩ := rdName_snd hn hv
          dsimp only at hr
          cases hp : rdPars r1.length r1 [] with
          | bad e => rw [hp] at hr; cases hr
          | ok ps r2 =>
            rw [hp] at hr
            obtain ⟨us, b1, b2, b3, b4, b5⟩ := rdPars_snd _ _ _ _ _ hp a2 (by simp)
            rw [List.nil_append] at b1
            subst b1
            dsimp only at hr
            split at hr
            · rename_i h2
              obtain ⟨m, rfl⟩ := head_cons h2
              rw [vld_byte (by decide)] at b4
              rw [List.drop_succ_cons, List.drop_zero] at hr
              split at hr
              · rename_i h3
                injection hr with ha _
                subst ha
                have hl : (textL ⟨n, ps, m⟩).length ≤ l.length := by
                  unfold textL
                  simp only [List.length_append, List.length_cons] at b5 ⊢
                  omega
                exact ⟨⟨a1, b3, ⟨h3, b4⟩, b2, by omega⟩, hl⟩
              · cases hr
            · cases hr
    · injection h with _ h; cases h

end Go.Proofs.YtlfhhnjdfpgadaaGreatDoor
