/-
  What is read of a text of at most 3000 bytes can be: mathematics alone.
-/
import Derived.Test.YtlfhhnjdfpgadaaGreatDoorG14
import Derived.Test.YtlfhhnjdfpgadaaGreatDoorG12
namespace Go.Proofs.YtlfhhnjdfpgadaaGreatDoor
open Go.RowKit

def tl (l : List Pro) : Nat := lsum (l.map textL)
theorem tl_app (a b : List Pro) : tl (a ++ b) = tl a + tl b := by unfold tl; rw [List.map_append, lsum_app]
theorem tl_cons (p : Pro) (l : List Pro) : tl (p :: l) = (textL p).length + 1 + tl l := by unfold tl; simp [lsum]
theorem prosCs_snoc : ∀ (l : List CM) (x : CM), prosCs (l ++ [x]) = prosCs l ++ prosC x
  | [], x => by simp [prosCs]
  | c :: l, x => by simp [prosCs, prosCs_snoc l x]
theorem mark_len (w v : List UInt8) : (textL ⟨w, [], upL v⟩).length = (textL ⟨w, [], v⟩).length := by simp [textL, upL]
theorem pro_eta {p : Pro} {w : List UInt8} (h : p.name = w) (h2 : p.pars = []) : p = ⟨w, [], p.value⟩ := by cases p; simp_all
theorem prop_of {p : Pro} (h : proOk p) (h1 : p.name ≠ beginT ∧ p.name ≠ endT) : propB p = true := by
  unfold propB
  rw [(fitB_iff p).2 h, decide_eq_false h1.1, decide_eq_false h1.2]; rfl
theorem take_snd : ∀ (f : Nat) (l : List Pro) (nm : List UInt8) (d : Nat) (ps : List Pro) (cs : List CM) (k : CM) (l' : List Pro), takeC f l nm d ps cs = .ok (k, l') → (∀ p ∈ l, proOk p) → nameB nm = true → d ≤ 12 → (∀ p ∈ ps, propB p = true) → (∀ c ∈ cs, fitC (12 - d) c = true) →
    fitC (13 - d) k = true ∧ (∀ p ∈ l', proOk p) ∧ tl (prosC k) + tl l' = tl (⟨beginT, [], nm⟩ :: (ps ++ prosCs cs)) + tl l ∧ (prosC k).length + l'.length = 1 + ps.length + (prosCs cs).length + l.length
  | 0, _, _, _, _, _, _, _, h, _, _, _, _, _ => by rw [takeC] at h; cases h
  | f + 1, [], nm, d, ps, cs, k, l', h, _, _, _, _, _ => by rw [takeC] at h; cases h
  | f + 1, p :: l, nm, d, ps, cs, k, l', h, hl, hn, hd, hps, hcs => by
    have hp := hl p (List.mem_cons_self ..)
    have hl2 := fun q hq => hl q (List.mem_cons_of_mem p hq)
    rw [takeC] at h
    split at h
    · rename_i h1
      obtain ⟨a1, a2, a3, a4⟩ := take_snd f l nm d (ps ++ [p]) cs k l' h hl2 hn hd (fun q hq => by
        rcases List.mem_append.1 hq with hq | hq
        · exact hps q hq
        · rw [List.mem_singleton.1 hq]; exact prop_of hp h1) hcs
      refine ⟨a1, a2, ?_, ?_⟩
      · rw [a3]
        have hnil : tl [] = 0 := rfl
        simp only [tl_cons, tl_app, hnil]
        omega
      · rw [a4]; simp only [List.length_append, List.length_cons, List.length_nil]; omega
    · rename_i h1
      split at h
      · cases h
      · rename_i h2
        have h2a : p.pars = [] := Classical.byContradiction fun x => h2 (.inl x)
        have h2b : nameB (upL p.value) = true := by
          cases hx : nameB (upL p.value) with
          | true => rfl
          | false => exact absurd (.inr hx) h2
        split at h
        · rename_i h3
          split at h
          · cases h
          · rename_i h4
            have h4 : upL p.value = nm := Classical.byContradiction h4
            injection h with h
            injection h with ha hb
            subst ha hb
            have hpe := pro_eta h3 h2a
            have hlen : (textL p).length = (textL ⟨endT, [], nm⟩).length := by
              rw [← h4, mark_len, ← hpe]
            refine ⟨?_, hl2, ?_, ?_⟩
            · obtain ⟨e, he⟩ : ∃ e, 13 - d = e + 1 := ⟨12 - d, by omega⟩
              have he2 : 12 - d = e := by omega
              rw [he2] at hcs
              rw [he, fitC, hn, List.all_eq_true.2 hps, List.all_eq_true.2 hcs]; rfl
            · rw [prosC]
              simp only [tl_cons, tl_app, hlen]
              simp only [tl, List.map_nil, lsum, List.sum_nil]
              omega
            · rw [prosC]
              simp only [List.length_append, List.length_cons, List.length_nil]
              omega
        · rename_i h3
          have h5 : p.name = beginT := Classical.byContradiction fun x => h1 ⟨x, h3⟩
          split at h
          · cases h
          · rename_i h4
            cases hq : takeC f l (upL p.value) (d + 1) [] [] with
            | error e => rw [hq] at h; cases h
            | ok kl =>
              obtain ⟨k1, l1⟩ := kl
              rw [hq] at h
              obtain ⟨a1, a2, a3, a4⟩ := take_snd f l (upL p.value) (d + 1) [] [] k1 l1 hq hl2 h2b (by omega) (fun q hq => by cases hq) (fun q hq => by cases hq)
              have hdd : 13 - (d + 1) = 12 - d := by omega
              rw [hdd] at a1
              obtain ⟨b1, b2, b3, b4⟩ := take_snd f l1 nm d ps (cs ++ [k1]) k l' h a2 hn hd hps (fun c hc => by
                rcases List.mem_append.1 hc with hc | hc
                · exact hcs c hc
                · rw [List.mem_singleton.1 hc]; exact a1)
              have hpe := pro_eta h5 h2a
              have hlen : (textL p).length = (textL ⟨beginT, [], upL p.value⟩).length := by
                rw [mark_len, ← hpe]
              rw [prosCs_snoc] at b3 b4
              refine ⟨b1, b2, ?_, ?_⟩
              · simp only [tl_cons, tl_app, List.nil_append, prosCs] at a3 b3 ⊢
                have hnil : tl [] = 0 := rfl
                omega
              · simp only [List.length_append, List.length_cons, List.length_nil, prosCs] at a4 b4 ⊢
                omega
theorem foldF_23 : ∀ (f : Nat) (l : List UInt8) (n : Nat), 23 * (foldF f l n).length ≤ 24 * l.length + n
  | 0, l, n => by simp [foldF]
  | f + 1, l, n => by
    rw [foldF]
    split
    · simp
    · rename_i h
      have h1 := stepL_pos l
      have h2 := stepL_le h
      have h3 := foldF_23 f (l.drop (stepL l)) (1 + stepL l)
      have h4 := foldF_23 f (l.drop (stepL l)) (n + stepL l)
      simp only [List.length_drop] at h3 h4
      split <;> simp only [List.length_cons, List.length_append, List.length_take] <;> omega
theorem foldL_47 : ∀ ls : List (List UInt8), (∀ x ∈ ls, x ≠ []) → 23 * (foldL ls).length ≤ 47 * lsum ls
  | [], _ => by simp [foldL, lsum]
  | x :: ls, h => by
    have ih := foldL_47 ls (fun y hy => h y (List.mem_cons_of_mem _ hy))
    have hx : 0 < x.length := List.length_pos_iff.2 (h x (List.mem_cons_self ..))
    have h1 := foldF_23 x.length x 0
    have e : foldL (x :: ls) = lineF x ++ foldL ls := by simp [foldL]
    have e2 : lsum (x :: ls) = x.length + 1 + lsum ls := by simp [lsum]
    have e3 : (lineF x).length = (foldF x.length x 0).length + 2 := by simp [lineF]
    rw [e, e2, List.length_append, e3]
    omega
theorem strip_lenC (a : List UInt8) : (stripL a).length ≤ a.length := by
  unfold stripL
  split
  · rw [List.length_dropLast]; omega
  · exact Nat.le_refl _
theorem raw_sum : ∀ (s acc : List UInt8), lsum (rawG s acc) ≤ acc.length + s.length + 1
  | [], acc => by
    rw [rawG]
    split
    · simp [lsum]
    · simp [lsum]
  | c :: s, acc => by
    rw [rawG]
    split
    · have h1 := raw_sum s []
      have h2 := strip_lenC acc
      have e : lsum (stripL acc :: rawG s []) = (stripL acc).length + 1 + lsum (rawG s []) := by simp [lsum]
      rw [e, List.length_cons]
      simp only [List.length_nil] at h1
      omega
    · have h1 := raw_sum s (acc ++ [c])
      rw [List.length_append, List.length_singleton] at h1
      rw [List.length_cons]; omega

theorem lsum_one (x : List UInt8) : lsum [x] = x.length + 1 := by simp [lsum]
theorem last_split : ∀ (out : List (List UInt8)), out ≠ [] → out = out.dropLast ++ [out.getLastD []]
  | [], h => absurd rfl h
  | [x], _ => rfl
  | x :: y :: l, _ => by
    have ih := last_split (y :: l) (by simp)
    have e1 : (x :: y :: l).dropLast = x :: (y :: l).dropLast := rfl
    have e2 : (x :: y :: l).getLastD [] = (y :: l).getLastD [] := by simp [List.getLastD]
    rw [e1, e2, List.cons_append, ← ih]
theorem join_sum : ∀ (xs out ls : List (List UInt8)), joinP xs out = some ls → lsum ls ≤ lsum out + lsum xs
  | [], out, ls, h => by
    rw [joinP] at h
    injection h with h
    subst h
    omega
  | x :: xs, out, ls, h => by
    have ex : lsum (x :: xs) = x.length + 1 + lsum xs := by simp [lsum]
    rw [joinP] at h
    split at h
    · have := join_sum xs _ ls h
      rw [lsum_app, lsum_one] at this
      omega
    · split at h
      · cases h
      · rename_i hne
        have hs := last_split out hne
        have hw := congrArg lsum hs
        rw [lsum_app, lsum_one] at hw
        have := join_sum xs _ ls h
        rw [lsum_app, lsum_one, List.length_append, List.length_drop] at this
        omega
theorem chk_fine : ∀ (l : List (List UInt8)) (i : Nat), i ≤ 400 → chkP i l = 0 → i + l.length ≤ 400 ∧ ∀ x ∈ l, x ≠ []
  | [], i, hi, _ => ⟨by simpa using hi, fun x hx => by cases hx⟩
  | x :: xs, i, hi, h => by
    rw [chkP] at h
    split at h
    · cases h
    · rename_i hx
      split at h
      · cases h
      · rename_i h4
        split at h
        · cases h
        · obtain ⟨a, b⟩ := chk_fine xs (i + 1) (by omega) h
          refine ⟨by rw [List.length_cons]; omega, fun y hy => ?_⟩
          rcases List.mem_cons.1 hy with rfl | hy
          · exact hx
          · exact b y hy
theorem unfQ_snd {s : List UInt8} {ls : List (List UInt8)} (h : unfQ s = (ls, 0)) : lsum ls ≤ s.length + 1 ∧ ls.length ≤ 400 ∧ ∀ x ∈ ls, x ≠ [] := by
  have hr := raw_sum s []
  simp only [List.length_nil] at hr
  unfold unfQ at h
  split at h
  · injection h with _ h; cases h
  · split at h
    · injection h with _ h; cases h
    · rename_i l hj
      split at h
      · rename_i hc
        injection h with h _
        subst h
        obtain ⟨a, b⟩ := chk_fine l 0 (by omega) hc
        have := join_sum _ _ _ hj
        have e : lsum [] = 0 := rfl
        exact ⟨by omega, by omega, b⟩
      · rename_i hc
        injection h with _ h
        exact absurd h hc
theorem read_snd : ∀ (ls : List (List UInt8)) (l : List Pro), readL ls = (l, 0) → (∀ p ∈ l, proOk p) ∧ tl l ≤ lsum ls ∧ l.length = ls.length
  | [], l, h => by
    rw [readL] at h
    injection h with h _
    subst h
    exact ⟨(fun p hp => by cases hp), Nat.le_refl _, rfl⟩
  | x :: xs, l, h => by
    rw [readL] at h
    split at h
    · rename_i h1
      injection h with _ h
      exact absurd h h1
    · rename_i h1
      have h1 : (parL x).2 = 0 := Classical.byContradiction h1
      injection h with ha hb
      subst ha
      obtain ⟨a1, a2, a3⟩ := read_snd xs (readL xs).1 (by rw [← hb])
      obtain ⟨b1, b2⟩ := parL_snd (l := x) (p := (parL x).1) (by rw [← h1])
      refine ⟨fun p hp => ?_, ?_, by rw [List.length_cons, List.length_cons, a3]⟩
      · rcases List.mem_cons.1 hp with e | hp
        · rw [e]; exact b1
        · exact a1 p hp
      · have ex : lsum (x :: xs) = x.length + 1 + lsum xs := by simp [lsum]
        rw [tl_cons, ex]; omega
/-- What is read of a text of at most 3000 bytes can be. -/
theorem parC_fit {s : List UInt8} {c : CM} (h : parC s = .ok c) (hs : s.length ≤ 3000) : fitT c = true := by
  unfold parC at h
  split at h
  · cases h
  · rename_i hu0
    have hu0 : (unfQ s).2 = 0 := Classical.byContradiction hu0
    obtain ⟨u1, u2, u3⟩ := unfQ_snd (s := s) (ls := (unfQ s).1) (by rw [← hu0])
    generalize (unfQ s).1 = ls at *
    cases hr : readL ls with
    | mk l bad =>
      rw [hr] at h
      cases l with
      | nil => cases h
      | cons p l =>
        dsimp only at h
        split at h
        · cases h
        · rename_i h1
          cases ht : takeC (l.length + 1) l (upL p.value) 1 [] [] with
          | error e => rw [ht] at h; cases h
          | ok kr =>
            obtain ⟨k, rest⟩ := kr
            rw [ht] at h
            dsimp only at h
            split at h
            · cases h
            · rename_i h2
              have h2 : rest = [] := Classical.byContradiction h2
              split at h
              · cases h
              · rename_i h3
                have h3 : bad = 0 := Classical.byContradiction h3
                injection h with h
                subst h h2 h3
                obtain ⟨r1, r2, r3⟩ := read_snd ls (p :: l) hr
                have hn : p.name = beginT := Classical.byContradiction fun x => h1 (.inl x)
                have hp : p.pars = [] := Classical.byContradiction fun x => h1 (.inr (.inl x))
                have hu : nameB (upL p.value) = true := by
                  cases hx : nameB (upL p.value) with
                  | true => rfl
                  | false => exact absurd (.inr (.inr hx)) h1
                obtain ⟨t1, _, t3, t4⟩ := take_snd _ l (upL p.value) 1 [] [] k [] ht (fun q hq => r1 q (List.mem_cons_of_mem _ hq)) hu (by omega) (fun q hq => by cases hq) (fun q hq => by cases hq)
                have hlen : (textL p).length = (textL ⟨beginT, [], upL p.value⟩).length := by
                  rw [mark_len, ← pro_eta hn hp]
                obtain ⟨e1, e2⟩ := lines_pros 12 k t1
                have hnil : tl [] = 0 := rfl
                simp only [tl_cons, List.nil_append, prosCs, hnil] at t3
                simp only [List.length_nil, prosCs, List.length_cons] at t4 r3
                rw [tl_cons] at r2
                have hsum : lsum (linesC k) ≤ 3001 := by
                  rw [e1]
                  show tl (prosC k) ≤ 3001
                  omega
                have hcnt : (linesC k).length ≤ 400 := by
                  rw [e1, List.length_map]; omega
                have h47 := foldL_47 (linesC k) (fun x hx => by
                  rw [e1] at hx
                  obtain ⟨q, hq, rfl⟩ := List.mem_map.1 hx
                  exact (line_text (e2 q hq)).1)
                unfold fitT
                rw [t1, decide_eq_true hcnt, decide_eq_true (by omega)]; rfl

end Go.Proofs.YtlfhhnjdfpgadaaGreatDoor

/-
  Parse's machine, line by line, and that it tells what parC tells; a name between BEGIN or END and a line's end; how much a component weighs: mathematics alone.
-/
namespace Go.Proofs.YtlfhhnjdfpgadaaGreatDoor
open Go.RowKit

/-- What a property weighs. -/
def wPar (x : Par) : Nat := x.name.length + (x.vals.map fun v => v.length + 1).sum + 1
def wP (p : Pro) : Nat := p.name.length + (p.pars.map wPar).sum + p.value.length + 1
theorem vsize_w : ∀ l : List ByteArray, vsize l = ((l.map fun b => b.data.toList).map fun v => v.length + 1).sum
  | [] => rfl
  | x :: l => by
    have ih := vsize_w l
    have e : x.data.toList.length = x.size := (bsize x).symm
    unfold vsize at ih ⊢
    simp only [List.map_cons, List.sum_cons]
    rw [ih, e]
theorem psizes_w : ∀ l : List PR, psizes l = ((l.map parOf).map wPar).sum
  | [] => rfl
  | r :: l => by
    have ih := psizes_w l
    have e : r.name.data.toList.length = r.name.size := (bsize r.name).symm
    have e2 := vsize_w r.vs
    have e3 : wPar (parOf r) = psize r := by unfold wPar psize parOf; rw [e2, ← e]
    unfold psizes at ih ⊢
    simp only [List.map_cons, List.sum_cons]
    rw [ih, e3]
theorem qsize_w (q : QR) : qsize q = wP (proQ q) := by
  unfold qsize wP proQ proOf
  rw [psizes_w, bsize q.name, bsize q.vl]
theorem qsizes_w (l : List QR) : qsizes l = ((l.map proQ).map wP).sum := by
  unfold qsizes
  rw [List.map_map]
  exact congrArg List.sum (List.map_congr_left fun q _ => qsize_w q)
mutual
def wC : CM → Nat
  | .mk nm ps cs => nm.length + (ps.map wP).sum + wCs cs + 1
def wCs : List CM → Nat
  | [] => 0
  | c :: cs => wC c + wCs cs
end
mutual
theorem csize_w : ∀ r : CR, csize r = wC (compOf r)
  | .mk nm A n c qs K k kc cs => by rw [csize, compOf, wC, csizes_w cs, qsizes_w, bsize nm]
theorem csizes_w : ∀ l : List CR, csizes l = wCs (compsOf l)
  | [] => by rw [csizes, compsOf, wCs]
  | c :: cs => by rw [csizes, compsOf, wCs, csize_w c, csizes_w cs]
end
theorem quote_len (v : List UInt8) : v.length ≤ (quoteL v).length := by
  unfold quoteL
  split
  · simp; omega
  · exact Nat.le_refl _
theorem more_len : ∀ vs : List (List UInt8), (vs.map fun v => v.length + 1).sum ≤ (moreL vs).length
  | [] => by simp [moreL]
  | v :: vs => by
    have ih := more_len vs
    have := quote_len v
    unfold moreL at ih ⊢
    simp only [List.map_cons, List.sum_cons, List.flatMap_cons, List.length_append, List.length_cons] at ih ⊢
    omega
theorem par_len {x : Par} (h : x.vals ≠ []) : wPar x ≤ (parT x).length := by
  unfold wPar parT
  cases hv : x.vals with
  | nil => exact absurd hv h
  | cons v vs =>
    have h1 := quote_len v
    have h2 := more_len vs
    simp only [valsL, List.map_cons, List.sum_cons, List.length_append, List.length_cons]
    omega
theorem pars_len : ∀ ps : List Par, (∀ x ∈ ps, parOk x) → (ps.map wPar).sum ≤ (ps.flatMap parT).length
  | [], _ => by simp
  | x :: ps, h => by
    have ih := pars_len ps (fun y hy => h y (List.mem_cons_of_mem _ hy))
    have h1 := par_len (h x (List.mem_cons_self ..)).2.1
    simp only [List.map_cons, List.sum_cons, List.flatMap_cons, List.length_append]
    omega
theorem wP_text {p : Pro} (h : proOk p) : wP p ≤ (textL p).length := by
  have := pars_len p.pars h.2.2.2.1
  unfold wP textL
  simp only [List.length_append, List.length_cons]
  omega
theorem tl_props : ∀ ps : List Pro, (∀ p ∈ ps, proOk p) → (ps.map wP).sum ≤ tl ps
  | [], _ => by simp
  | p :: ps, h => by
    have ih := tl_props ps (fun q hq => h q (List.mem_cons_of_mem _ hq))
    have := wP_text (h p (List.mem_cons_self ..))
    rw [tl_cons]
    simp only [List.map_cons, List.sum_cons]
    omega
theorem wC_tl : ∀ (d : Nat) (c : CM), fitC d c = true → wC c ≤ tl (prosC c)
  | 0, c, h => by cases c; rw [fitC] at h; cases h
  | d + 1, .mk nm ps cs, h => by
    obtain ⟨hn, hp, hc⟩ := fitC_mk h
    have hcs : ∀ l : List CM, (∀ c ∈ l, fitC d c = true) → wCs l ≤ tl (prosCs l) := by
      intro l
      induction l with
      | nil => intro _; rw [wCs]; omega
      | cons c l ih =>
        intro hl
        have a := wC_tl d c (hl c (List.mem_cons_self ..))
        have b := ih (fun c hc => hl c (List.mem_cons_of_mem _ hc))
        rw [wCs, prosCs, tl_app]; omega
    have h1 := tl_props ps (fun p hq => (prop_ok (hp p hq)).1)
    have h2 := hcs cs hc
    rw [wC, prosC, tl_cons, tl_app, tl_app]
    have : nm.length + 1 ≤ (textL ⟨beginT, [], nm⟩).length := by simp [textL]
    omega
/-- What is read weighs no more than the text. -/
theorem parC_size {s : List UInt8} {c : CM} (h : parC s = .ok c) : wC c ≤ s.length + 1 := by
  unfold parC at h
  split at h
  · cases h
  · rename_i hu0
    have hu0 : (unfQ s).2 = 0 := Classical.byContradiction hu0
    obtain ⟨u1, u2, u3⟩ := unfQ_snd (s := s) (ls := (unfQ s).1) (by rw [← hu0])
    generalize (unfQ s).1 = ls at *
    cases hr : readL ls with
    | mk l bad =>
      rw [hr] at h
      cases l with
      | nil => cases h
      | cons p l =>
        dsimp only at h
        split at h
        · cases h
        · rename_i h1
          cases ht : takeC (l.length + 1) l (upL p.value) 1 [] [] with
          | error e => rw [ht] at h; cases h
          | ok kr =>
            obtain ⟨k, rest⟩ := kr
            rw [ht] at h
            dsimp only at h
            split at h
            · cases h
            · rename_i h2
              have h2 : rest = [] := Classical.byContradiction h2
              split at h
              · cases h
              · rename_i h3
                have h3 : bad = 0 := Classical.byContradiction h3
                injection h with h
                subst h h2 h3
                obtain ⟨r1, r2, r3⟩ := read_snd ls (p :: l) hr
                have hn : p.name = beginT := Classical.byContradiction fun x => h1 (.inl x)
                have hp : p.pars = [] := Classical.byContradiction fun x => h1 (.inr (.inl x))
                have hu : nameB (upL p.value) = true := by
                  cases hx : nameB (upL p.value) with
                  | true => rfl
                  | false => exact absurd (.inr (.inr hx)) h1
                obtain ⟨t1, _, t3, t4⟩ := take_snd _ l (upL p.value) 1 [] [] k [] ht (fun q hq => r1 q (List.mem_cons_of_mem _ hq)) hu (by omega) (fun q hq => by cases hq) (fun q hq => by cases hq)
                have hlen : (textL p).length = (textL ⟨beginT, [], upL p.value⟩).length := by
                  rw [mark_len, ← pro_eta hn hp]
                have hnil : tl [] = 0 := rfl
                simp only [tl_cons, List.nil_append, prosCs, hnil] at t3
                rw [tl_cons] at r2
                have := wC_tl 12 k t1
                omega

/-- One component that has begun. -/
structure Frm where
  name : List UInt8
  ps : List Pro
  cs : List CM
def Frm.whole (f : Frm) : CM := .mk f.name f.ps f.cs
/-- What BEGIN or END marks: none. -/
def unmarked (p : Pro) : Prop := p.pars ≠ [] ∨ nameB (upL p.value) = false
instance (p : Pro) : Decidable (unmarked p) := by unfold unmarked; infer_instance
/-- One line more: the innermost first; the last one stands for the text. -/
def stepF : List Frm → Pro → Except Int (List Frm)
  | [], _ => .error 10
  | [f], p => if p.name ≠ beginT ∨ f.cs ≠ [] then .error 10 else if unmarked p then .error 10 else .ok [⟨upL p.value, [], []⟩, f]
  | f :: g :: st, p =>
    if p.name ≠ beginT ∧ p.name ≠ endT then .ok ({ f with ps := f.ps ++ [p] } :: g :: st)
    else if unmarked p then .error 10
    else if p.name = beginT then (if 12 ≤ st.length + 1 then .error 24 else .ok (⟨upL p.value, [], []⟩ :: f :: g :: st))
    else if upL p.value ≠ f.name then .error 31
    else .ok ({ g with cs := g.cs ++ [f.whole] } :: st)
def runF : List Frm → List (List UInt8) → Except Int (List Frm)
  | fs, [] => .ok fs
  | fs, x :: xs => if (parL x).2 ≠ 0 then .error (parL x).2 else match stepF fs (parL x).1 with | .error e => .error e | .ok fs' => runF fs' xs
/-- What is told at the end. -/
def tellF (fs : List Frm) : Except Int CM := match (fs.getLast?.map Frm.cs).getD [] with | [] => .error 11 | c :: _ => .ok c
def endF (r : Except Int (List Frm)) : Except Int CM := match r with | .error e => .error e | .ok fs => tellF fs
def root (cs : List CM) : Frm := ⟨[], [], cs⟩
/-- The whole text behind its first component. -/
def wholeP (k : CM) (l : List Pro) (bad : Int) : Except Int CM := if l ≠ [] then .error 10 else if bad ≠ 0 then .error bad else .ok k
/-- The same on properties that have been read. -/
def goP : Frm → List Frm → List Pro → Int → Except Int CM
  | _, _, [], bad => .error (if bad = 0 then 11 else bad)
  | f, st, p :: l, bad =>
    if p.name ≠ beginT ∧ p.name ≠ endT then goP { f with ps := f.ps ++ [p] } st l bad
    else if unmarked p then .error 10
    else if p.name = beginT then (if 12 ≤ st.length + 1 then .error 24 else goP ⟨upL p.value, [], []⟩ (f :: st) l bad)
    else if upL p.value ≠ f.name then .error 31
    else match st with
      | [] => wholeP f.whole l bad
      | g :: st' => goP { g with cs := g.cs ++ [f.whole] } st' l bad
def closeP (k : CM) : List Frm → List Pro → Int → Except Int CM
  | [], l, bad => wholeP k l bad
  | g :: st, l, bad => goP { g with cs := g.cs ++ [k] } st l bad
theorem goP_cons (f : Frm) (st : List Frm) (p : Pro) (l : List Pro) (bad : Int) : goP f st (p :: l) bad =
    if p.name ≠ beginT ∧ p.name ≠ endT then goP { f with ps := f.ps ++ [p] } st l bad
    else if unmarked p then .error 10
    else if p.name = beginT then (if 12 ≤ st.length + 1 then .error 24 else goP ⟨upL p.value, [], []⟩ (f :: st) l bad)
    else if upL p.value ≠ f.name then .error 31
    else closeP f.whole st l bad := by
  cases st <;> (rw [goP.eq_def]; rfl)
theorem goP_take : ∀ (F : Nat) (l : List Pro) (f : Frm) (st : List Frm) (bad : Int), l.length + 1 ≤ F → st.length + 1 ≤ 12 →
    goP f st l bad = (match takeC F l f.name (st.length + 1) f.ps f.cs with | .error e => .error (if e = 11 ∧ bad ≠ 0 then bad else e) | .ok (k, l') => closeP k st l' bad)
  | 0, l, f, st, bad, hF, _ => absurd hF (by omega)
  | F + 1, [], f, st, bad, hF, _ => by
    rw [goP, takeC]
    by_cases h : bad = 0 <;> simp [h]
  | F + 1, p :: l, f, st, bad, hF, hd => by
    rw [goP_cons, takeC]
    rw [List.length_cons] at hF
    by_cases h1 : p.name ≠ beginT ∧ p.name ≠ endT
    · rw [if_pos h1, if_pos h1]
      exact goP_take F l { f with ps := f.ps ++ [p] } st bad (by omega) hd
    · rw [if_neg h1, if_neg h1]
      by_cases h2 : unmarked p
      · rw [if_pos h2, if_pos (show p.pars ≠ [] ∨ nameB (upL p.value) = false from h2)]
        simp
      · rw [if_neg h2, if_neg (show ¬ (p.pars ≠ [] ∨ nameB (upL p.value) = false) from h2)]
        by_cases h3 : p.name = beginT
        · have h4 : p.name ≠ endT := fun e => begin_ne_end (h3.symm.trans e)
          rw [if_pos h3, if_neg h4]
          by_cases h5 : 12 ≤ st.length + 1
          · rw [if_pos h5, if_pos (by omega)]
            simp
          · rw [if_neg h5, if_neg (by omega)]
            rw [goP_take F l ⟨upL p.value, [], []⟩ (f :: st) bad (by omega) (by rw [List.length_cons]; omega)]
            rw [List.length_cons]
            cases hq : takeC F l (upL p.value) (st.length + 1 + 1) [] [] with
            | error e => rfl
            | ok kl =>
              obtain ⟨k, l'⟩ := kl
              have hlen := take_len F _ _ _ _ _ _ _ hq
              dsimp only
              rw [closeP]
              exact goP_take F l' { f with cs := f.cs ++ [k] } st bad (by omega) hd
        · have h4 : p.name = endT := Classical.byContradiction fun e => h1 ⟨h3, e⟩
          rw [if_neg h3, if_pos h4]
          by_cases h5 : upL p.value ≠ f.name
          · rw [if_pos h5, if_pos h5]
            simp
          · rw [if_neg h5, if_neg h5]
            cases st <;> rfl
theorem run_whole (k : CM) : ∀ xs : List (List UInt8), endF (runF [root [k]] xs) = wholeP k (readL xs).1 (readL xs).2
  | [] => rfl
  | x :: xs => by
    rw [runF, readL]
    by_cases h : (parL x).2 ≠ 0
    · rw [if_pos h, if_pos h]
      show _ = wholeP k [] (parL x).2
      unfold wholeP
      rw [if_neg (by simp), if_pos h]; rfl
    · rw [if_neg h, if_neg h]
      have : stepF [root [k]] (parL x).1 = .error 10 := by rw [stepF, if_pos (.inr (by simp [root]))]
      rw [this]
      unfold wholeP
      rw [if_pos (by simp)]; rfl
theorem run_go : ∀ (xs : List (List UInt8)) (f : Frm) (st : List Frm), endF (runF (f :: (st ++ [root []])) xs) = goP f st (readL xs).1 (readL xs).2
  | [], f, st => by
    rw [runF, readL, goP]
    show tellF _ = _
    unfold tellF
    rw [show (f :: (st ++ [root []])).getLast? = some (root []) by rw [← List.cons_append, List.getLast?_append]; rfl]
    rfl
  | x :: xs, f, st => by
    rw [runF, readL]
    by_cases h : (parL x).2 ≠ 0
    · rw [if_pos h, if_pos h, goP, if_neg h]; rfl
    · rw [if_neg h, if_neg h, goP_cons]
      generalize (parL x).1 = p
      have hst : ∃ g st2, st ++ [root []] = g :: st2 ∧ st2.length + 1 = st.length + 1 := by
        cases st with
        | nil => exact ⟨_, [], rfl, rfl⟩
        | cons g st => exact ⟨g, st ++ [root []], rfl, by simp⟩
      obtain ⟨g, st2, e, hl⟩ := hst
      rw [e, stepF]
      by_cases h1 : p.name ≠ beginT ∧ p.name ≠ endT
      · rw [if_pos h1, if_pos h1]
        dsimp only
        rw [← e]
        exact run_go xs { f with ps := f.ps ++ [p] } st
      · rw [if_neg h1, if_neg h1]
        by_cases h2 : unmarked p
        · rw [if_pos h2, if_pos h2]; rfl
        · rw [if_neg h2, if_neg h2]
          by_cases h3 : p.name = beginT
          · rw [if_pos h3, if_pos h3, hl]
            by_cases h5 : 12 ≤ st.length + 1
            · rw [if_pos h5, if_pos h5]; rfl
            · rw [if_neg h5, if_neg h5]
              dsimp only
              rw [← e]
              exact run_go xs ⟨upL p.value, [], []⟩ (f :: st)
          · rw [if_neg h3, if_neg h3]
            by_cases h5 : upL p.value ≠ f.name
            · rw [if_pos h5, if_pos h5]; rfl
            · rw [if_neg h5, if_neg h5]
              cases st with
              | nil =>
                injection e with e1 e2
                subst e1 e2
                exact run_whole f.whole xs
              | cons g' st' =>
                injection e with e1 e2
                subst e1 e2
                exact run_go xs { g' with cs := g'.cs ++ [f.whole] } st'
/-- What Parse tells, by its machine. -/
theorem parC_run (s : List UInt8) (h : (unfQ s).2 = 0) : parC s = endF (runF [root []] (unfQ s).1) := by
  unfold parC
  rw [if_neg (by simp [h])]
  generalize (unfQ s).1 = ls
  cases ls with
  | nil => rfl
  | cons x xs =>
    rw [readL, runF]
    by_cases h1 : (parL x).2 ≠ 0
    · rw [if_pos h1, if_pos h1]
      dsimp only
      rw [if_neg h1]; rfl
    · rw [if_neg h1, if_neg h1]
      dsimp only
      generalize (parL x).1 = p
      rw [stepF]
      by_cases h2 : p.name ≠ beginT
      · rw [if_pos (.inl h2), if_pos (.inl h2)]; rfl
      · by_cases h3 : unmarked p
        · rw [if_pos (.inr h3), if_neg (by simp [h2, root]), if_pos h3]; rfl
        · have h4 : ¬ (p.name ≠ beginT ∨ p.pars ≠ [] ∨ nameB (upL p.value) = false) := fun e => e.elim h2 h3
          rw [if_neg h4, if_neg (by simp [h2, root]), if_neg h3]
          dsimp only
          have hg := run_go xs ⟨upL p.value, [], []⟩ []
          rw [List.nil_append] at hg
          rw [hg, goP_take ((readL xs).1.length + 1) _ _ _ _ (Nat.le_refl _) (by simp)]
          dsimp only [List.length_nil]
          cases takeC ((readL xs).1.length + 1) (readL xs).1 (upL p.value) (0 + 1) [] [] with
          | error e => rfl
          | ok kr => obtain ⟨k, rest⟩ := kr; rfl
end Go.Proofs.YtlfhhnjdfpgadaaGreatDoor

/-
  The components that have begun and not ended, as they lie in memory: each in blocks of its own.
-/
namespace Go.Proofs.YtlfhhnjdfpgadaaGreatDoor
open Go.RowKit

theorem own_blk {w w' : World} {base size n : Nat} {e : TypeId} {v : Value} {xs : List Value} (h : w.ownsRow base e size v n xs) (hk : ∀ g, v.ownBlock = some g → w'.heap[g]? = w.heap[g]?) : w'.ownsRow base e size v n xs := by
  refine ⟨h.1, ?_⟩
  rcases h.2 with h2 | ⟨g, cap, cur, rfl, hb, hh, r⟩
  · exact .inl h2
  · exact .inr ⟨g, cap, cur, rfl, hb, (hk g rfl).trans hh, r⟩
theorem held_ownF {F : Nat → Prop} {w : World} {base size n c : Nat} {e : TypeId} {A : Option Addr} {xs : List Value} (h : w.ownsRow base e size (.slice A n c) n xs) (hF : ∀ g, (Value.slice A n c).ownBlock = some g → F g) : Held F w (fun W => Reads W W.heap.size size A n xs) := fun W hs hk =>
  ⟨h.1, fun hn => by
    obtain ⟨g, rfl, hb, hlt, ⟨cur, hcur⟩, hc⟩ := own_cells h hn
    refine ⟨g, 0, rfl, by omega, fun j u hu => ?_⟩
    rw [Nat.zero_add]
    exact (World.cell?_of_block (a := ⟨g, j, none⟩) (hk g (hF g rfl) hlt)).trans (hc j u hu)⟩
/-- One of them: its rows and all that it holds lie in the blocks of F. -/
structure FrOk (F : Nat → Prop) (w : World) (B : Nat) (A : Option Addr) (n c : Nat) (qs : List QR) (K : Option Addr) (k kc : Nat) (cs : List CR) : Prop where
  ra : w.ownsRow B 30 3 (.slice A n c) n (enc3 fQ qs)
  fa : ∀ b, (Value.slice A n c).ownBlock = some b → F b
  rk : w.ownsRow B 25 3 (.slice K k kc) k (enc3 fC cs)
  fk : ∀ b, (Value.slice K k kc).ownBlock = some b → F b
  hq : ∀ q ∈ qs, Held (fun b => F b ∧ (Value.slice A n c).ownBlock ≠ some b ∧ (Value.slice K k kc).ownBlock ≠ some b) w (fun W => QOk W W.heap.size q)
  hc : ∀ x ∈ cs, Held (fun b => F b ∧ (Value.slice A n c).ownBlock ≠ some b ∧ (Value.slice K k kc).ownBlock ≠ some b) w (fun W => COk W W.heap.size x)
def FrR (F : Nat → Prop) (w : World) (B : Nat) : CR → Prop
  | .mk _ A n c qs K k kc cs => FrOk F w B A n c qs K k kc cs
section
variable {F F' : Nat → Prop} {w w' w5 : World} {B : Nat} {A : Option Addr} {n c : Nat} {qs : List QR} {K : Option Addr} {k kc : Nat} {cs : List CR}
theorem FrOk.keep (h : FrOk F w B A n c qs K k kc cs) (hs : w.heap.size ≤ w'.heap.size) (hk : ∀ b, F b → w'.heap[b]? = w.heap[b]?) : FrOk F w' B A n c qs K k kc cs :=
  ⟨own_blk h.ra (fun g hg => hk g (h.fa g hg)), h.fa, own_blk h.rk (fun g hg => hk g (h.fk g hg)), h.fk, fun q hq => (h.hq q hq).next hs (fun b hb _ => hk b hb.1), fun x hx => (h.hc x hx).next hs (fun b hb _ => hk b hb.1)⟩
theorem FrR.keep {r : CR} (h : FrR F w B r) (hs : w.heap.size ≤ w'.heap.size) (hk : ∀ b, F b → w'.heap[b]? = w.heap[b]?) : FrR F w' B r := by
  cases r; exact FrOk.keep h hs hk
/-- As a component that is read. -/
theorem FrOk.comp (h : FrOk F w B A n c qs K k kc cs) (nm : ByteArray) : Held F w (fun W => COk W W.heap.size (.mk nm A n c qs K k kc cs)) := by
  obtain ⟨A6, c6, e6, h1, h2⟩ := own_slice h.ra
  injection e6 with _ _ e6
  subst e6
  obtain ⟨A7, c7, e7, h3, h4⟩ := own_slice h.rk
  injection e7 with _ _ e7
  subst e7
  have g1 := held_ownF h.ra h.fa
  have g2 := held_ownF h.rk h.fk
  have g3 : Held F w (fun W => ∀ q ∈ qs, QOk W W.heap.size q) := Held.all fun q hq => (h.hq q hq).weak (fun b hb _ => hb.1)
  have g4 : Held F w (fun W => ∀ x ∈ cs, COk W W.heap.size x) := Held.all fun x hx => (h.hc x hx).weak (fun b hb _ => hb.1)
  exact ((g1.and g2).and (g3.and g4)).imp (fun W hW => .mk hW.1.1 hW.2.1 h1 h2 hW.1.2 hW.2.2 h3 h4)
theorem own_types {n' k' : Nat} (h : w.ownsRow B 30 3 (.slice A n c) n' (enc3 fQ qs)) (h' : w.ownsRow B 25 3 (.slice K k kc) k' (enc3 fC cs)) : ∀ g, (Value.slice A n c).ownBlock = some g → (Value.slice K k kc).ownBlock ≠ some g := own_apart h h' (by decide)
/-- One more property. -/
theorem FrOk.addQ {A' : Option Addr} {c' : Nat} {q : QR} (h : FrOk F w B A n c qs K k kc cs) (hlt : ∀ b, F b → b < w.heap.size) (hs : w.heap.size ≤ w5.heap.size) (hs5 : w5.heap.size ≤ w'.heap.size)
    (hk : ∀ b, F b → (Value.slice A n c).ownBlock ≠ some b → w'.heap[b]? = w.heap[b]?) (hk5 : ∀ b, w.heap.size ≤ b → b < w5.heap.size → w'.heap[b]? = w5.heap[b]?)
    (hrow : w'.ownsRow B 30 3 (.slice A' (n + 1) c') (n + 1) (enc3 fQ (qs ++ [q]))) (hor : (Value.slice A' (n + 1) c').ownBlock = (Value.slice A n c).ownBlock ∨ ∃ g, (Value.slice A' (n + 1) c').ownBlock = some g ∧ w5.heap.size ≤ g ∧ g < w'.heap.size)
    (hy : Held (fun b => w.heap.size ≤ b) w5 (fun W => QOk W W.heap.size q)) : FrOk (fun b => F b ∨ (w.heap.size ≤ b ∧ b < w'.heap.size)) w' B A' (n + 1) c' (qs ++ [q]) K k kc cs := by
  have hne : ∀ b, F b → (Value.slice A n c).ownBlock ≠ some b → (Value.slice A' (n + 1) c').ownBlock ≠ some b := fun b hb h1 e => by
    rcases hor with e2 | ⟨g, e2, h2, h3⟩
    · exact h1 (e2 ▸ e)
    · rw [e2] at e; injection e with e; have := hlt b hb; omega
  have up : ∀ {G : World → Prop}, Held (fun b => F b ∧ (Value.slice A n c).ownBlock ≠ some b ∧ (Value.slice K k kc).ownBlock ≠ some b) w G → Held (fun b => (F b ∨ (w.heap.size ≤ b ∧ b < w'.heap.size)) ∧ (Value.slice A' (n + 1) c').ownBlock ≠ some b ∧ (Value.slice K k kc).ownBlock ≠ some b) w' G := fun hG =>
    (hG.next (by omega) (fun b hb _ => hk b hb.1 hb.2.1)).weak (fun b hb _ => ⟨.inl hb.1, hne b hb.1 hb.2.1, hb.2.2⟩)
  refine ⟨hrow, fun b hb => ?_, own_blk h.rk (fun g hg => hk g (h.fk g hg) (fun e => own_types h.ra h.rk g e hg)), fun b hb => .inl (h.fk b hb), fun q' hq' => ?_, fun x hx => up (h.hc x hx)⟩
  · rcases hor with e2 | ⟨g, e2, h2, h3⟩
    · exact .inl (h.fa b (e2 ▸ hb))
    · rw [e2] at hb; injection hb with hb; exact .inr ⟨by omega, by omega⟩
  · rcases List.mem_append.1 hq' with h1 | h1
    · exact up (h.hq q' h1)
    · rw [List.mem_singleton.1 h1]
      refine (hy.weak (S' := fun b => (w.heap.size ≤ b ∧ b < w5.heap.size)) (fun b hb hl => ⟨hb, hl⟩)).next hs5 (fun b hb _ => hk5 b hb.1 hb.2) |>.weak (fun b hb _ => ⟨.inr ⟨hb.1, by omega⟩, fun e => ?_, fun e => ?_⟩)
      · rcases hor with e2 | ⟨g, e2, h2, h3⟩
        · have := hlt b (h.fa b (e2 ▸ e)); omega
        · rw [e2] at e; injection e with e; omega
      · have := hlt b (h.fk b e); omega
/-- One more component, which lies in the blocks of F'. -/
theorem FrOk.addC {K' : Option Addr} {kc' : Nat} {x : CR} (h : FrOk F w B A n c qs K k kc cs) (hlt : ∀ b, F b → b < w.heap.size) (hlt' : ∀ b, F' b → b < w.heap.size) (hd : ∀ b, F b → ¬ F' b) (hs : w.heap.size ≤ w'.heap.size)
    (hk : ∀ b, F b ∨ F' b → (Value.slice K k kc).ownBlock ≠ some b → w'.heap[b]? = w.heap[b]?)
    (hrow : w'.ownsRow B 25 3 (.slice K' (k + 1) kc') (k + 1) (enc3 fC (cs ++ [x]))) (hor : (Value.slice K' (k + 1) kc').ownBlock = (Value.slice K k kc).ownBlock ∨ ∃ g, (Value.slice K' (k + 1) kc').ownBlock = some g ∧ w.heap.size ≤ g ∧ g < w'.heap.size)
    (hy : Held F' w (fun W => COk W W.heap.size x)) : FrOk (fun b => (F b ∨ F' b) ∨ (w.heap.size ≤ b ∧ b < w'.heap.size)) w' B A n c qs K' (k + 1) kc' (cs ++ [x]) := by
  have hne : ∀ b, F b ∨ F' b → (Value.slice K k kc).ownBlock ≠ some b → (Value.slice K' (k + 1) kc').ownBlock ≠ some b := fun b hb h1 e => by
    rcases hor with e2 | ⟨g, e2, h2, h3⟩
    · exact h1 (e2 ▸ e)
    · rw [e2] at e; injection e with e
      have : b < w.heap.size := hb.elim (hlt b) (hlt' b)
      omega
  have up : ∀ {G : World → Prop}, Held (fun b => F b ∧ (Value.slice A n c).ownBlock ≠ some b ∧ (Value.slice K k kc).ownBlock ≠ some b) w G → Held (fun b => ((F b ∨ F' b) ∨ (w.heap.size ≤ b ∧ b < w'.heap.size)) ∧ (Value.slice A n c).ownBlock ≠ some b ∧ (Value.slice K' (k + 1) kc').ownBlock ≠ some b) w' G := fun hG =>
    (hG.next hs (fun b hb _ => hk b (.inl hb.1) hb.2.2)).weak (fun b hb _ => ⟨.inl (.inl hb.1), hb.2.1, hne b (.inl hb.1) hb.2.2⟩)
  refine ⟨own_blk h.ra (fun g hg => hk g (.inl (h.fa g hg)) (own_types h.ra h.rk g hg)), fun b hb => .inl (.inl (h.fa b hb)), hrow, fun b hb => ?_, fun q hq => up (h.hq q hq), fun x' hx' => ?_⟩
  · rcases hor with e2 | ⟨g, e2, h2, h3⟩
    · exact .inl (.inl (h.fk b (e2 ▸ hb)))
    · rw [e2] at hb; injection hb with hb; exact .inr ⟨by omega, by omega⟩
  · rcases List.mem_append.1 hx' with h1 | h1
    · exact up (h.hc x' h1)
    · rw [List.mem_singleton.1 h1]
      refine (hy.next hs (fun b hb _ => hk b (.inr hb) (fun e => hd b (h.fk b e) hb))).weak (fun b hb _ => ⟨.inl (.inr hb), fun e => hd b (h.fa b e) hb, hne b (.inr hb) (fun e => hd b (h.fk b e) hb)⟩)
end
/-- All of them, the innermost first, each in blocks of its own. -/
def StOk (w : World) (B : Nat) : (Nat → Prop) → List CR → Prop
  | _, [] => True
  | F, r :: st => ∃ F1 F2 : Nat → Prop, (∀ b, F1 b → F b) ∧ (∀ b, F2 b → F b) ∧ (∀ b, F1 b → ¬ F2 b) ∧ FrR F1 w B r ∧ StOk w B F2 st
theorem StOk.keep {w w' : World} {B : Nat} (hs : w.heap.size ≤ w'.heap.size) : ∀ {F : Nat → Prop} {st : List CR}, StOk w B F st → (∀ b, F b → w'.heap[b]? = w.heap[b]?) → StOk w' B F st
  | _, [], _, _ => trivial
  | F, r :: st, ⟨F1, F2, h1, h2, h3, h4, h5⟩, hk => ⟨F1, F2, h1, h2, h3, h4.keep hs (fun b hb => hk b (h1 b hb)), StOk.keep hs h5 (fun b hb => hk b (h2 b hb))⟩
theorem StOk.mono {w : World} {B : Nat} {F F' : Nat → Prop} {st : List CR} (h : StOk w B F st) (hF : ∀ b, F b → F' b) : StOk w B F' st := by
  cases st with
  | nil => trivial
  | cons r st =>
    obtain ⟨F1, F2, h1, h2, h3, h4, h5⟩ := h
    exact ⟨F1, F2, fun b hb => hF b (h1 b hb), fun b hb => hF b (h2 b hb), h3, h4, h5⟩
theorem StOk.last {w : World} {B : Nat} : ∀ {F : Nat → Prop} {st : List CR} {r : CR}, StOk w B F st → st.getLast? = some r → ∃ F1, (∀ b, F1 b → F b) ∧ FrR F1 w B r
  | _, [], r, _, h => by cases h
  | F, [x], r, ⟨F1, F2, h1, h2, h3, h4, h5⟩, h => by
    injection h with h
    subst h
    exact ⟨F1, h1, h4⟩
  | F, x :: y :: st, r, ⟨F1, F2, h1, h2, h3, h4, h5⟩, h => by
    obtain ⟨F3, a, b⟩ := StOk.last h5 (by rw [List.getLast?_cons_cons] at h; exact h)
    exact ⟨F3, fun b hb => h2 b (a b hb), b⟩
def frmOf : CR → Frm
  | .mk nm _ _ _ qs _ _ _ cs => ⟨nm.data.toList, qs.map proQ, cs.map compOf⟩
def cntR (i : Nat) : CR → Prop
  | .mk _ _ n _ _ _ k _ _ => n ≤ i ∧ k ≤ i
/-- What holds between two lines. -/
structure PInv (w : World) (B : Nat) (wr : World) (i : Nat) (fs : List Frm) (R : Option Addr) (N C : Nat) (crs : List CR) (F : Nat → Prop) : Prop where
  row : wr.ownsRow B 25 3 (.slice R N C) N (enc3 fC crs.reverse)
  rF : ∀ b, (Value.slice R N C).ownBlock = some b → ¬ F b
  st : StOk wr B F crs
  fB : ∀ b, F b → B ≤ b ∧ b < wr.heap.size
  ln : crs.length = N
  fr : crs.map frmOf = fs
  ct : ∀ r ∈ crs, cntR i r
  hw : w.heap.size ≤ B
  bel : Below w.heap.size w wr
section
variable {w wr w5 w' : World} {B i : Nat} {fs : List Frm} {R : Option Addr} {N C : Nat} {crs : List CR} {F : Nat → Prop}
theorem PInv.step (h : PInv w B wr i fs R N C crs F) (hb : Below wr.heap.size wr w5) : PInv w B w5 i fs R N C crs F :=
  ⟨own_below h.row hb, h.rF, h.st.keep hb.size (fun b hb2 => hb.block b (h.fB b hb2).2), fun b hb2 => ⟨(h.fB b hb2).1, Nat.lt_of_lt_of_le (h.fB b hb2).2 hb.size⟩, h.ln, h.fr, h.ct, h.hw, bstep h.bel hb⟩
end
end Go.Proofs.YtlfhhnjdfpgadaaGreatDoor
