/-
  What Parse reads of a line is a property that can be, and its text is no longer: mathematics alone.
-/
import Derived.Test.YtlfhhnjdfpgadaaDoorG10
namespace Go.Proofs.YtlfhhnjdfpgadaaDoor
open Go.RowKit

theorem vld_byte {c : UInt8} {l : List UInt8} (hc : c.toNat < 128) : vld (c :: l) = vld l := by
  have h1 : runeL (c :: l) = 1 := by
    unfold runeL
    have e : byt (c :: l) 0 = c.toNat := by simp [byt]
    rw [e, if_pos hc]
  rw [vld_step (by simp) (by omega), h1]; rfl
theorem vld_bytes : ∀ (t l : List UInt8), (∀ c ∈ t, c.toNat < 128) → vld (t ++ l) = vld l
  | [], l, _ => rfl
  | c :: t, l, h => by
    rw [List.cons_append, vld_byte (h c (List.mem_cons_self ..))]
    exact vld_bytes t l (fun d hd => h d (List.mem_cons_of_mem _ hd))
theorem up_nb {c : UInt8} (h : nbC c = true) : nbC (upC c) = true ∧ upC (upC c) = upC c := by
  have hn : nbN c.toNat = true := h
  have hlt := c.toNat_lt
  have e1 : (upC c).toNat = upN c.toNat := by
    unfold upC
    have : upN c.toNat < 256 := by unfold upN; split <;> omega
    simp [UInt8.toNat_ofNat', Nat.mod_eq_of_lt this]
  have e2 : upN (upN c.toNat) = upN c.toNat := by unfold upN; split <;> (try split) <;> omega
  constructor
  · show nbN (upC c).toNat = true
    rw [e1]
    unfold nbN letN digN at hn ⊢
    simp only [Bool.or_eq_true, Bool.and_eq_true, decide_eq_true_eq] at hn ⊢
    unfold upN
    split <;> omega
  · apply UInt8.toNat_inj.1
    show (UInt8.ofNat (upN (upC c).toNat)).toNat = _
    rw [e1, e2]
    exact e1
theorem dropW {f : UInt8 → Bool} : ∀ l : List UInt8, l.drop (l.takeWhile f).length = l.dropWhile f
  | [] => rfl
  | c :: l => by
    by_cases h : f c = true
    · rw [List.takeWhile_cons_of_pos h, List.dropWhile_cons_of_pos h, List.length_cons, List.drop_succ_cons]; exact dropW l
    · rw [List.takeWhile_cons_of_neg h, List.dropWhile_cons_of_neg h]; rfl
theorem take_drop {f : UInt8 → Bool} (l : List UInt8) : l = l.takeWhile f ++ l.drop (l.takeWhile f).length := by
  have h := (List.takeWhile_append_dropWhile (p := f) (l := l)).symm
  rw [dropW l]; exact h
theorem drop_head {f : UInt8 → Bool} {l : List UInt8} {c : UInt8} (h : (l.drop (l.takeWhile f).length).head? = some c) : f c = false := by
  rw [dropW l] at h
  have := List.head?_dropWhile_not f l
  rw [h] at this
  simpa using this
theorem all_take {f : UInt8 → Bool} (l : List UInt8) : (l.takeWhile f).all f = true := List.all_takeWhile
theorem rdName_snd {l n r : List UInt8} (h : rdName l = .ok n r) (hv : vld l = true) : nameOk n ∧ vld r = true ∧ n.length + r.length = l.length := by
  unfold rdName at h
  split at h
  · cases h
  · rename_i h1
    split at h
    · cases h
    · rename_i h2
      injection h with ha hb
      have ht := take_drop (f := nbC) l
      have hall := all_take (f := nbC) l
      generalize l.takeWhile nbC = t at *
      subst ha hb
      have hnb := List.all_eq_true.1 hall
      refine ⟨⟨?_, ?_, ?_, ?_⟩, ?_, ?_⟩
      · rw [List.all_eq_true]
        intro c hc
        unfold upL at hc
        obtain ⟨d, hd, rfl⟩ := List.mem_map.1 hc
        exact (up_nb (hnb d hd)).1
      · unfold upL; simpa using h2
      · unfold upL; rw [List.length_map]; omega
      · unfold upL
        rw [List.map_map]
        exact List.map_congr_left fun d hd => (up_nb (hnb d hd)).2
      · rw [ht, vld_bytes t _ (fun c hc => nb_ascii (hnb c hc))] at hv
        exact hv
      · unfold upL
        rw [List.length_map]
        have := congrArg List.length ht
        rw [List.length_append] at this
        omega
theorem rdVal_snd {l v r : List UInt8} (h : rdVal l = .ok v r) (hv : vld l = true) : plainOk v ∧ vld r = true ∧ (quoteL v).length + r.length ≤ l.length := by
  unfold rdVal at h
  split at h
  · rename_i h1
    obtain ⟨m, rfl⟩ : ∃ m, l = 34 :: m := by
      cases l with
      | nil => cases h1
      | cons a m => simp only [List.head?_cons, Option.some.injEq] at h1; exact ⟨m, by rw [h1]⟩
    rw [vld_byte (by decide)] at hv
    rw [List.drop_succ_cons, List.drop_zero] at h
    unfold rdQuoted at h
    split at h
    · rename_i h2
      injection h with ha hb
      have ht := take_drop (f := qvC) m
      have hall := all_take (f := qvC) m
      have hdd : m.drop ((m.takeWhile qvC).length + 1) = (m.drop (m.takeWhile qvC).length).drop 1 := by rw [List.drop_drop]
      rw [hdd] at hb
      generalize m.takeWhile qvC = t at *
      generalize m.drop t.length = u at *
      obtain ⟨u', rfl⟩ : ∃ u', u = 34 :: u' := by
        cases u with
        | nil => cases h2
        | cons a m => simp only [List.head?_cons, Option.some.injEq] at h2; exact ⟨m, by rw [h2]⟩
      subst ha
      rw [List.drop_succ_cons, List.drop_zero] at hb
      subst hb
      rw [ht] at hv
      obtain ⟨a1, a2⟩ := vld_cut _ t (34 :: u') (Nat.le_refl _) (fun c hc => by simp only [List.head?_cons, Option.some.injEq] at hc; rw [← hc]; decide) hv
      rw [vld_byte (by decide)] at a2
      refine ⟨⟨hall, a1⟩, a2, ?_⟩
      have := quoteL_len t
      have e := congrArg List.length ht
      simp only [List.length_append, List.length_cons] at e ⊢
      omega
    · cases h
  · injection h with ha hb
    have ht := take_drop (f := uvC) l
    have hall := all_take (f := uvC) l
    have hd := fun c hc => drop_head (f := uvC) (l := l) (c := c) hc
    generalize l.takeWhile uvC = t at *
    subst ha
    rw [hb] at ht hd
    rw [ht] at hv
    obtain ⟨a1, a2⟩ := vld_cut _ t r (Nat.le_refl _) (fun c hc => by
      have := hd c hc
      unfold uvC qvC ctlN at this
      simp only [Bool.and_eq_false_iff, Bool.not_eq_false', Bool.or_eq_true, Bool.and_eq_true, decide_eq_true_eq] at this
      omega) hv
    have hu := List.all_eq_true.1 hall
    have hns : hasSep t = false := by
      unfold hasSep
      rw [List.any_eq_false]
      intro c hc
      have := hu c hc
      unfold uvC at this
      simp only [Bool.and_eq_true, Bool.not_eq_true', decide_eq_false_iff_not] at this
      simp only [Bool.or_eq_true, decide_eq_true_eq]
      omega
    refine ⟨⟨?_, a1⟩, a2, ?_⟩
    · rw [List.all_eq_true]
      intro c hc
      have := hu c hc
      unfold uvC at this
      rw [Bool.and_eq_true] at this
      exact this.1
    · unfold quoteL
      rw [hns]
      have e := congrArg List.length ht
      rw [List.length_append] at e
      simp only [Bool.false_eq_true, if_false]
      omega

theorem head_cons {l : List UInt8} {c : UInt8} (h : l.head? = some c) : ∃ m, l = c :: m := by
  cases l with
  | nil => cases h
  | cons a m => simp only [List.head?_cons, Option.some.injEq] at h; exact ⟨m, by rw [h]⟩
theorem rdMore_snd : ∀ (f : Nat) (l : List UInt8) (vs ws : List (List UInt8)) (r : List UInt8), rdMore f l vs = .ok ws r → vld l = true → ∃ us, ws = vs ++ us ∧ (∀ u ∈ us, plainOk u) ∧ vld r = true ∧ (moreL us).length + r.length ≤ l.length
  | 0, l, vs, ws, r, h, hv => by
    rw [rdMore] at h
    injection h with ha hb
    subst ha hb
    exact ⟨[], by simp, (fun u hu => by cases hu), hv, by simp [moreL]⟩
  | f + 1, l, vs, ws, r, h, hv => by
    rw [rdMore] at h
    split at h
    · rename_i h1
      obtain ⟨m, rfl⟩ := head_cons h1
      rw [vld_byte (by decide)] at hv
      rw [List.drop_succ_cons, List.drop_zero] at h
      cases hq : rdVal m with
      | bad e => rw [hq] at h; cases h
      | ok v r1 =>
        rw [hq] at h
        obtain ⟨a1, a2, a3⟩ := rdVal_snd hq hv
        obtain ⟨us, b1, b2, b3, b4⟩ := rdMore_snd f r1 (vs ++ [v]) ws r h a2
        refine ⟨v :: us, by rw [b1]; simp, fun u hu => ?_, b3, ?_⟩
        · rcases List.mem_cons.1 hu with e | hu
          · rw [e]; exact a1
          · exact b2 u hu
        · rw [moreL_cons]
          simp only [List.length_cons, List.length_append]
          omega
    · injection h with ha hb
      subst ha hb
      exact ⟨[], by simp, (fun u hu => by cases hu), hv, by simp [moreL]⟩
theorem rdPar_snd {l r : List UInt8} {p : Par} (h : rdPar l = .ok p r) (hv : vld l = true) : parOk p ∧ vld r = true ∧ (parT p).length + r.length ≤ l.length + 1 := by
  unfold rdPar at h
  cases hn : rdName l with
  | bad e => rw [hn] at h; cases h
  | ok n r1 =>
    rw [hn] at h
    obtain ⟨a1, a2, a3⟩ := rdName_snd hn hv
    dsimp only at h
    split at h
    · rename_i h1
      obtain ⟨m, rfl⟩ := head_cons h1
      rw [vld_byte (by decide)] at a2
      rw [List.drop_succ_cons, List.drop_zero] at h
      cases hq : rdVal m with
      | bad e => rw [hq] at h; cases h
      | ok v r2 =>
        rw [hq] at h
        dsimp only at h
        obtain ⟨b1, b2, b3⟩ := rdVal_snd hq a2
        cases hm : rdMore r2.length r2 [v] with
        | bad e => rw [hm] at h; cases h
        | ok vs r3 =>
          rw [hm] at h
          injection h with ha hb
          subst ha hb
          obtain ⟨us, c1, c2, c3, c4⟩ := rdMore_snd _ _ _ _ _ hm b2
          subst c1
          refine ⟨⟨a1, by simp, fun u hu => ?_⟩, c3, ?_⟩
          · rcases List.mem_append.1 hu with hu | hu
            · rw [List.mem_singleton.1 hu]; exact b1
            · exact c2 u hu
          · have e : valsL ([v] ++ us) = quoteL v ++ moreL us := rfl
            unfold parT
            simp only [e, List.length_cons, List.length_append] at a3 ⊢
            omega
    · cases h
theorem rdPars_snd : ∀ (f : Nat) (l : List UInt8) (ps qs : List Par) (r : List UInt8), rdPars f l ps = .ok qs r → vld l = true → ps.length ≤ 16 → ∃ us, qs = ps ++ us ∧ (∀ u ∈ us, parOk u) ∧ qs.length ≤ 16 ∧ vld r = true ∧ (us.flatMap parT).length + r.length ≤ l.length
  | 0, l, ps, qs, r, h, hv, hl => by
    rw [rdPars] at h
    injection h with ha hb
    subst ha hb
    exact ⟨[], by simp, (fun u hu => by cases hu), hl, hv, by simp⟩
  | f + 1, l, ps, qs, r, h, hv, hl => by
    rw [rdPars] at h
    split at h
    · rename_i h1
      obtain ⟨m, rfl⟩ := head_cons h1
      rw [vld_byte (by decide)] at hv
      rw [List.drop_succ_cons, List.drop_zero] at h
      split at h
      · cases h
      · rename_i h2
        cases hq : rdPar m with
        | bad e => rw [hq] at h; cases h
        | ok p r1 =>
          rw [hq] at h
          obtain ⟨a1, a2, a3⟩ := rdPar_snd hq hv
          obtain ⟨us, b1, b2, b3, b4, b5⟩ := rdPars_snd f r1 (ps ++ [p]) qs r h a2 (by rw [List.length_append, List.length_singleton]; omega)
          refine ⟨p :: us, by rw [b1]; simp, fun u hu => ?_, b3, b4, ?_⟩
          · rcases List.mem_cons.1 hu with e | hu
            · rw [e]; exact a1
            · exact b2 u hu
          · rw [List.flatMap_cons, List.length_append, List.length_cons]
            omega
    · injection h with ha hb
      subst ha hb
      exact ⟨[], by simp, (fun u hu => by cases hu), hl, hv, by simp⟩
theorem rdName_nz {l : List UInt8} {e : Int} (h : rdName l = .bad e) : e ≠ 0 := by
  unfold rdName at h
  split at h
  · injection h with h; subst h; decide
  · split at h
    · injection h with h; subst h; exact eoE_pos _
    · cases h
theorem rdVal_nz {l : List UInt8} {e : Int} (h : rdVal l = .bad e) : e ≠ 0 := by
  unfold rdVal at h
  split at h
  · unfold rdQuoted at h
    split at h
    · cases h
    · injection h with h; subst h; exact eoE_pos _
  · cases h
theorem rdMore_nz : ∀ (f : Nat) (l : List UInt8) (vs : List (List UInt8)) (e : Int), rdMore f l vs = .bad e → e ≠ 0
  | 0, l, vs, e, h => by rw [rdMore] at h; cases h
  | f + 1, l, vs, e, h => by
    rw [rdMore] at h
    split at h
    · cases hq : rdVal (l.drop 1) with
      | bad e2 => rw [hq] at h; injection h with h; subst h; exact rdVal_nz hq
      | ok v r => rw [hq] at h; exact rdMore_nz f _ _ _ h
    · cases h
theorem rdPar_nz {l : List UInt8} {e : Int} (h : rdPar l = .bad e) : e ≠ 0 := by
  unfold rdPar at h
  cases hn : rdName l with
  | bad e2 => rw [hn] at h; injection h with h; subst h; exact rdName_nz hn
  | ok n r =>
    rw [hn] at h
    dsimp only at h
    split at h
    · cases hq : rdVal (r.drop 1) with
      | bad e2 => rw [hq] at h; injection h with h; subst h; exact rdVal_nz hq
      | ok v r2 =>
        rw [hq] at h
        dsimp only at h
        cases hm : rdMore r2.length r2 [v] with
        | bad e2 => rw [hm] at h; injection h with h; subst h; exact rdMore_nz _ _ _ _ hm
        | ok vs r3 => rw [hm] at h; cases h
    · injection h with h; subst h; exact eoE_pos _
theorem rdPars_nz : ∀ (f : Nat) (l : List UInt8) (ps : List Par) (e : Int), rdPars f l ps = .bad e → e ≠ 0
  | 0, l, ps, e, h => by rw [rdPars] at h; cases h
  | f + 1, l, ps, e, h => by
    rw [rdPars] at h
    split at h
    · split at h
      · injection h with h; subst h; decide
      · cases hq : rdPar (l.drop 1) with
        | bad e2 => rw [hq] at h; injection h with h; subst h; exact rdPar_nz hq
        | ok v r => rw [hq] at h; exact rdPars_nz f _ _ _ h
    · cases h
theorem rdRest_nz {l : List UInt8} {e : Int} (h : rdRest l = .bad e) : e ≠ 0 := by
  unfold rdRest at h
  cases hn : rdName l with
  | bad e2 => rw [hn] at h; injection h with h; subst h; exact rdName_nz hn
  | ok n r =>
    rw [hn] at h
    dsimp only at h
    cases hp : rdPars r.length r [] with
    | bad e2 => rw [hp] at h; injection h with h; subst h; exact rdPars_nz _ _ _ _ hp
    | ok ps r2 =>
      rw [hp] at h
      dsimp only at h
      split at h
      · split at h
        · cases h
        · injection h with h; subst h; decide
      · injection h with h; subst h; exact eoE_pos _
/-- What is read of a line is a property that can be; its text is no longer than the line. -/
theorem parL_snd {l : List UInt8} {p : Pro} (h : parL l = (p, 0)) : proOk p ∧ (textL p).length ≤ l.length := by
  unfold parL at h
  split at h
  · injection h with _ h; cases h
  · rename_i h1
    split at h
    · rename_i hv
      cases hr : rdRest l with
      | bad e =>
        rw [hr] at h
        injection h with _ h
        exact absurd h (rdRest_nz hr)
      | ok q r =>
        rw [hr] at h
        injection h with h _
        subst h
        unfold rdRest at hr
        cases hn : rdName l with
        | bad e => rw [hn] at hr; cases hr
        | ok n r1 =>
          rw [hn] at hr
          obtain ⟨a1, a2, a3⟩ := rdName_snd hn hv
          dsimp only at hr
          cases hp : rdPars r1.length r1 [] with
          | bad e => rw [hp] at hr; cases hr
          | ok ps r2 =>
            rw [hp] at hr
            obtain ⟨us, b1, b2, b3, b4, b5⟩ := rdPars_snd _ _ _ _ _ hp a2 (by simp)
            rw [List.nil_append] at b1
            subst b1
            dsimp only at hr
            split at hr
            · rename_i h2
              obtain ⟨m, rfl⟩ := head_cons h2
              rw [vld_byte (by decide)] at b4
              rw [List.drop_succ_cons, List.drop_zero] at hr
              split at hr
              · rename_i h3
                injection hr with ha _
                subst ha
                have hl : (textL ⟨n, ps, m⟩).length ≤ l.length := by
                  unfold textL
                  simp only [List.length_append, List.length_cons] at b5 ⊢
                  omega
                exact ⟨⟨a1, b3, ⟨h3, b4⟩, b2, by omega⟩, hl⟩
              · cases hr
            · cases hr
    · injection h with _ h; cases h

end Go.Proofs.YtlfhhnjdfpgadaaDoor

/-
  What is read of a text of at most 3000 bytes can be: mathematics alone.
-/
namespace Go.Proofs.YtlfhhnjdfpgadaaDoor
open Go.RowKit

def tl (l : List Pro) : Nat := lsum (l.map textL)
theorem tl_app (a b : List Pro) : tl (a ++ b) = tl a + tl b := by unfold tl; rw [List.map_append, lsum_app]
theorem tl_cons (p : Pro) (l : List Pro) : tl (p :: l) = (textL p).length + 1 + tl l := by unfold tl; simp [lsum]
theorem prosCs_snoc : ∀ (l : List CM) (x : CM), prosCs (l ++ [x]) = prosCs l ++ prosC x
  | [], x => by simp [prosCs]
  | c :: l, x => by simp [prosCs, prosCs_snoc l x]
theorem mark_len (w v : List UInt8) : (textL ⟨w, [], upL v⟩).length = (textL ⟨w, [], v⟩).length := by simp [textL, upL]
theorem pro_eta {p : Pro} {w : List UInt8} (h : p.name = w) (h2 : p.pars = []) : p = ⟨w, [], p.value⟩ := by cases p; simp_all
theorem prop_of {p : Pro} (h : proOk p) (h1 : p.name ≠ beginT ∧ p.name ≠ endT) : propB p = true := by
  unfold propB
  rw [(fitB_iff p).2 h, decide_eq_false h1.1, decide_eq_false h1.2]; rfl
theorem take_snd : ∀ (f : Nat) (l : List Pro) (nm : List UInt8) (d : Nat) (ps : List Pro) (cs : List CM) (k : CM) (l' : List Pro), takeC f l nm d ps cs = .ok (k, l') → (∀ p ∈ l, proOk p) → nameB nm = true → d ≤ 12 → (∀ p ∈ ps, propB p = true) → (∀ c ∈ cs, fitC (12 - d) c = true) →
    fitC (13 - d) k = true ∧ (∀ p ∈ l', proOk p) ∧ tl (prosC k) + tl l' = tl (⟨beginT, [], nm⟩ :: (ps ++ prosCs cs)) + tl l ∧ (prosC k).length + l'.length = 1 + ps.length + (prosCs cs).length + l.length
  | 0, _, _, _, _, _, _, _, h, _, _, _, _, _ => by rw [takeC] at h; cases h
  | f + 1, [], nm, d, ps, cs, k, l', h, _, _, _, _, _ => by rw [takeC] at h; cases h
  | f + 1, p :: l, nm, d, ps, cs, k, l', h, hl, hn, hd, hps, hcs => by
    have hp := hl p (List.mem_cons_self ..)
    have hl2 := fun q hq => hl q (List.mem_cons_of_mem p hq)
    rw [takeC] at h
    split at h
    · rename_i h1
      obtain ⟨a1, a2, a3, a4⟩ := take_snd f l nm d (ps ++ [p]) cs k l' h hl2 hn hd (fun q hq => by
        rcases List.mem_append.1 hq with hq | hq
        · exact hps q hq
        · rw [List.mem_singleton.1 hq]; exact prop_of hp h1) hcs
      refine ⟨a1, a2, ?_, ?_⟩
      · rw [a3]
        have hnil : tl [] = 0 := rfl
        simp only [tl_cons, tl_app, hnil]
        omega
      · rw [a4]; simp only [List.length_append, List.length_cons, List.length_nil]; omega
    · rename_i h1
      split at h
      · cases h
      · rename_i h2
        have h2a : p.pars = [] := Classical.byContradiction fun x => h2 (.inl x)
        have h2b : nameB (upL p.value) = true := by
          cases hx : nameB (upL p.value) with
          | true => rfl
          | false => exact absurd (.inr hx) h2
        split at h
        · rename_i h3
          split at h
          · cases h
          · rename_i h4
            have h4 : upL p.value = nm := Classical.byContradiction h4
            injection h with h
            injection h with ha hb
            subst ha hb
            have hpe := pro_eta h3 h2a
            have hlen : (textL p).length = (textL ⟨endT, [], nm⟩).length := by
              rw [← h4, mark_len, ← hpe]
            refine ⟨?_, hl2, ?_, ?_⟩
            · obtain ⟨e, he⟩ : ∃ e, 13 - d = e + 1 := ⟨12 - d, by omega⟩
              have he2 : 12 - d = e := by omega
              rw [he2] at hcs
              rw [he, fitC, hn, List.all_eq_true.2 hps, List.all_eq_true.2 hcs]; rfl
            · rw [prosC]
              simp only [tl_cons, tl_app, hlen]
              simp only [tl, List.map_nil, lsum, List.sum_nil]
              omega
            · rw [prosC]
              simp only [List.length_append, List.length_cons, List.length_nil]
              omega
        · rename_i h3
          have h5 : p.name = beginT := Classical.byContradiction fun x => h1 ⟨x, h3⟩
          split at h
          · cases h
          · rename_i h4
            cases hq : takeC f l (upL p.value) (d + 1) [] [] with
            | error e => rw [hq] at h; cases h
            | ok kl =>
              obtain ⟨k1, l1⟩ := kl
              rw [hq] at h
              obtain ⟨a1, a2, a3, a4⟩ := take_snd f l (upL p.value) (d + 1) [] [] k1 l1 hq hl2 h2b (by omega) (fun q hq => by cases hq) (fun q hq => by cases hq)
              have hdd : 13 - (d + 1) = 12 - d := by omega
              rw [hdd] at a1
              obtain ⟨b1, b2, b3, b4⟩ := take_snd f l1 nm d ps (cs ++ [k1]) k l' h a2 hn hd hps (fun c hc => by
                rcases List.mem_append.1 hc with hc | hc
                · exact hcs c hc
                · rw [List.mem_singleton.1 hc]; exact a1)
              have hpe := pro_eta h5 h2a
              have hlen : (textL p).length = (textL ⟨beginT, [], upL p.value⟩).length := by
                rw [mark_len, ← hpe]
              rw [prosCs_snoc] at b3 b4
              refine ⟨b1, b2, ?_, ?_⟩
              · simp only [tl_cons, tl_app, List.nil_append, prosCs] at a3 b3 ⊢
                have hnil : tl [] = 0 := rfl
                omega
              · simp only [List.length_append, List.length_cons, List.length_nil, prosCs] at a4 b4 ⊢
                omega
theorem foldF_23 : ∀ (f : Nat) (l : List UInt8) (n : Nat), 23 * (foldF f l n).length ≤ 24 * l.length + n
  | 0, l, n => by simp [foldF]
  | f + 1, l, n => by
    rw [foldF]
    split
    · simp
    · rename_i h
      have h1 := stepL_pos l
      have h2 := stepL_le h
      have h3 := foldF_23 f (l.drop (stepL l)) (1 + stepL l)
      have h4 := foldF_23 f (l.drop (stepL l)) (n + stepL l)
      simp only [List.length_drop] at h3 h4
      split <;> simp only [List.length_cons, List.length_append, List.length_take] <;> omega
theorem foldL_47 : ∀ ls : List (List UInt8), (∀ x ∈ ls, x ≠ []) → 23 * (foldL ls).length ≤ 47 * lsum ls
  | [], _ => by simp [foldL, lsum]
  | x :: ls, h => by
    have ih := foldL_47 ls (fun y hy => h y (List.mem_cons_of_mem _ hy))
    have hx : 0 < x.length := List.length_pos_iff.2 (h x (List.mem_cons_self ..))
    have h1 := foldF_23 x.length x 0
    have e : foldL (x :: ls) = lineF x ++ foldL ls := by simp [foldL]
    have e2 : lsum (x :: ls) = x.length + 1 + lsum ls := by simp [lsum]
    have e3 : (lineF x).length = (foldF x.length x 0).length + 2 := by simp [lineF]
    rw [e, e2, List.length_append, e3]
    omega
theorem strip_lenC (a : List UInt8) : (stripL a).length ≤ a.length := by
  unfold stripL
  split
  · rw [List.length_dropLast]; omega
  · exact Nat.le_refl _
theorem raw_sum : ∀ (s acc : List UInt8), lsum (rawG s acc) ≤ acc.length + s.length + 1
  | [], acc => by
    rw [rawG]
    split
    · simp [lsum]
    · simp [lsum]
  | c :: s, acc => by
    rw [rawG]
    split
    · have h1 := raw_sum s []
      have h2 := strip_lenC acc
      have e : lsum (stripL acc :: rawG s []) = (stripL acc).length + 1 + lsum (rawG s []) := by simp [lsum]
      rw [e, List.length_cons]
      simp only [List.length_nil] at h1
      omega
    · have h1 := raw_sum s (acc ++ [c])
      rw [List.length_append, List.length_singleton] at h1
      rw [List.length_cons]; omega

theorem lsum_one (x : List UInt8) : lsum [x] = x.length + 1 := by simp [lsum]
theorem last_split : ∀ (out : List (List UInt8)), out ≠ [] → out = out.dropLast ++ [out.getLastD []]
  | [], h => absurd rfl h
  | [x], _ => rfl
  | x :: y :: l, _ => by
    have ih := last_split (y :: l) (by simp)
    have e1 : (x :: y :: l).dropLast = x :: (y :: l).dropLast := rfl
    have e2 : (x :: y :: l).getLastD [] = (y :: l).getLastD [] := by simp [List.getLastD]
    rw [e1, e2, List.cons_append, ← ih]
theorem join_sum : ∀ (xs out ls : List (List UInt8)), joinP xs out = some ls → lsum ls ≤ lsum out + lsum xs
  | [], out, ls, h => by
    rw [joinP] at h
    injection h with h
    subst h
    omega
  | x :: xs, out, ls, h => by
    have ex : lsum (x :: xs) = x.length + 1 + lsum xs := by simp [lsum]
    rw [joinP] at h
    split at h
    · have := join_sum xs _ ls h
      rw [lsum_app, lsum_one] at this
      omega
    · split at h
      · cases h
      · rename_i hne
        have hs := last_split out hne
        have hw := congrArg lsum hs
        rw [lsum_app, lsum_one] at hw
        have := join_sum xs _ ls h
        rw [lsum_app, lsum_one, List.length_append, List.length_drop] at this
        omega
theorem chk_fine : ∀ (l : List (List UInt8)) (i : Nat), i ≤ 400 → chkP i l = 0 → i + l.length ≤ 400 ∧ ∀ x ∈ l, x ≠ []
  | [], i, hi, _ => ⟨by simpa using hi, fun x hx => by cases hx⟩
  | x :: xs, i, hi, h => by
    rw [chkP] at h
    split at h
    · cases h
    · rename_i hx
      split at h
      · cases h
      · rename_i h4
        split at h
        · cases h
        · obtain ⟨a, b⟩ := chk_fine xs (i + 1) (by omega) h
          refine ⟨by rw [List.length_cons]; omega, fun y hy => ?_⟩
          rcases List.mem_cons.1 hy with rfl | hy
          · exact hx
          · exact b y hy
theorem unfQ_snd {s : List UInt8} {ls : List (List UInt8)} (h : unfQ s = (ls, 0)) : lsum ls ≤ s.length + 1 ∧ ls.length ≤ 400 ∧ ∀ x ∈ ls, x ≠ [] := by
  have hr := raw_sum s []
  simp only [List.length_nil] at hr
  unfold unfQ at h
  split at h
  · injection h with _ h; cases h
  · split at h
    · injection h with _ h; cases h
    · rename_i l hj
      split at h
      · rename_i hc
        injection h with h _
        subst h
        obtain ⟨a, b⟩ := chk_fine l 0 (by omega) hc
        have := join_sum _ _ _ hj
        have e : lsum [] = 0 := rfl
        exact ⟨by omega, by omega, b⟩
      · rename_i hc
        injection h with _ h
        exact absurd h hc
theorem read_snd : ∀ (ls : List (List UInt8)) (l : List Pro), readL ls = (l, 0) → (∀ p ∈ l, proOk p) ∧ tl l ≤ lsum ls ∧ l.length = ls.length
  | [], l, h => by
    rw [readL] at h
    injection h with h _
    subst h
    exact ⟨(fun p hp => by cases hp), Nat.le_refl _, rfl⟩
  | x :: xs, l, h => by
    rw [readL] at h
    split at h
    · rename_i h1
      injection h with _ h
      exact absurd h h1
    · rename_i h1
      have h1 : (parL x).2 = 0 := Classical.byContradiction h1
      injection h with ha hb
      subst ha
      obtain ⟨a1, a2, a3⟩ := read_snd xs (readL xs).1 (by rw [← hb])
      obtain ⟨b1, b2⟩ := parL_snd (l := x) (p := (parL x).1) (by rw [← h1])
      refine ⟨fun p hp => ?_, ?_, by rw [List.length_cons, List.length_cons, a3]⟩
      · rcases List.mem_cons.1 hp with e | hp
        · rw [e]; exact b1
        · exact a1 p hp
      · have ex : lsum (x :: xs) = x.length + 1 + lsum xs := by simp [lsum]
        rw [tl_cons, ex]; omega
/-- What is read of a text of at most 3000 bytes can be. -/
theorem parC_fit {s : List UInt8} {c : CM} (h : parC s = .ok c) (hs : s.length ≤ 3000) : fitT c = true := by
  unfold parC at h
  split at h
  · cases h
  · rename_i hu0
    have hu0 : (unfQ s).2 = 0 := Classical.byContradiction hu0
    obtain ⟨u1, u2, u3⟩ := unfQ_snd (s := s) (ls := (unfQ s).1) (by rw [← hu0])
    generalize (unfQ s).1 = ls at *
    cases hr : readL ls with
    | mk l bad =>
      rw [hr] at h
      cases l with
      | nil => cases h
      | cons p l =>
        dsimp only at h
        split at h
        · cases h
        · rename_i h1
          cases ht : takeC (l.length + 1) l (upL p.value) 1 [] [] with
          | error e => rw [ht] at h; cases h
          | ok kr =>
            obtain ⟨k, rest⟩ := kr
            rw [ht] at h
            dsimp only at h
            split at h
            · cases h
            · rename_i h2
              have h2 : rest = [] := Classical.byContradiction h2
              split at h
              · cases h
              · rename_i h3
                have h3 : bad = 0 := Classical.byContradiction h3
                injection h with h
                subst h h2 h3
                obtain ⟨r1, r2, r3⟩ := read_snd ls (p :: l) hr
                have hn : p.name = beginT := Classical.byContradiction fun x => h1 (.inl x)
                have hp : p.pars = [] := Classical.byContradiction fun x => h1 (.inr (.inl x))
                have hu : nameB (upL p.value) = true := by
                  cases hx : nameB (upL p.value) with
                  | true => rfl
                  | false => exact absurd (.inr (.inr hx)) h1
                obtain ⟨t1, _, t3, t4⟩ := take_snd _ l (upL p.value) 1 [] [] k [] ht (fun q hq => r1 q (List.mem_cons_of_mem _ hq)) hu (by omega) (fun q hq => by cases hq) (fun q hq => by cases hq)
                have hlen : (textL p).length = (textL ⟨beginT, [], upL p.value⟩).length := by
                  rw [mark_len, ← pro_eta hn hp]
                obtain ⟨e1, e2⟩ := lines_pros 12 k t1
                have hnil : tl [] = 0 := rfl
                simp only [tl_cons, List.nil_append, prosCs, hnil] at t3
                simp only [List.length_nil, prosCs, List.length_cons] at t4 r3
                rw [tl_cons] at r2
                have hsum : lsum (linesC k) ≤ 3001 := by
                  rw [e1]
                  show tl (prosC k) ≤ 3001
                  omega
                have hcnt : (linesC k).length ≤ 400 := by
                  rw [e1, List.length_map]; omega
                have h47 := foldL_47 (linesC k) (fun x hx => by
                  rw [e1] at hx
                  obtain ⟨q, hq, rfl⟩ := List.mem_map.1 hx
                  exact (line_text (e2 q hq)).1)
                unfold fitT
                rw [t1, decide_eq_true hcnt, decide_eq_true (by omega)]; rfl

end Go.Proofs.YtlfhhnjdfpgadaaDoor

/-
  Parse's machine, line by line, and that it tells what parC tells; a name between BEGIN or END and a line's end; how much a component weighs: mathematics alone.
-/
namespace Go.Proofs.YtlfhhnjdfpgadaaDoor
open Go.RowKit

/-- What a property weighs. -/
def wPar (x : Par) : Nat := x.name.length + (x.vals.map fun v => v.length + 1).sum + 1
def wP (p : Pro) : Nat := p.name.length + (p.pars.map wPar).sum + p.value.length + 1
theorem vsize_w : ∀ l : List ByteArray, vsize l = ((l.map fun b => b.data.toList).map fun v => v.length + 1).sum
  | [] => rfl
  | x :: l => by
    have ih := vsize_w l
    have e : x.data.toList.length = x.size := (bsize x).symm
    unfold vsize at ih ⊢
    simp only [List.map_cons, List.sum_cons]
    rw [ih, e]
theorem psizes_w : ∀ l : List PR, psizes l = ((l.map parOf).map wPar).sum
  | [] => rfl
  | r :: l => by
    have ih := psizes_w l
    have e : r.name.data.toList.length = r.name.size := (bsize r.name).symm
    have e2 := vsize_w r.vs
    have e3 : wPar (parOf r) = psize r := by unfold wPar psize parOf; rw [e2, ← e]
    unfold psizes at ih ⊢
    simp only [List.map_cons, List.sum_cons]
    rw [ih, e3]
theorem qsize_w (q : QR) : qsize q = wP (proQ q) := by
  unfold qsize wP proQ proOf
  rw [psizes_w, bsize q.name, bsize q.vl]
theorem qsizes_w (l : List QR) : qsizes l = ((l.map proQ).map wP).sum := by
  unfold qsizes
  rw [List.map_map]
  exact congrArg List.sum (List.map_congr_left fun q _ => qsize_w q)
mutual
def wC : CM → Nat
  | .mk nm ps cs => nm.length + (ps.map wP).sum + wCs cs + 1
def wCs : List CM → Nat
  | [] => 0
  | c :: cs => wC c + wCs cs
end
mutual
theorem csize_w : ∀ r : CR, csize r = wC (compOf r)
  | .mk nm A n c qs K k kc cs => by rw [csize, compOf, wC, csizes_w cs, qsizes_w, bsize nm]
theorem csizes_w : ∀ l : List CR, csizes l = wCs (compsOf l)
  | [] => by rw [csizes, compsOf, wCs]
  | c :: cs => by rw [csizes, compsOf, wCs, csize_w c, csizes_w cs]
end
theorem quote_len (v : List UInt8) : v.length ≤ (quoteL v).length := by
  unfold quoteL
  split
  · simp; omega
  · exact Nat.le_refl _
theorem more_len : ∀ vs : List (List UInt8), (vs.map fun v => v.length + 1).sum ≤ (moreL vs).length
  | [] => by simp [moreL]
  | v :: vs => by
    have ih := more_len vs
    have := quote_len v
    unfold moreL at ih ⊢
    simp only [List.map_cons, List.sum_cons, List.flatMap_cons, List.length_append, List.length_cons] at ih ⊢
    omega
theorem par_len {x : Par} (h : x.vals ≠ []) : wPar x ≤ (parT x).length := by
  unfold wPar parT
  cases hv : x.vals with
  | nil => exact absurd hv h
  | cons v vs =>
    have h1 := quote_len v
    have h2 := more_len vs
    simp only [valsL, List.map_cons, List.sum_cons, List.length_append, List.length_cons]
    omega
theorem pars_len : ∀ ps : List Par, (∀ x ∈ ps, parOk x) → (ps.map wPar).sum ≤ (ps.flatMap parT).length
  | [], _ => by simp
  | x :: ps, h => by
    have ih := pars_len ps (fun y hy => h y (List.mem_cons_of_mem _ hy))
    have h1 := par_len (h x (List.mem_cons_self ..)).2.1
    simp only [List.map_cons, List.sum_cons, List.flatMap_cons, List.length_append]
    omega
theorem wP_text {p : Pro} (h : proOk p) : wP p ≤ (textL p).length := by
  have := pars_len p.pars h.2.2.2.1
  unfold wP textL
  simp only [List.length_append, List.length_cons]
  omega
theorem tl_props : ∀ ps : List Pro, (∀ p ∈ ps, proOk p) → (ps.map wP).sum ≤ tl ps
  | [], _ => by simp
  | p :: ps, h => by
    have ih := tl_props ps (fun q hq => h q (List.mem_cons_of_mem _ hq))
    have := wP_text (h p (List.mem_cons_self ..))
    rw [tl_cons]
    simp only [List.map_cons, List.sum_cons]
    omega
theorem wC_tl : ∀ (d : Nat) (c : CM), fitC d c = true → wC c ≤ tl (prosC c)
  | 0, c, h => by cases c; rw [fitC] at h; cases h
  | d + 1, .mk nm ps cs, h => by
    obtain ⟨hn, hp, hc⟩ := fitC_mk h
    have hcs : ∀ l : List CM, (∀ c ∈ l, fitC d c = true) → wCs l ≤ tl (prosCs l) := by
      intro l
      induction l with
      | nil => intro _; rw [wCs]; omega
      | cons c l ih =>
        intro hl
        have a := wC_tl d c (hl c (List.mem_cons_self ..))
        have b := ih (fun c hc => hl c (List.mem_cons_of_mem _ hc))
        rw [wCs, prosCs, tl_app]; omega
    have h1 := tl_props ps (fun p hq => (prop_ok (hp p hq)).1)
    have h2 := hcs cs hc
    rw [wC, prosC, tl_cons, tl_app, tl_app]
    have : nm.length + 1 ≤ (textL ⟨beginT, [], nm⟩).length := by simp [textL]
    omega
/-- What is read weighs no more than the text. -/
theorem parC_size {s : List UInt8} {c : CM} (h : parC s = .ok c) : wC c ≤ s.length + 1 := by
  unfold parC at h
  split at h
  · cases h
  · rename_i hu0
    have hu0 : (unfQ s).2 = 0 := Classical.byContradiction hu0
    obtain ⟨u1, u2, u3⟩ := unfQ_snd (s := s) (ls := (unfQ s).1) (by rw [← hu0])
    generalize (unfQ s).1 = ls at *
    cases hr : readL ls with
    | mk l bad =>
      rw [hr] at h
      cases l with
      | nil => cases h
      | cons p l =>
        dsimp only at h
        split at h
        · cases h
        · rename_i h1
          cases ht : takeC (l.length + 1) l (upL p.value) 1 [] [] with
          | error e => rw [ht] at h; cases h
          | ok kr =>
            obtain ⟨k, rest⟩ := kr
            rw [ht] at h
            dsimp only at h
            split at h
            · cases h
            · rename_i h2
              have h2 : rest = [] := Classical.byContradiction h2
              split at h
              · cases h
              · rename_i h3
                have h3 : bad = 0 := Classical.byContradiction h3
                injection h with h
                subst h h2 h3
                obtain ⟨r1, r2, r3⟩ := read_snd ls (p :: l) hr
                have hn : p.name = beginT := Classical.byContradiction fun x => h1 (.inl x)
                have hp : p.pars = [] := Classical.byContradiction fun x => h1 (.inr (.inl x))
                have hu : nameB (upL p.value) = true := by
                  cases hx : nameB (upL p.value) with
                  | true => rfl
                  | false => exact absurd (.inr (.inr hx)) h1
                obtain ⟨t1, _, t3, t4⟩ := take_snd _ l (upL p.value) 1 [] [] k [] ht (fun q hq => r1 q (List.mem_cons_of_mem _ hq)) hu (by omega) (fun q hq => by cases hq) (fun q hq => by cases hq)
                have hlen : (textL p).length = (textL ⟨beginT, [], upL p.value⟩).length := by
                  rw [mark_len, ← pro_eta hn hp]
                have hnil : tl [] = 0 := rfl
                simp only [tl_cons, List.nil_append, prosCs, hnil] at t3
                rw [tl_cons] at r2
                have := wC_tl 12 k t1
                omega

/-- One component that has begun. -/
structure Frm where
  name : List UInt8
  ps : List Pro
  cs : List CM
def Frm.whole (f : Frm) : CM := .mk f.name f.ps f.cs
/-- What BEGIN or END marks: none. -/
def unmarked (p : Pro) : Prop := p.pars ≠ [] ∨ nameB (upL p.value) = false
instance (p : Pro) : Decidable (unmarked p) := by unfold unmarked; infer_instance
/-- One line more: the innermost first; the last one stands for the text. -/
def stepF : List Frm → Pro → Except Int (List Frm)
  | [], _ => .error 10
  | [f], p => if p.name ≠ beginT ∨ f.cs ≠ [] then .error 10 else if unmarked p then .error 10 else .ok [⟨upL p.value, [], []⟩, f]
  | f :: g :: st, p =>
    if p.name ≠ beginT ∧ p.name ≠ endT then .ok ({ f with ps := f.ps ++ [p] } :: g :: st)
    else if unmarked p then .error 10
    else if p.name = beginT then (if 12 ≤ st.length + 1 then .error 24 else .ok (⟨upL p.value, [], []⟩ :: f :: g :: st))
    else if upL p.value ≠ f.name then .error 31
    else .ok ({ g with cs := g.cs ++ [f.whole] } :: st)
def runF : List Frm → List (List UInt8) → Except Int (List Frm)
  | fs, [] => .ok fs
  | fs, x :: xs => if (parL x).2 ≠ 0 then .error (parL x).2 else match stepF fs (parL x).1 with | .error e => .error e | .ok fs' => runF fs' xs
/-- What is told at the end. -/
def tellF (fs : List Frm) : Except Int CM := match (fs.getLast?.map Frm.cs).getD [] with | [] => .error 11 | c :: _ => .ok c
def endF (r : Except Int (List Frm)) : Except Int CM := match r with | .error e => .error e | .ok fs => tellF fs
def root (cs : List CM) : Frm := ⟨[], [], cs⟩
/-- The whole text behind its first component. -/
def wholeP (k : CM) (l : List Pro) (bad : Int) : Except Int CM := if l ≠ [] then .error 10 else if bad ≠ 0 then .error bad else .ok k
/-- The same on properties that have been read. -/
def goP : Frm → List Frm → List Pro → Int → Except Int CM
  | _, _, [], bad => .error (if bad = 0 then 11 else bad)
  | f, st, p :: l, bad =>
    if p.name ≠ beginT ∧ p.name ≠ endT then goP { f with ps := f.ps ++ [p] } st l bad
    else if unmarked p then .error 10
    else if p.name = beginT then (if 12 ≤ st.length + 1 then .error 24 else goP ⟨upL p.value, [], []⟩ (f :: st) l bad)
    else if upL p.value ≠ f.name then .error 31
    else match st with
      | [] => wholeP f.whole l bad
      | g :: st' => goP { g with cs := g.cs ++ [f.whole] } st' l bad
def closeP (k : CM) : List Frm → List Pro → Int → Except Int CM
  | [], l, bad => wholeP k l bad
  | g :: st, l, bad => goP { g with cs := g.cs ++ [k] } st l bad
theorem goP_cons (f : Frm) (st : List Frm) (p : Pro) (l : List Pro) (bad : Int) : goP f st (p :: l) bad =
    if p.name ≠ beginT ∧ p.name ≠ endT then goP { f with ps := f.ps ++ [p] } st l bad
    else if unmarked p then .error 10
    else if p.name = beginT then (if 12 ≤ st.length + 1 then .error 24 else goP ⟨upL p.value, [], []⟩ (f :: st) l bad)
    else if upL p.value ≠ f.name then .error 31
    else closeP f.whole st l bad := by
  cases st <;> (rw [goP.eq_def]; rfl)
theorem goP_take : ∀ (F : Nat) (l : List Pro) (f : Frm) (st : List Frm) (bad : Int), l.length + 1 ≤ F → st.length + 1 ≤ 12 →
    goP f st l bad = (match takeC F l f.name (st.length + 1) f.ps f.cs with | .error e => .error (if e = 11 ∧ bad ≠ 0 then bad else e) | .ok (k, l') => closeP k st l' bad)
  | 0, l, f, st, bad, hF, _ => absurd hF (by omega)
  | F + 1, [], f, st, bad, hF, _ => by
    rw [goP, takeC]
    by_cases h : bad = 0 <;> simp [h]
  | F + 1, p :: l, f, st, bad, hF, hd => by
    rw [goP_cons, takeC]
    rw [List.length_cons] at hF
    by_cases h1 : p.name ≠ beginT ∧ p.name ≠ endT
    · rw [if_pos h1, if_pos h1]
      exact goP_take F l { f with ps := f.ps ++ [p] } st bad (by omega) hd
    · rw [if_neg h1, if_neg h1]
      by_cases h2 : unmarked p
      · rw [if_pos h2, if_pos (show p.pars ≠ [] ∨ nameB (upL p.value) = false from h2)]
        simp
      · rw [if_neg h2, if_neg (show ¬ (p.pars ≠ [] ∨ nameB (upL p.value) = false) from h2)]
        by_cases h3 : p.name = beginT
        · have h4 : p.name ≠ endT := fun e => begin_ne_end (h3.symm.trans e)
          rw [if_pos h3, if_neg h4]
          by_cases h5 : 12 ≤ st.length + 1
          · rw [if_pos h5, if_pos (by omega)]
            simp
          · rw [if_neg h5, if_neg (by omega)]
            rw [goP_take F l ⟨upL p.value, [], []⟩ (f :: st) bad (by omega) (by rw [List.length_cons]; omega)]
            rw [List.length_cons]
            cases hq : takeC F l (upL p.value) (st.length + 1 + 1) [] [] with
            | error e => rfl
            | ok kl =>
              obtain ⟨k, l'⟩ := kl
              have hlen := take_len F _ _ _ _ _ _ _ hq
              dsimp only
              rw [closeP]
              exact goP_take F l' { f with cs := f.cs ++ [k] } st bad (by omega) hd
        · have h4 : p.name = endT := Classical.byContradiction fun e => h1 ⟨h3, e⟩
          rw [if_neg h3, if_pos h4]
          by_cases h5 : upL p.value ≠ f.name
          · rw [if_pos h5, if_pos h5]
            simp
          · rw [if_neg h5, if_neg h5]
            cases st <;> rfl
theorem run_whole (k : CM) : ∀ xs : List (List UInt8), endF (runF [root [k]] xs) = wholeP k (readL xs).1 (readL xs).2
  | [] => rfl
  | x :: xs => by
    rw [runF, readL]
    by_cases h : (parL x).2 ≠ 0
    · rw [if_pos h, if_pos h]
      show _ = wholeP k [] (parL x).2
      unfold wholeP
      rw [if_neg (by simp), if_pos h]; rfl
    · rw [if_neg h, if_neg h]
      have : stepF [root [k]] (parL x).1 = .error 10 := by rw [stepF, if_pos (.inr (by simp [root]))]
      rw [this]
      unfold wholeP
      rw [if_pos (by simp)]; rfl
theorem run_go : ∀ (xs : List (List UInt8)) (f : Frm) (st : List Frm), endF (runF (f :: (st ++ [root []])) xs) = goP f st (readL xs).1 (readL xs).2
  | [], f, st => by
    rw [runF, readL, goP]
    show tellF _ = _
    unfold tellF
    rw [show (f :: (st ++ [root []])).getLast? = some (root []) by rw [← List.cons_append, List.getLast?_append]; rfl]
    rfl
  | x :: xs, f, st => by
    rw [runF, readL]
    by_cases h : (parL x).2 ≠ 0
    · rw [if_pos h, if_pos h, goP, if_neg h]; rfl
    · rw [if_neg h, if_neg h, goP_cons]
      generalize (parL x).1 = p
      have hst : ∃ g st2, st ++ [root []] = g :: st2 ∧ st2.length + 1 = st.length + 1 := by
        cases st with
        | nil => exact ⟨_, [], rfl, rfl⟩
        | cons g st => exact ⟨g, st ++ [root []], rfl, by simp⟩
      obtain ⟨g, st2, e, hl⟩ := hst
      rw [e, stepF]
      by_cases h1 : p.name ≠ beginT ∧ p.name ≠ endT
      · rw [if_pos h1, if_pos h1]
        dsimp only
        rw [← e]
        exact run_go xs { f with ps := f.ps ++ [p] } st
      · rw [if_neg h1, if_neg h1]
        by_cases h2 : unmarked p
        · rw [if_pos h2, if_pos h2]; rfl
        · rw [if_neg h2, if_neg h2]
          by_cases h3 : p.name = beginT
          · rw [if_pos h3, if_pos h3, hl]
            by_cases h5 : 12 ≤ st.length + 1
            · rw [if_pos h5, if_pos h5]; rfl
            · rw [if_neg h5, if_neg h5]
              dsimp only
              rw [← e]
              exact run_go xs ⟨upL p.value, [], []⟩ (f :: st)
          · rw [if_neg h3, if_neg h3]
            by_cases h5 : upL p.value ≠ f.name
            · rw [if_pos h5, if_pos h5]; rfl
            · rw [if_neg h5, if_neg h5]
              cases st with
              | nil =>
                injection e with e1 e2
                subst e1 e2
                exact run_whole f.whole xs
              | cons g' st' =>
                injection e with e1 e2
                subst e1 e2
                exact run_go xs { g' with cs := g'.cs ++ [f.whole] } st'
/-- What Parse tells, by its machine. -/
theorem parC_run (s : List UInt8) (h : (unfQ s).2 = 0) : parC s = endF (runF [root []] (unfQ s).1) := by
  unfold parC
  rw [if_neg (by simp [h])]
  generalize (unfQ s).1 = ls
  cases ls with
  | nil => rfl
  | cons x xs =>
    rw [readL, runF]
    by_cases h1 : (parL x).2 ≠ 0
    · rw [if_pos h1, if_pos h1]
      dsimp only
      rw [if_neg h1]; rfl
    · rw [if_neg h1, if_neg h1]
      dsimp only
      generalize (parL x).1 = p
      rw [stepF]
      by_cases h2 : p.name ≠ beginT
      · rw [if_pos (.inl h2), if_pos (.inl h2)]; rfl
      · by_cases h3 : unmarked p
        · rw [if_pos (.inr h3), if_neg (by simp [h2, root]), if_pos h3]; rfl
        · have h4 : ¬ (p.name ≠ beginT ∨ p.pars ≠ [] ∨ nameB (upL p.value) = false) := fun e => e.elim h2 h3
          rw [if_neg h4, if_neg (by simp [h2, root]), if_neg h3]
          dsimp only
          have hg := run_go xs ⟨upL p.value, [], []⟩ []
          rw [List.nil_append] at hg
          rw [hg, goP_take ((readL xs).1.length + 1) _ _ _ _ (Nat.le_refl _) (by simp)]
          dsimp only [List.length_nil]
          cases takeC ((readL xs).1.length + 1) (readL xs).1 (upL p.value) (0 + 1) [] [] with
          | error e => rfl
          | ok kr => obtain ⟨k, rest⟩ := kr; rfl
end Go.Proofs.YtlfhhnjdfpgadaaDoor
