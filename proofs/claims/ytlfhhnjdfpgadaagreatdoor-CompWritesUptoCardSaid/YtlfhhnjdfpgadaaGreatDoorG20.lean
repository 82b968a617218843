/-
  Plain mathematics for layer 11: the program's reader of a property, byte by byte, tells what is read.
-/
import Derived.Test.YtlfhhnjdfpgadaaGreatDoorG04
import Derived.Test.YtlfhhnjdfpgadaaGreatDoorG19
import Derived.Test.YtlfhhnjdfpgadaaGreatDoorG05
import Derived.Test.YtlfhhnjdfpgadaaGreatDoorG09
namespace Go.Proofs.YtlfhhnjdfpgadaaGreatDoor
open Go.RowKit

/-- The reader of Parse: where it stands, what has come there, what is kept. -/
structure Mac where
  st : Nat
  got : List UInt8
  name : List UInt8
  pars : List Par
  value : List UInt8
def goM : Nat → UInt8 → Bool
  | 0, c => nbC c
  | 1, c => nbC c
  | 2, c => uvC c
  | 3, c => qvC c
  | 5, c => !ctlN c.toNat
  | _, _ => false
def fullM (m : Mac) : Bool := (decide (m.st = 0) || decide (m.st = 1)) && decide (m.got.length = 64)
def markC (c : UInt8) : Bool := decide (c.toNat = 44) || decide (c.toNat = 59) || decide (c.toNat = 58)
def endsM (m : Mac) (c : UInt8) : Bool :=
  match m.st with
  | 0 => decide (m.got ≠ []) && (decide (c.toNat = 59) || decide (c.toNat = 58))
  | 1 => decide (m.got ≠ []) && decide (c.toNat = 61)
  | 2 => markC c || (decide (c.toNat = 34) && decide (m.got = []))
  | 3 => decide (c.toNat = 34)
  | 4 => markC c
  | _ => false
def addV (ps : List Par) (v : List UInt8) : List Par :=
  match ps.getLast? with
  | some p => ps.dropLast ++ [⟨p.name, p.vals ++ [v]⟩]
  | none => ps
def keepM (m : Mac) : Mac :=
  match m.st with
  | 0 => ⟨m.st, [], upL m.got, m.pars, m.value⟩
  | 1 => ⟨m.st, [], m.name, m.pars ++ [⟨upL m.got, []⟩], m.value⟩
  | 5 => ⟨m.st, [], m.name, m.pars, m.got⟩
  | _ => ⟨m.st, [], m.name, addV m.pars m.got, m.value⟩
def nextM (st : Nat) (c : UInt8) : Nat := if c.toNat = 59 then 1 else if c.toNat = 58 then 5 else if c.toNat ≠ 34 then 2 else if st = 2 then 3 else 4
def setM (m : Mac) (k : Nat) : Mac := ⟨k, m.got, m.name, m.pars, m.value⟩
def endM (m : Mac) (c : UInt8) : Mac := setM (if c.toNat = 34 then m else keepM m) (nextM m.st c)
def pushM (m : Mac) (c : UInt8) : Mac := ⟨m.st, m.got ++ [c], m.name, m.pars, m.value⟩
def stepM (m : Mac) (c : UInt8) : Mac ⊕ Int :=
  if goM m.st c = true then (if fullM m = true then .inr 12 else .inl (pushM m c))
  else if endsM m c = false then .inr 10
  else if c.toNat = 59 ∧ m.pars.length = 16 then .inr 27
  else .inl (endM m c)
def runM : List UInt8 → Mac → Mac ⊕ Int
  | [], m => .inl m
  | c :: l, m => match stepM m c with | .inl m2 => runM l m2 | .inr e => .inr e
def finM : Mac ⊕ Int → Pro × Int
  | .inr e => (noPro, e)
  | .inl m => if m.st = 5 then (⟨(keepM m).name, (keepM m).pars, (keepM m).value⟩, 0) else (noPro, 11)
def FM (l : List UInt8) (m : Mac) : Pro × Int := finM (runM l m)
theorem FM_go {m : Mac} {c : UInt8} (l : List UInt8) (h : goM m.st c = true) (hf : fullM m = false) : FM (c :: l) m = FM l (pushM m c) := by
  unfold FM; rw [runM]; unfold stepM; rw [if_pos h, hf]; rfl
theorem FM_full {m : Mac} {c : UInt8} (l : List UInt8) (h : goM m.st c = true) (hf : fullM m = true) : FM (c :: l) m = (noPro, 12) := by
  unfold FM; rw [runM]; unfold stepM; rw [if_pos h, if_pos hf]; rfl
theorem FM_bad {m : Mac} {c : UInt8} (l : List UInt8) (h : goM m.st c = false) (hf : endsM m c = false) : FM (c :: l) m = (noPro, 10) := by
  unfold FM; rw [runM]; unfold stepM; rw [if_neg (by simp [h]), if_pos hf]; rfl
theorem FM_many {m : Mac} {c : UInt8} (l : List UInt8) (h : goM m.st c = false) (hf : endsM m c = true) (h2 : c.toNat = 59 ∧ m.pars.length = 16) : FM (c :: l) m = (noPro, 27) := by
  unfold FM; rw [runM]; unfold stepM; rw [if_neg (by simp [h]), if_neg (by simp [hf]), if_pos h2]; rfl
theorem FM_end {m : Mac} {c : UInt8} (l : List UInt8) (h : goM m.st c = false) (hf : endsM m c = true) (h2 : ¬ (c.toNat = 59 ∧ m.pars.length = 16)) : FM (c :: l) m = FM l (endM m c) := by
  unfold FM; rw [runM]; unfold stepM; rw [if_neg (by simp [h]), if_neg (by simp [hf]), if_neg h2]
theorem FM_nil {m : Mac} (h : m.st ≠ 5) : FM [] m = (noPro, 11) := by
  unfold FM; rw [runM]; show (if m.st = 5 then _ else _) = _; rw [if_neg h]
/-- What stands here goes on. -/
theorem FM_runs : ∀ (t r : List UInt8) (m : Mac), (∀ c ∈ t, goM m.st c = true) → (m.st ≤ 1 → m.got.length + t.length ≤ 64) → FM (t ++ r) m = FM r ⟨m.st, m.got ++ t, m.name, m.pars, m.value⟩
  | [], r, m, _, _ => by simp
  | c :: t, r, m, h, h2 => by
    rw [List.cons_append, FM_go _ (h c (by simp)) ?_, FM_runs t r (pushM m c) (fun x hx => h x (by simp [hx])) ?_]
    · simp [pushM]
    · intro hx; have := h2 hx; simp [pushM] at this ⊢; omega
    · unfold fullM
      by_cases hs : m.st ≤ 1
      · have := h2 hs; simp at this; simp; intro _; omega
      · simp; intro; omega
theorem FM_over : ∀ (t r : List UInt8) (m : Mac), (∀ c ∈ t, goM m.st c = true) → m.st ≤ 1 → m.got.length ≤ 64 → 64 < m.got.length + t.length → FM (t ++ r) m = (noPro, 12)
  | [], r, m, _, _, h3, h4 => by simp at h4; omega
  | c :: t, r, m, h, h2, h3, h4 => by
    have hs : (decide (m.st = 0) || decide (m.st = 1)) = true := by simp; omega
    by_cases hl : m.got.length = 64
    · rw [List.cons_append, FM_full _ (h c (by simp)) (by unfold fullM; rw [hs]; simp [hl])]
    · rw [List.cons_append, FM_go _ (h c (by simp)) (by unfold fullM; rw [hs]; simp [hl]), FM_over t r (pushM m c) (fun x hx => h x (by simp [hx])) h2 (by simp [pushM]; omega) (by simp [pushM] at h4 ⊢; omega)]
theorem take_all {p : UInt8 → Bool} : ∀ (l : List UInt8), ∀ c ∈ l.takeWhile p, p c = true
  | [], c, h => by simp at h
  | x :: l, c, h => by
    by_cases hx : p x = true
    · rw [List.takeWhile_cons_of_pos hx] at h
      rcases List.mem_cons.1 h with rfl | h
      · exact hx
      · exact take_all l c h
    · rw [List.takeWhile_cons_of_neg hx] at h; cases h
theorem take_head {p : UInt8 → Bool} : ∀ (l : List UInt8) {c : UInt8}, (l.drop (l.takeWhile p).length).head? = some c → p c = false
  | [], c, h => by simp at h
  | x :: l, c, h => by
    by_cases hx : p x = true
    · rw [List.takeWhile_cons_of_pos hx] at h; exact take_head l (by simpa using h)
    · rw [List.takeWhile_cons_of_neg hx] at h; simp at h; subst h; simpa using hx
theorem take_app {p : UInt8 → Bool} : ∀ (l : List UInt8), l.takeWhile p ++ l.drop (l.takeWhile p).length = l
  | [] => rfl
  | x :: l => by
    by_cases hx : p x = true
    · rw [List.takeWhile_cons_of_pos hx]; simp [take_app l]
    · rw [List.takeWhile_cons_of_neg hx]; rfl
/-- A name. -/
theorem FM_name (l : List UInt8) (m : Mac) (hs : m.st ≤ 1) (hg : m.got = []) :
    match rdName l with
    | .bad e => FM l m = (noPro, e)
    | .ok n r => ∃ t, n = upL t ∧ t ≠ [] ∧ FM l m = FM r ⟨m.st, t, m.name, m.pars, m.value⟩ ∧ ∀ c, r.head? = some c → nbC c = false := by
  have hgo : ∀ c, goM m.st c = nbC c := fun c => by
    have : m.st = 0 ∨ m.st = 1 := by omega
    rcases this with e | e <;> rw [e] <;> rfl
  have ht : ∀ c ∈ l.takeWhile nbC, goM m.st c = true := fun c h => by rw [hgo]; exact take_all l c h
  have happ := take_app (p := nbC) l
  unfold rdName
  by_cases h1 : 64 < (l.takeWhile nbC).length
  · rw [if_pos h1]
    show FM l m = _
    rw [← happ]
    exact FM_over _ _ m ht hs (by rw [hg]; simp) (by rw [hg]; simpa using h1)
  · rw [if_neg h1]
    by_cases h2 : l.takeWhile nbC = []
    · rw [if_pos h2]
      show FM l m = _
      cases l with
      | nil => rw [FM_nil (by omega)]; rfl
      | cons c l =>
        have hc : nbC c = false := by
          cases hcc : nbC c
          · rfl
          · rw [List.takeWhile_cons_of_pos hcc] at h2; cases h2
        rw [FM_bad l (by rw [hgo]; exact hc) ?_]
        · rfl
        · unfold endsM
          have : m.st = 0 ∨ m.st = 1 := by omega
          rcases this with e | e <;> rw [e] <;> simp [hg]
    · rw [if_neg h2]
      refine ⟨_, rfl, h2, ?_, fun c hc => take_head l hc⟩
      conv => lhs; rw [← happ]
      rw [FM_runs _ _ m ht (fun _ => by rw [hg]; simp; omega), hg]
      rfl
/-- A machine that has read so much, whole but for its end. -/
structure Cl (n : List UInt8) (ps : List Par) (m : Mac) : Prop where
  keep : keepM m = ⟨m.st, [], n, ps, []⟩
  len : m.pars.length = ps.length
  st : m.st = 0 ∨ m.st = 2 ∨ m.st = 4
  got : m.st = 0 → m.got ≠ []
def OkM (r : List UInt8) (m : Mac) : Prop := ∀ c, r.head? = some c → goM m.st c = false ∧ (m.st = 2 → c.toNat = 34 → m.got ≠ [])
theorem toNat_c {c : UInt8} {k : Nat} (h : c.toNat = k) (hk : k < 256) : c = UInt8.ofNat k := by
  apply UInt8.toNat_inj.1; rw [h, UInt8.toNat_ofNat']; omega
section
variable {n : List UInt8} {ps : List Par} {m : Mac} {r : List UInt8}
theorem Cl.nil (h : Cl n ps m) : FM [] m = (noPro, 11) := FM_nil (by rcases h.st with e | e | e <;> omega)
theorem Cl.endm (h : Cl n ps m) {c : UInt8} (hc : c.toNat ≠ 34) : endM m c = ⟨nextM m.st c, [], n, ps, []⟩ := by
  unfold endM; rw [if_neg hc, h.keep]; rfl
theorem Cl.semi (h : Cl n ps m) (ho : OkM (59 :: r) m) : FM (59 :: r) m = if ps.length = 16 then (noPro, 27) else FM r ⟨1, [], n, ps, []⟩ := by
  have hg := (ho 59 rfl).1
  have he : endsM m 59 = true := by
    unfold endsM
    rcases h.st with e | e | e
    · have := h.got e; rw [e]; simp [this]
    · rw [e]; rfl
    · rw [e]; rfl
  by_cases hl : ps.length = 16
  · rw [if_pos hl, FM_many r hg he ⟨rfl, by rw [h.len]; exact hl⟩]
  · rw [if_neg hl, FM_end r hg he (fun x => hl (by rw [← h.len]; exact x.2)), h.endm (by decide)]
    rfl
theorem Cl.colon (h : Cl n ps m) (ho : OkM (58 :: r) m) : FM (58 :: r) m = FM r ⟨5, [], n, ps, []⟩ := by
  have hg := (ho 58 rfl).1
  have he : endsM m 58 = true := by
    unfold endsM
    rcases h.st with e | e | e
    · have := h.got e; rw [e]; simp [this]
    · rw [e]; rfl
    · rw [e]; rfl
  rw [FM_end r hg he (fun x => absurd x.1 (by decide)), h.endm (by decide)]
  rfl
theorem Cl.comma (h : Cl n ps m) (hs : m.st ≠ 0) (ho : OkM (44 :: r) m) : FM (44 :: r) m = FM r ⟨2, [], n, ps, []⟩ := by
  have hg := (ho 44 rfl).1
  have he : endsM m 44 = true := by
    unfold endsM
    rcases h.st with e | e | e
    · exact absurd e hs
    · rw [e]; rfl
    · rw [e]; rfl
  rw [FM_end r hg he (fun x => absurd x.1 (by decide)), h.endm (by decide)]
  rfl
theorem Cl.other (h : Cl n ps m) (ho : OkM r m) (h1 : r.head? ≠ some 59) (h2 : r.head? ≠ some 58) (h3 : m.st ≠ 0 → r.head? ≠ some 44) : FM r m = (noPro, eoE r) := by
  cases r with
  | nil => rw [h.nil]; rfl
  | cons c r =>
    have hg := (ho c rfl).1
    have n1 : c.toNat ≠ 59 := fun e => h1 (by rw [toNat_c e (by omega)]; rfl)
    have n2 : c.toNat ≠ 58 := fun e => h2 (by rw [toNat_c e (by omega)]; rfl)
    rw [FM_bad r hg ?_]
    · rfl
    · unfold endsM
      rcases h.st with e | e | e
      · rw [e]; simp [n1, n2]
      · have n3 : c.toNat ≠ 44 := fun e2 => h3 (by omega) (by rw [toNat_c e2 (by omega)]; rfl)
        have := (ho c rfl).2 e
        rw [e]; unfold markC; simp [n1, n2, n3]; exact this
      · have n3 : c.toNat ≠ 44 := fun e2 => h3 (by omega) (by rw [toNat_c e2 (by omega)]; rfl)
        rw [e]; unfold markC; simp [n1, n2, n3]
end
theorem addV_snoc (ps : List Par) (x : List UInt8) (vs : List (List UInt8)) (v : List UInt8) : addV (ps ++ [⟨x, vs⟩]) v = ps ++ [⟨x, vs ++ [v]⟩] := by
  unfold addV; simp
theorem uv_qv {c : UInt8} (h : uvC c = true) : qvC c = true := by unfold uvC at h; simp at h; exact h.1
/-- A value. -/
theorem FM_val (l n x : List UInt8) (ps : List Par) (vs : List (List UInt8)) :
    match rdVal l with
    | .bad e => FM l ⟨2, [], n, ps ++ [⟨x, vs⟩], []⟩ = (noPro, e)
    | .ok v r => ∃ m, Cl n (ps ++ [⟨x, vs ++ [v]⟩]) m ∧ m.st ≠ 0 ∧ OkM r m ∧ FM l ⟨2, [], n, ps ++ [⟨x, vs⟩], []⟩ = FM r m := by
  obtain ⟨P, hP⟩ : ∃ P : List Par, P = ps ++ [⟨x, vs⟩] := ⟨_, rfl⟩
  have hPl : P.length = ps.length + 1 := by rw [hP]; simp
  have hPa : ∀ v, addV P v = ps ++ [⟨x, vs ++ [v]⟩] := fun v => by rw [hP, addV_snoc]
  rw [← hP]
  unfold rdVal
  by_cases hq : l.head? = some 34
  · rw [if_pos hq]
    obtain ⟨l2, rfl⟩ : ∃ l2, l = 34 :: l2 := by
      cases l with
      | nil => cases hq
      | cons c l2 => simp at hq; subst hq; exact ⟨l2, rfl⟩
    have e1 : FM (34 :: l2) ⟨2, [], n, P, []⟩ = FM l2 ⟨3, [], n, P, []⟩ := by
      rw [FM_end (m := ⟨2, [], n, P, []⟩) (c := 34) l2 (show uvC 34 = false by decide) rfl (fun h => absurd h.1 (show ¬ (34 : UInt8).toNat = 59 by decide))]; rfl
    rw [e1]
    simp only [List.drop_one, List.tail_cons]
    unfold rdQuoted
    have happ := take_app (p := qvC) l2
    have e2 : FM l2 ⟨3, [], n, P, []⟩ = FM (l2.drop (l2.takeWhile qvC).length) ⟨3, l2.takeWhile qvC, n, P, []⟩ := by
      conv => lhs; rw [← happ]
      rw [FM_runs (l2.takeWhile qvC) _ ⟨3, [], n, P, []⟩ (fun c h => take_all (p := qvC) l2 c h) (fun h => absurd h (show ¬ (3 : Nat) ≤ 1 by decide))]
      rfl
    rw [e2]
    have hth : ∀ c, (l2.drop (l2.takeWhile qvC).length).head? = some c → qvC c = false := fun c h => take_head l2 h
    generalize hr : l2.drop (l2.takeWhile qvC).length = r at hth ⊢
    by_cases hh : r.head? = some 34
    · rw [if_pos hh]
      obtain ⟨r2, rfl⟩ : ∃ r2, r = 34 :: r2 := by
        cases r with
        | nil => cases hh
        | cons c r2 => simp at hh; subst hh; exact ⟨r2, rfl⟩
      rw [FM_end (m := ⟨3, l2.takeWhile qvC, n, P, []⟩) (c := 34) r2 (show qvC 34 = false by decide) rfl (fun h => absurd h.1 (show ¬ (34 : UInt8).toNat = 59 by decide))]
      refine ⟨⟨4, l2.takeWhile qvC, n, P, []⟩, ⟨?_, ?_, Or.inr (Or.inr rfl), fun h => (by cases h)⟩, fun h => (by cases h), ?_, ?_⟩
      · show (⟨4, [], n, addV P (l2.takeWhile qvC), []⟩ : Mac) = _
        rw [hPa]
      · show P.length = _; rw [hPl]; simp
      · intro c hc; exact ⟨rfl, fun h => (by cases h)⟩
      · rw [show l2.drop ((l2.takeWhile qvC).length + 1) = r2 from by rw [← List.drop_drop, hr]; rfl]
        rfl
    · rw [if_neg hh]
      show FM r _ = _
      cases r with
      | nil => rw [FM_nil (fun h => (by cases h))]; rfl
      | cons c r =>
        rw [FM_bad (m := ⟨3, l2.takeWhile qvC, n, P, []⟩) r (hth c rfl) ?_]
        · rfl
        · show decide (c.toNat = 34) = false
          simp; intro e; exact hh (by rw [toNat_c e (by omega)]; rfl)
  · rw [if_neg hq]
    have happ := take_app (p := uvC) l
    refine ⟨⟨2, l.takeWhile uvC, n, P, []⟩, ⟨?_, ?_, Or.inr (Or.inl rfl), fun h => (by cases h)⟩, fun h => (by cases h), ?_, ?_⟩
    · show (⟨2, [], n, addV P (l.takeWhile uvC), []⟩ : Mac) = _
      rw [hPa]
    · show P.length = _; rw [hPl]; simp
    · intro c hc
      refine ⟨take_head l hc, fun _ e hgot => hq ?_⟩
      have hgot : l.takeWhile uvC = [] := hgot
      rw [hgot] at hc
      simp at hc
      rw [hc, toNat_c e (by omega)]; rfl
    · conv => lhs; rw [← happ]
      rw [FM_runs (l.takeWhile uvC) _ ⟨2, [], n, P, []⟩ (fun c h => take_all (p := uvC) l c h) (fun h => absurd h (show ¬ (2 : Nat) ≤ 1 by decide))]
      rfl
theorem FM_more (n x : List UInt8) (ps : List Par) : ∀ (f : Nat) (r : List UInt8) (vs : List (List UInt8)) (m : Mac), Cl n (ps ++ [⟨x, vs⟩]) m → m.st ≠ 0 → OkM r m → r.length ≤ f →
    match rdMore f r vs with
    | .bad e => FM r m = (noPro, e)
    | .ok ws r2 => ∃ m2, Cl n (ps ++ [⟨x, ws⟩]) m2 ∧ m2.st ≠ 0 ∧ OkM r2 m2 ∧ FM r m = FM r2 m2 ∧ r2.head? ≠ some 44
  | 0, r, vs, m, hm, hs, ho, hl => by
    have : r = [] := List.eq_nil_of_length_eq_zero (by omega)
    subst this
    exact ⟨m, hm, hs, ho, rfl, by simp⟩
  | f + 1, r, vs, m, hm, hs, ho, hl => by
    unfold rdMore
    by_cases hc : r.head? = some 44
    · rw [if_pos hc]
      obtain ⟨r2, rfl⟩ : ∃ r2, r = 44 :: r2 := by
        cases r with
        | nil => cases hc
        | cons c r2 => simp at hc; subst hc; exact ⟨r2, rfl⟩
      rw [hm.comma hs ho]
      simp only [List.drop_one, List.tail_cons]
      have hv := FM_val r2 n x ps vs
      cases hr : rdVal r2 with
      | bad e => rw [hr] at hv; exact hv
      | ok v r3 =>
        rw [hr] at hv
        obtain ⟨m2, a1, a2, a3, a4⟩ := hv
        rw [a4]
        have := rdVal_len hr
        exact FM_more n x ps f r3 (vs ++ [v]) m2 a1 a2 a3 (by simp at hl; omega)
    · rw [if_neg hc]
      exact ⟨m, hm, hs, ho, rfl, hc⟩
theorem FM_par (l n : List UInt8) (ps : List Par) :
    match rdPar l with
    | .bad e => FM l ⟨1, [], n, ps, []⟩ = (noPro, e)
    | .ok p r => ∃ m, Cl n (ps ++ [p]) m ∧ m.st ≠ 0 ∧ OkM r m ∧ FM l ⟨1, [], n, ps, []⟩ = FM r m ∧ r.head? ≠ some 44 := by
  have hn := FM_name l ⟨1, [], n, ps, []⟩ (Nat.le_refl 1) rfl
  unfold rdPar
  cases hr : rdName l with
  | bad e => rw [hr] at hn; exact hn
  | ok x r =>
    rw [hr] at hn
    obtain ⟨t, rfl, h2, h3, h4⟩ := hn
    dsimp only at h3 ⊢
    rw [h3]
    by_cases he : r.head? = some 61
    · rw [if_pos he]
      obtain ⟨r2, rfl⟩ : ∃ r2, r = 61 :: r2 := by
        cases r with
        | nil => cases he
        | cons c r2 => simp at he; subst he; exact ⟨r2, rfl⟩
      rw [FM_end r2 (by show nbC 61 = false; decide) (by simp [endsM, h2]) (fun h => absurd h.1 (by decide))]
      rw [show endM ⟨1, t, n, ps, []⟩ 61 = ⟨2, [], n, ps ++ [⟨upL t, []⟩], []⟩ from rfl]
      simp only [List.drop_one, List.tail_cons]
      have hv := FM_val r2 n (upL t) ps []
      cases hr2 : rdVal r2 with
      | bad e => rw [hr2] at hv; exact hv
      | ok v r3 =>
        rw [hr2] at hv
        obtain ⟨m2, a1, a2, a3, a4⟩ := hv
        rw [a4]
        have hm := FM_more n (upL t) ps r3.length r3 [v] m2 a1 a2 a3 (Nat.le_refl _)
        dsimp only
        cases hr3 : rdMore r3.length r3 [v] with
        | bad e => rw [hr3] at hm; exact hm
        | ok ws r4 => rw [hr3] at hm; exact hm
    · rw [if_neg he]
      show FM r _ = _
      cases r with
      | nil => rw [FM_nil (fun h => (by cases h))]; rfl
      | cons c r =>
        rw [FM_bad (m := ⟨1, t, n, ps, []⟩) r (h4 c rfl) ?_]
        · rfl
        · show (decide (t ≠ []) && decide (c.toNat = 61)) = false
          simp; intro _ e; exact he (by rw [toNat_c e (by omega)]; rfl)
theorem FM_pars (n : List UInt8) : ∀ (f : Nat) (r : List UInt8) (ps : List Par) (m : Mac), Cl n ps m → OkM r m → (m.st ≠ 0 → r.head? ≠ some 44) → r.length ≤ f →
    match rdPars f r ps with
    | .bad e => FM r m = (noPro, e)
    | .ok qs r2 => ∃ m2, Cl n qs m2 ∧ OkM r2 m2 ∧ (m2.st ≠ 0 → r2.head? ≠ some 44) ∧ FM r m = FM r2 m2 ∧ r2.head? ≠ some 59
  | 0, r, ps, m, hm, ho, hc, hl => by
    have : r = [] := List.eq_nil_of_length_eq_zero (by omega)
    subst this
    exact ⟨m, hm, ho, hc, rfl, by simp⟩
  | f + 1, r, ps, m, hm, ho, hc, hl => by
    unfold rdPars
    by_cases h9 : r.head? = some 59
    · rw [if_pos h9]
      obtain ⟨r2, rfl⟩ : ∃ r2, r = 59 :: r2 := by
        cases r with
        | nil => cases h9
        | cons c r2 => simp at h9; subst h9; exact ⟨r2, rfl⟩
      rw [hm.semi ho]
      by_cases h16 : ps.length = 16
      · rw [if_pos h16, if_pos h16]
      · rw [if_neg h16, if_neg h16]
        simp only [List.drop_one, List.tail_cons]
        have hp := FM_par r2 n ps
        cases hr : rdPar r2 with
        | bad e => rw [hr] at hp; exact hp
        | ok p r3 =>
          rw [hr] at hp
          obtain ⟨m2, a1, a2, a3, a4, a5⟩ := hp
          rw [a4]
          have := rdPar_len hr
          exact FM_pars n f r3 (ps ++ [p]) m2 a1 a3 (fun _ => a5) (by simp at hl; omega)
    · rw [if_neg h9]
      exact ⟨m, hm, ho, hc, rfl, h9⟩
theorem FM_value (n : List UInt8) (ps : List Par) : ∀ (r g : List UInt8), FM r ⟨5, g, n, ps, []⟩ = if r.all (fun c => !ctlN c.toNat) = true then (⟨n, ps, g ++ r⟩, 0) else (noPro, 10)
  | [], g => by simp [FM, runM, finM, keepM]
  | c :: r, g => by
    cases hc : ctlN c.toNat
    · rw [FM_go r (by show (!ctlN c.toNat) = true; rw [hc]; rfl) (by rfl)]
      show FM r ⟨5, g ++ [c], n, ps, []⟩ = _
      rw [FM_value n ps r (g ++ [c])]
      simp [hc]
    · rw [FM_bad r (by show (!ctlN c.toNat) = false; rw [hc]; rfl) rfl]
      simp [hc]
/-- What the reader tells is what is read. -/
theorem FM_all (l : List UInt8) : FM l ⟨0, [], [], [], []⟩ = match rdRest l with | .ok p _ => (p, 0) | .bad e => (noPro, e) := by
  have hn := FM_name l ⟨0, [], [], [], []⟩ (by decide) rfl
  unfold rdRest
  cases hr : rdName l with
  | bad e => rw [hr] at hn; exact hn
  | ok x r =>
    rw [hr] at hn
    obtain ⟨t, rfl, h2, h3, h4⟩ := hn
    dsimp only at h3 ⊢
    rw [h3]
    have hcl : Cl (upL t) [] ⟨0, t, [], [], []⟩ := ⟨rfl, rfl, Or.inl rfl, fun _ => h2⟩
    have hp := FM_pars (upL t) r.length r [] _ hcl (fun c hc => ⟨h4 c hc, fun h => by cases h⟩) (fun h => absurd rfl h) (Nat.le_refl _)
    cases hr2 : rdPars r.length r [] with
    | bad e => rw [hr2] at hp; exact hp
    | ok ps r2 =>
      rw [hr2] at hp
      obtain ⟨m2, a1, a2, a3, a4, a5⟩ := hp
      rw [a4]
      dsimp only
      by_cases h8 : r2.head? = some 58
      · rw [if_pos h8]
        obtain ⟨r3, rfl⟩ : ∃ r3, r2 = 58 :: r3 := by
          cases r2 with
          | nil => cases h8
          | cons c r3 => simp at h8; subst h8; exact ⟨r3, rfl⟩
        rw [a1.colon a2, FM_value]
        simp only [List.drop_one, List.tail_cons, List.nil_append]
        split <;> rfl
      · rw [if_neg h8, a1.other a2 a5 h8 a3]

end Go.Proofs.YtlfhhnjdfpgadaaGreatDoor

/-
  The program's reader of a property in memory, and what its methods that only look tell.
-/
namespace Go.Proofs.YtlfhhnjdfpgadaaGreatDoor
open Go.RowKit

/-- The reader as it lies at g. -/
def RL (w : World) (g : Nat) (nm vl : ByteArray) (L : Option Addr) (n c st : Nat) (G : Option Addr) (k kc : Nat) : Prop :=
  w.heap[g]? = some (.cells #[.string nm, .slice L n c, .string vl, .int .i64 (st : Int), .slice G k kc] 88 (0, 0))
section
variable {w w' : World} {g n c st k kc : Nat} {nm vl : ByteArray} {L G : Option Addr}
theorem RL.lt (h : RL w g nm vl L n c st G k kc) : g < w.heap.size := (Array.getElem?_eq_some_iff.1 h).1
theorem RL.cells (h : RL w g nm vl L n c st G k kc) : w.cell? ⟨g, 0, none⟩ = some (.string nm) ∧ w.cell? ⟨g, 1, none⟩ = some (.slice L n c) ∧ w.cell? ⟨g, 2, none⟩ = some (.string vl) ∧ w.cell? ⟨g, 3, none⟩ = some (.int .i64 (st : Int)) ∧ w.cell? ⟨g, 4, none⟩ = some (.slice G k kc) ∧ ∀ o, w.frozen? ⟨g, o, none⟩ = false := by
  unfold RL at h
  exact ⟨by simp [World.cell?, h], by simp [World.cell?, h], by simp [World.cell?, h], by simp [World.cell?, h], by simp [World.cell?, h], fun o => by simp [World.frozen?, h]⟩
theorem RL.step (h : RL w g nm vl L n c st G k kc) (hb : Below w.heap.size w w') : RL w' g nm vl L n c st G k kc := (hb.block g h.lt).trans h
theorem RL.grown (h : RL w g nm vl L n c st G k kc) {row : Option Nat} (hg : w.grownBy w' row) (hr : row ≠ some g) : RL w' g nm vl L n c st G k kc := (hg.block g h.lt (fun e => hr e.symm)).trans h
theorem RL.set_ (h : RL w g nm vl L n c st G k kc) (i : Nat) (u : Value) : (w.setCell ⟨g, i, none⟩ u).heap[g]? = some (.cells (#[.string nm, .slice L n c, .string vl, .int .i64 (st : Int), .slice G k kc].setIfInBounds i u) 88 (0, 0)) := by
  unfold RL at h
  simp [World.setCell, Array.getElem?_modify, h]
theorem RL.nm_ (h : RL w g nm vl L n c st G k kc) (u : ByteArray) : RL (w.setCell ⟨g, 0, none⟩ (.string u)) g u vl L n c st G k kc := h.set_ 0 _
theorem RL.par_ (h : RL w g nm vl L n c st G k kc) (A : Option Addr) (m d : Nat) : RL (w.setCell ⟨g, 1, none⟩ (.slice A m d)) g nm vl A m d st G k kc := h.set_ 1 _
theorem RL.vl_ (h : RL w g nm vl L n c st G k kc) (u : ByteArray) : RL (w.setCell ⟨g, 2, none⟩ (.string u)) g nm u L n c st G k kc := h.set_ 2 _
theorem RL.st_ (h : RL w g nm vl L n c st G k kc) (q : Nat) : RL (w.setCell ⟨g, 3, none⟩ (.int .i64 (q : Int))) g nm vl L n c q G k kc := h.set_ 3 _
theorem RL.got_ (h : RL w g nm vl L n c st G k kc) (A : Option Addr) (m d : Nat) : RL (w.setCell ⟨g, 4, none⟩ (.slice A m d)) g nm vl L n c st A m d := h.set_ 4 _
end
/-- The machine with so many bytes. -/
def goS (st : Nat) (b : Nat) : Bool := match st with
  | 0 => nbN b
  | 1 => nbN b
  | 2 => brN b
  | 3 => qtN b
  | 5 => stN b
  | _ => false
theorem goS_go (st : Nat) (c : UInt8) : goS st c.toNat = goM st c := by
  match st with
  | 0 => rfl
  | 1 => rfl
  | 2 => exact br_uv c
  | 3 => exact qt_qv c
  | 4 => rfl
  | 5 => exact st_ctl c.toNat
  | _ + 6 => rfl
set_option maxHeartbeats 2000000 in
theorem goesOn_any (g n c st k kc : Nat) (nm vl : ByteArray) (L G : Option Addr) (b : Nat) (hb : b < 256) (w : World) (h : RL w g nm vl L n c st G k kc) (hs : st ≤ 5) :
    Calls Tryz.prog 56 #[.pointer (some ⟨g, 0, none⟩), .int .u8 b] w fun e w' => e = .returned (.bool (goS st b)) ∧ w' = w := by
  obtain ⟨_, _, _, x3, _, _⟩ := h.cells
  have c0 := fun W => pName_any1 b hb W
  have c2 := fun W => pBare_any b hb W
  have c3 := fun W => pQuote_any b hb W
  have c5 := fun W => pStand_any b hb W
  clear h
  rcases (show st = 0 ∨ st = 1 ∨ st = 2 ∨ st = 3 ∨ st = 4 ∨ st = 5 by omega) with rfl | rfl | rfl | rfl | rfl | rfl
  all_goals
    (simp only [goS]
     generalize nbN b = q0 at *
     generalize brN b = q2 at *
     generalize qtN b = q3 at *
     generalize stN b = q5 at *
     go_enter Tryz.func56, Tryz.ntmps56
     go_wp2_with (first
       | (go_at_call 78; ((with_reducible refine (c0 _).mono ?_); rintro e w' ⟨rfl, hw⟩; subst w'))
       | (go_at_call 79; ((with_reducible refine (c2 _).mono ?_); rintro e w' ⟨rfl, hw⟩; subst w'))
       | (go_at_call 80; ((with_reducible refine (c3 _).mono ?_); rintro e w' ⟨rfl, hw⟩; subst w'))
       | (go_at_call 81; ((with_reducible refine (c5 _).mono ?_); rintro e w' ⟨rfl, hw⟩; subst w')))
     go_ret
     exact ⟨rfl, rfl⟩)
set_option maxHeartbeats 2000000 in
theorem isFull_any (g n c st k kc : Nat) (nm vl : ByteArray) (L G : Option Addr) (w : World) (h : RL w g nm vl L n c st G k kc) (hs : st ≤ 5) :
    Calls Tryz.prog 57 #[.pointer (some ⟨g, 0, none⟩)] w fun e w' => e = .returned (.bool ((decide (st = 0) || decide (st = 1)) && decide (k = 64))) ∧ w' = w := by
  obtain ⟨_, _, _, x3, x4, _⟩ := h.cells
  clear h
  by_cases hk : k = 64
  · have k4 : ((k : Int) == 64) = true := by rw [beq_iff_eq]; omega
    rw [decide_eq_true hk]
    clear hk
    rcases (show st = 0 ∨ st = 1 ∨ st = 2 ∨ st = 3 ∨ st = 4 ∨ st = 5 by omega) with rfl | rfl | rfl | rfl | rfl | rfl
    all_goals
      (go_enter Tryz.func57, Tryz.ntmps57
       go_wp2
       go_ret
       exact ⟨rfl, rfl⟩)
  · have k4 : ((k : Int) == 64) = false := by rw [beq_eq_false_iff_ne]; omega
    rw [decide_eq_false hk]
    clear hk
    rcases (show st = 0 ∨ st = 1 ∨ st = 2 ∨ st = 3 ∨ st = 4 ∨ st = 5 by omega) with rfl | rfl | rfl | rfl | rfl | rfl
    all_goals
      (go_enter Tryz.func57, Tryz.ntmps57
       go_wp2
       go_ret
       exact ⟨rfl, rfl⟩)
end Go.Proofs.YtlfhhnjdfpgadaaGreatDoor

/-
  The program's reader of a property: whether a byte may end what stands there.
-/
namespace Go.Proofs.YtlfhhnjdfpgadaaGreatDoor
open Go.RowKit

def endS (st : Nat) (p : Bool) (b : Nat) : Bool := match st with
  | 0 => p && (decide (b = 59) || decide (b = 58))
  | 1 => p && decide (b = 61)
  | 2 => mkN b || (decide (b = 34) && !p)
  | 3 => decide (b = 34)
  | 4 => mkN b
  | _ => false
theorem endS_ends (m : Mac) (c : UInt8) : endS m.st (decide (0 < m.got.length)) c.toNat = endsM m c := by
  have hp : decide (0 < m.got.length) = decide (m.got ≠ []) := decide_eq_decide.2 List.length_pos_iff
  rw [hp]
  unfold endS endsM
  have hn : (!decide (m.got ≠ [])) = decide (m.got = []) := by by_cases h : m.got = [] <;> simp [h]
  rw [hn]
  match m.st with
  | 0 => rfl
  | 1 => rfl
  | 2 => rfl
  | 3 => rfl
  | 4 => rfl
  | _ + 5 => rfl
theorem eq_dec (b k : Nat) : ((b : Int) == (k : Int)) = decide (b = k) := by
  by_cases h : b = k
  · subst h; simp
  · rw [decide_eq_false h, beq_eq_false_iff_ne]; omega
set_option maxHeartbeats 4000000 in
theorem ends_any (g n c st k kc : Nat) (nm vl : ByteArray) (L G : Option Addr) (b : Nat) (hb : b < 256) (w : World) (h : RL w g nm vl L n c st G k kc) (hs : st ≤ 5) :
    Calls Tryz.prog 58 #[.pointer (some ⟨g, 0, none⟩), .int .u8 b] w fun e w' => e = .returned (.bool (endS st (decide (0 < k)) b)) ∧ ∃ q, w' = w.drewN q := by
  obtain ⟨_, _, _, x3, x4, _⟩ := h.cells
  have hx := (marks_ix b hb).2
  have ci := fun W => Tryz.strings_IndexByte ⟨#[44, 59, 58]⟩ b W
  rw [show ((b : Int)).toNat.toUInt8 = UInt8.ofNat b from by simp] at ci
  rw [show (⟨#[44, 59, 58]⟩ : ByteArray).data.toList = [44, 59, 58] from rfl] at ci
  generalize Lib.indexByte [44, 59, 58] (UInt8.ofNat b) = ix at *
  have e59 : ((b : Int) == 59) = decide (b = 59) := eq_dec b 59
  have e58 : ((b : Int) == 58) = decide (b = 58) := eq_dec b 58
  have e61 : ((b : Int) == 61) = decide (b = 61) := eq_dec b 61
  have e34 : ((b : Int) == 34) = decide (b = 34) := eq_dec b 34
  clear h
  rcases Nat.eq_zero_or_pos k with rfl | hk
  · rw [show decide (0 < 0) = false from rfl]
    rcases (show st = 0 ∨ st = 1 ∨ st = 2 ∨ st = 3 ∨ st = 4 ∨ st = 5 by omega) with rfl | rfl | rfl | rfl | rfl | rfl
    all_goals
      (simp only [endS]
       generalize decide (b = 59) = q59 at *
       generalize decide (b = 58) = q58 at *
       generalize decide (b = 61) = q61 at *
       generalize decide (b = 34) = q34 at *
       generalize mkN b = mk at *)
    · cases q59 <;> cases q58 <;> cases mk
      all_goals
        (go_enter Tryz.func58, Tryz.ntmps58
         go_wp2
         go_quiet ((go_at_call 54; refine Calls.quiet_of_same (ci _)))
         go_wp2
         go_ret
         exact ⟨rfl, nq, rfl⟩)
    · cases q61 <;> cases mk
      all_goals
        (go_enter Tryz.func58, Tryz.ntmps58
         go_wp2
         go_quiet ((go_at_call 54; refine Calls.quiet_of_same (ci _)))
         go_wp2
         go_ret
         exact ⟨rfl, nq, rfl⟩)
    · cases q34 <;> cases mk
      all_goals
        (go_enter Tryz.func58, Tryz.ntmps58
         go_wp2
         go_quiet ((go_at_call 54; refine Calls.quiet_of_same (ci _)))
         go_wp2
         go_ret
         exact ⟨rfl, nq, rfl⟩)
    · cases q34 <;> cases mk
      all_goals
        (go_enter Tryz.func58, Tryz.ntmps58
         go_wp2
         go_quiet ((go_at_call 54; refine Calls.quiet_of_same (ci _)))
         go_wp2
         go_ret
         exact ⟨rfl, nq, rfl⟩)
    · cases mk
      all_goals
        (go_enter Tryz.func58, Tryz.ntmps58
         go_wp2
         go_quiet ((go_at_call 54; refine Calls.quiet_of_same (ci _)))
         go_wp2
         go_ret
         exact ⟨rfl, nq, rfl⟩)
    · cases mk
      all_goals
        (go_enter Tryz.func58, Tryz.ntmps58
         go_wp2
         go_quiet ((go_at_call 54; refine Calls.quiet_of_same (ci _)))
         go_wp2
         go_ret
         exact ⟨rfl, nq, rfl⟩)
  · rw [decide_eq_true hk]
    have k1 : (0 : Int) < (k : Int) := by omega
    rcases (show st = 0 ∨ st = 1 ∨ st = 2 ∨ st = 3 ∨ st = 4 ∨ st = 5 by omega) with rfl | rfl | rfl | rfl | rfl | rfl
    all_goals
      (simp only [endS]
       generalize decide (b = 59) = q59 at *
       generalize decide (b = 58) = q58 at *
       generalize decide (b = 61) = q61 at *
       generalize decide (b = 34) = q34 at *
       generalize mkN b = mk at *)
    · cases q59 <;> cases q58 <;> cases mk
      all_goals
        (go_enter Tryz.func58, Tryz.ntmps58
         go_wp2
         go_quiet ((go_at_call 54; refine Calls.quiet_of_same (ci _)))
         go_wp2
         go_ret
         exact ⟨rfl, nq, rfl⟩)
    · cases q61 <;> cases mk
      all_goals
        (go_enter Tryz.func58, Tryz.ntmps58
         go_wp2
         go_quiet ((go_at_call 54; refine Calls.quiet_of_same (ci _)))
         go_wp2
         go_ret
         exact ⟨rfl, nq, rfl⟩)
    · cases q34 <;> cases mk
      all_goals
        (go_enter Tryz.func58, Tryz.ntmps58
         go_wp2
         go_quiet ((go_at_call 54; refine Calls.quiet_of_same (ci _)))
         go_wp2
         go_ret
         exact ⟨rfl, nq, rfl⟩)
    · cases q34 <;> cases mk
      all_goals
        (go_enter Tryz.func58, Tryz.ntmps58
         go_wp2
         go_quiet ((go_at_call 54; refine Calls.quiet_of_same (ci _)))
         go_wp2
         go_ret
         exact ⟨rfl, nq, rfl⟩)
    · cases mk
      all_goals
        (go_enter Tryz.func58, Tryz.ntmps58
         go_wp2
         go_quiet ((go_at_call 54; refine Calls.quiet_of_same (ci _)))
         go_wp2
         go_ret
         exact ⟨rfl, nq, rfl⟩)
    · cases mk
      all_goals
        (go_enter Tryz.func58, Tryz.ntmps58
         go_wp2
         go_quiet ((go_at_call 54; refine Calls.quiet_of_same (ci _)))
         go_wp2
         go_ret
         exact ⟨rfl, nq, rfl⟩)
end Go.Proofs.YtlfhhnjdfpgadaaGreatDoor
