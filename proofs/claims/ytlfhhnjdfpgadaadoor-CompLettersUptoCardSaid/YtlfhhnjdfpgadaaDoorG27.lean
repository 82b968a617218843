/-
  Plain mathematics for CompLetters: a line whose name is in small letters is read as the line; lines folded anywhere are unfolded as the lines.
-/
import Derived.Test.YtlfhhnjdfpgadaaDoorG11
namespace Go.Proofs.YtlfhhnjdfpgadaaDoor
open Go.RowKit

theorem nb_low (c : UInt8) (h : nbC c = true) : nbC (lowC c) = true ∧ upC (lowC c) = upC c ∧ c ≠ 58 ∧ c ≠ 59 ∧ c ≠ 32 ∧ c ≠ 9 ∧ c ≠ 10 ∧ c ≠ 13 ∧ lowC c ≠ 32 ∧ lowC c ≠ 9 ∧ lowC c ≠ 58 ∧ lowC c ≠ 59 ∧ lowC c ≠ 10 ∧ lowC c ≠ 13 := by
  have : ∀ y : Fin 256, nbC (UInt8.ofNat y.val) = true → nbC (lowC (UInt8.ofNat y.val)) = true ∧ upC (lowC (UInt8.ofNat y.val)) = upC (UInt8.ofNat y.val) ∧ (UInt8.ofNat y.val) ≠ 58 ∧ (UInt8.ofNat y.val) ≠ 59 ∧ (UInt8.ofNat y.val) ≠ 32 ∧ (UInt8.ofNat y.val) ≠ 9 ∧ (UInt8.ofNat y.val) ≠ 10 ∧ (UInt8.ofNat y.val) ≠ 13 ∧ lowC (UInt8.ofNat y.val) ≠ 32 ∧ lowC (UInt8.ofNat y.val) ≠ 9 ∧ lowC (UInt8.ofNat y.val) ≠ 58 ∧ lowC (UInt8.ofNat y.val) ≠ 59 ∧ lowC (UInt8.ofNat y.val) ≠ 10 ∧ lowC (UInt8.ofNat y.val) ≠ 13 := by decide +kernel
  have h2 := this ⟨c.toNat, c.toNat_lt⟩
  rw [show UInt8.ofNat (⟨c.toNat, c.toNat_lt⟩ : Fin 256).val = c from by simp] at h2
  exact h2 h
theorem low_nb {n : List UInt8} (h : n.all nbC = true) : (lowL n).all nbC = true ∧ upL (lowL n) = upL n := by
  rw [List.all_eq_true] at h
  refine ⟨?_, ?_⟩
  · rw [List.all_eq_true]
    intro c hc
    unfold lowL at hc
    obtain ⟨d, hd, rfl⟩ := List.mem_map.1 hc
    exact (nb_low d (h d hd)).1
  · unfold upL lowL
    rw [List.map_map]
    exact List.map_congr_left (fun c hc => (nb_low c (h c hc)).2.1)
/-- A property's line, its name in small letters. -/
def lowX (p : Pro) : List UInt8 := lowL p.name ++ (p.pars.flatMap parT ++ 58 :: p.value)
theorem lowX_len (p : Pro) : (lowX p).length = (textL p).length := by simp [lowX, textL, lowL_length]
theorem low_read {p : Pro} (h : proOk p) : parL (lowX p) = (p, 0) := by
  have hn := low_nb h.1.1
  have hv : vld (lowX p) = true := vld_join (vld_ascii _ fun c hc => nb_ascii (List.all_eq_true.1 hn.1 c hc)) (vld_join (vld_pars _ h.2.2.2.1) (vld_cons (by decide) h.2.2.1.2))
  have hr : rdRest (lowX p) = rdRest (textL p) := by
    obtain ⟨c', r', e', hc'⟩ := pars_head p.pars p.value
    have hnb : nbC c' = false := by
      unfold nbC nbN letN digN
      rcases hc' with h | h <;> rw [h] <;> decide
    have e : rdName (lowL p.name ++ c' :: r') = rdName (p.name ++ c' :: r') := by
      rw [rdName_ok h.1 r' hnb]
      have e2 : (lowL p.name ++ c' :: r').takeWhile nbC = lowL p.name := tw_all hn.1 (fun x hx => by simp at hx; subst hx; exact hnb)
      unfold rdName
      have h3 := h.1.2.2.1
      have h2 := h.1.2.1
      rw [e2, if_neg (by rw [lowL_length]; omega), if_neg (by intro e; have := congrArg List.length e; rw [lowL_length] at this; exact h2 (List.eq_nil_of_length_eq_zero (by simpa using this))), hn.2, h.1.2.2.2]
      simp
    unfold rdRest lowX textL
    rw [e', e]
  unfold parL
  rw [if_neg (by have := h.2.2.2.2; rw [lowX_len]; omega), if_pos hv, hr, rdRest_ok h]
theorem read_low : ∀ l : List Pro, (∀ p ∈ l, proOk p) → readL (l.map lowX) = (l, 0)
  | [], _ => rfl
  | p :: l, h => by
    have h1 := low_read (h p (List.mem_cons_self ..))
    have h2 := read_low l (fun q hq => h q (List.mem_cons_of_mem _ hq))
    rw [List.map_cons, readL, h1, h2, if_neg (by simp)]

/-- Physical lines, each with its end. -/
def flatL (l : List (List UInt8)) : List UInt8 := l.flatMap fun x => x ++ [13, 10]
theorem flatL_app (a b : List (List UInt8)) : flatL (a ++ b) = flatL a ++ flatL b := by simp [flatL]
theorem flatL_one (x : List UInt8) (l : List (List UInt8)) : flatL (x :: l) = x ++ 13 :: 10 :: flatL l := by simp [flatL]
def noEnd (x : List UInt8) : Prop := ∀ c ∈ x, c ≠ 10 ∧ c ≠ 13
theorem raw_flat : ∀ l : List (List UInt8), (∀ x ∈ l, noEnd x) → rawG (flatL l) [] = l
  | [], _ => by simp [flatL, rawG]
  | x :: l, h => by
    rw [flatL_one, raw_feed _ _ _ (fun c hc => (h x (by simp) c hc).1), raw_end, List.nil_append, raw_flat l (fun y hy => h y (by simp [hy]))]
/-- A physical line folded behind k bytes. -/
def splitK (k : Nat) (q : List UInt8) : List (List UInt8) := if k < q.length then [q.take k, 32 :: q.drop k] else [q]
theorem split_noEnd {k : Nat} {q : List UInt8} (h : noEnd q) : ∀ x ∈ splitK k q, noEnd x := by
  unfold splitK
  split
  · intro x hx
    rcases List.mem_cons.1 hx with rfl | hx
    · exact fun c hc => h c (List.mem_of_mem_take hc)
    · obtain rfl : x = 32 :: q.drop k := by simpa using hx
      intro c hc
      rcases List.mem_cons.1 hc with rfl | hc
      · exact ⟨by decide, by decide⟩
      · exact h c (List.mem_of_mem_drop hc)
  · intro x hx
    obtain rfl : x = q := by simpa using hx
    exact h
/-- It is joined again. -/
theorem join_split {k : Nat} (hk : 1 ≤ k) {q : List UInt8} (hq : q ≠ []) (R out : List (List UInt8)) : joinP (splitK k q ++ R) out = joinP (q :: R) out := by
  unfold splitK
  split
  · obtain ⟨j, rfl⟩ : ∃ j, k = j + 1 := ⟨k - 1, by omega⟩
    obtain ⟨a, t, rfl⟩ := List.exists_cons_of_ne_nil hq
    have hg : goesL ((a :: t).take (j + 1)) = goesL (a :: t) := rfl
    have h2 : goesL (32 :: (a :: t).drop (j + 1)) = true := rfl
    simp only [List.cons_append, List.nil_append]
    rw [joinP, hg]
    conv => rhs; rw [joinP]
    by_cases h1 : goesL (a :: t) = false
    · rw [if_pos h1, if_pos h1, joinP, if_neg (by rw [h2]; decide), if_neg (by simp)]
      simp
    · rw [if_neg h1, if_neg h1]
      by_cases h3 : out = []
      · rw [if_pos h3, if_pos h3]
      · rw [if_neg h3, if_neg h3, joinP, if_neg (by rw [h2]; decide), if_neg (by simp)]
        simp
  · rfl
/-- The pieces of one line, each folded once more, are joined to it. -/
theorem join_rest {k : Nat} (hk : 1 ≤ k) : ∀ (bs : List (List UInt8)) (y : List UInt8) (R done : List (List UInt8)), joinP ((bs.flatMap fun b => splitK k (32 :: b)) ++ R) (done ++ [y]) = joinP R (done ++ [y ++ bs.flatten])
  | [], y, R, done => by simp
  | b :: bs, y, R, done => by
    rw [List.flatMap_cons, List.append_assoc, join_split hk (by simp), joinP, if_neg (by rw [show goesL (32 :: b) = true from rfl]; decide), if_neg (by simp)]
    rw [List.dropLast_concat, List.getLastD_concat, List.drop_one, List.tail_cons, join_rest hk bs]
    simp
theorem join_line {k : Nat} (hk : 1 ≤ k) {a : List UInt8} (ha : a ≠ []) (hg : goesL a = false) (bs R done : List (List UInt8)) : joinP (splitK k a ++ (bs.flatMap fun b => splitK k (32 :: b)) ++ R) done = joinP R (done ++ [a ++ bs.flatten]) := by
  rw [List.append_assoc, join_split hk ha, joinP, if_pos hg, join_rest hk]
theorem chk_of : ∀ (l : List (List UInt8)) (i : Nat), i + l.length ≤ 400 → (∀ x ∈ l, x ≠ [] ∧ x.length ≤ 1024) → chkP i l = 0
  | [], _, _, _ => rfl
  | x :: l, i, h, hx => by
    rw [List.length_cons] at h
    rw [chkP, if_neg (hx x (by simp)).1, if_neg (by omega), if_neg (by have := (hx x (by simp)).2; omega), chk_of l (i + 1) (by omega) (fun y hy => hx y (by simp [hy]))]
end Go.Proofs.YtlfhhnjdfpgadaaDoor

/-
  Plain mathematics for CompLetters: what the law makes of a text: small letters in names, one more fold in each physical line.
-/
namespace Go.Proofs.YtlfhhnjdfpgadaaDoor
open Go.RowKit

def yL (h : Bool) (x : UInt8) : UInt8 := if h = true then lowC x else x
/-- Whether a line begins that does not go on. -/
def hR (r : List UInt8) : Bool := !decide (r.head? = none) && !decide (r.head? = some 32)
def hL (h : Bool) (y : UInt8) (r : List UInt8) : Bool := if y = 10 then hR r else if y = 58 ∨ y = 59 then false else h
def nL (n : Nat) (y : UInt8) : Nat := if y = 10 then 0 else n + 1
def cutB (k n : Nat) (y : UInt8) (r : List UInt8) : Bool := decide (n = k) && (!decide (r.head? = none) && (!decide (r.head? = some 13) && (!decide (r.head? = some 10) && !decide (y = 13))))
def letL (k : Nat) : List UInt8 → Bool → Nat → List UInt8
  | [], _, _ => []
  | x :: r, h, n => yL h x :: ((if cutB k (nL n (yL h x)) (yL h x) r = true then [13, 10, 32] else []) ++ letL k r (hL h (yL h x) r) (nL n (yL h x)))
def lowP : Bool → List UInt8 → List UInt8
  | _, [] => []
  | h, x :: p => yL h x :: lowP (if yL h x = 58 ∨ yL h x = 59 then false else h) p
theorem lowP_false : ∀ p : List UInt8, lowP false p = p
  | [] => rfl
  | x :: p => by
    have : (if yL false x = 58 ∨ yL false x = 59 then false else false) = false := by split <;> rfl
    rw [lowP, this, lowP_false p]; rfl
theorem lowP_len : ∀ (h : Bool) (p : List UInt8), (lowP h p).length = p.length
  | _, [] => rfl
  | h, x :: p => by rw [lowP, List.length_cons, lowP_len, List.length_cons]
theorem low_end (x : UInt8) (h : Bool) : (x ≠ 10 ∧ x ≠ 13) → (yL h x ≠ 10 ∧ yL h x ≠ 13) := by
  cases h
  · exact fun h => h
  · have : ∀ y : Fin 256, ((UInt8.ofNat y.val) ≠ 10 ∧ (UInt8.ofNat y.val) ≠ 13) → (lowC (UInt8.ofNat y.val) ≠ 10 ∧ lowC (UInt8.ofNat y.val) ≠ 13) := by decide +kernel
    have h2 := this ⟨x.toNat, x.toNat_lt⟩
    rw [show UInt8.ofNat (⟨x.toNat, x.toNat_lt⟩ : Fin 256).val = x from by simp] at h2
    exact h2
theorem lowP_end : ∀ (h : Bool) (p : List UInt8), noEnd p → noEnd (lowP h p)
  | _, [], _ => fun c hc => by cases hc
  | h, x :: p, hp => by
    intro c hc
    rw [lowP] at hc
    rcases List.mem_cons.1 hc with rfl | hc
    · exact low_end x h (hp x (by simp))
    · exact lowP_end _ p (fun d hd => hp d (by simp [hd])) c hc
theorem yL_13 (h : Bool) : yL h 13 = 13 := by cases h <;> rfl
theorem yL_10 (h : Bool) : yL h 10 = 10 := by cases h <;> rfl
/-- A physical line's end. -/
theorem let_end {k n : Nat} (hk : 1 ≤ k) (h : Bool) (R : List UInt8) : letL k (13 :: 10 :: R) h n = 13 :: 10 :: letL k R (hR R) 0 := by
  have c1 : cutB k (nL n 13) 13 (10 :: R) = false := by simp [cutB]
  have e1 : hL h 13 (10 :: R) = h := by simp [hL]
  have c2 : cutB k (nL (nL n 13) 10) 10 R = false := by
    have : nL (nL n 13) 10 = 0 := rfl
    rw [this]
    unfold cutB
    rw [decide_eq_false (by omega)]; rfl
  rw [letL, yL_13, c1, e1, letL, yL_10, c2]
  rfl
theorem let_past {k : Nat} (hk : 1 ≤ k) : ∀ (p : List UInt8) (h : Bool) (n : Nat) (R : List UInt8), noEnd p → k ≤ n → letL k (p ++ 13 :: 10 :: R) h n = lowP h p ++ 13 :: 10 :: letL k R (hR R) 0
  | [], h, n, R, _, _ => let_end hk h R
  | x :: p, h, n, R, hp, hn => by
    have hy := low_end x h (hp x (by simp))
    have hnl : nL n (yL h x) = n + 1 := by unfold nL; rw [if_neg hy.1]
    have hc : cutB k (n + 1) (yL h x) (p ++ 13 :: 10 :: R) = false := by
      unfold cutB
      rw [decide_eq_false (by omega)]; rfl
    have hh : hL h (yL h x) (p ++ 13 :: 10 :: R) = (if yL h x = 58 ∨ yL h x = 59 then false else h) := by unfold hL; rw [if_neg hy.1]
    rw [List.cons_append, letL, hnl, hc, hh, let_past hk p _ (n + 1) R (fun d hd => hp d (by simp [hd])) (by omega), lowP]
    rfl
theorem let_in {k : Nat} (hk : 1 ≤ k) : ∀ (p : List UInt8) (h : Bool) (n j : Nat) (R : List UInt8), noEnd p → n + j = k → 1 ≤ j →
    letL k (p ++ 13 :: 10 :: R) h n = (if j < p.length then (lowP h p).take j ++ 13 :: 10 :: 32 :: (lowP h p).drop j else lowP h p) ++ 13 :: 10 :: letL k R (hR R) 0
  | [], h, n, j, R, _, _, _ => by
    rw [if_neg (by simp)]
    exact let_end hk h R
  | x :: p, h, n, j, R, hp, hn, hj => by
    have hy := low_end x h (hp x (by simp))
    have hp' : noEnd p := fun d hd => hp d (by simp [hd])
    have hnl : nL n (yL h x) = n + 1 := by unfold nL; rw [if_neg hy.1]
    have hh : hL h (yL h x) (p ++ 13 :: 10 :: R) = (if yL h x = 58 ∨ yL h x = 59 then false else h) := by unfold hL; rw [if_neg hy.1]
    rw [List.cons_append, letL, hnl, hh]
    obtain ⟨i, rfl⟩ : ∃ i, j = i + 1 := ⟨j - 1, by omega⟩
    by_cases hi : i = 0
    · subst hi
      rw [let_past hk p _ (n + 1) R hp' (by omega), lowP]
      cases p with
      | nil =>
        have hc : cutB k (n + 1) (yL h x) ([] ++ 13 :: 10 :: R) = false := by simp [cutB]
        rw [hc]
        rfl
      | cons z p =>
        have hz := hp z (by simp)
        have hc : cutB k (n + 1) (yL h x) (z :: p ++ 13 :: 10 :: R) = true := by
          unfold cutB
          rw [decide_eq_true (by omega)]
          simp [hz.1, hz.2, hy.2]
        rw [hc, if_pos rfl, if_pos (show 0 + 1 < (x :: z :: p).length by simp)]
        simp [lowP]
    · have hc : cutB k (n + 1) (yL h x) (p ++ 13 :: 10 :: R) = false := by
        unfold cutB
        rw [decide_eq_false (by omega)]; rfl
      rw [hc, let_in hk p _ (n + 1) i R hp' (by omega) (by omega), lowP, List.length_cons]
      by_cases hl : i < p.length
      · rw [if_pos hl, if_pos (show i + 1 < p.length + 1 by omega)]; simp
      · rw [if_neg hl, if_neg (show ¬ i + 1 < p.length + 1 by omega)]; simp
/-- A physical line. -/
theorem let_phys {k : Nat} (hk : 1 ≤ k) (p : List UInt8) (h : Bool) (R : List UInt8) (hp : noEnd p) : letL k (p ++ 13 :: 10 :: R) h 0 = flatL (splitK k (lowP h p)) ++ letL k R (hR R) 0 := by
  rw [let_in hk p h 0 k R hp (by omega) hk]
  unfold splitK
  rw [lowP_len]
  by_cases hl : k < p.length
  · rw [if_pos hl, if_pos hl]; simp [flatL]
  · rw [if_neg hl, if_neg hl]; simp [flatL]
/-- Physical lines that go on. -/
theorem let_on {k : Nat} (hk : 1 ≤ k) : ∀ (bs : List (List UInt8)) (F : List UInt8), (∀ b ∈ bs, noEnd b) → letL k (flatL (bs.map (32 :: ·)) ++ F) (hR (flatL (bs.map (32 :: ·)) ++ F)) 0 = flatL (bs.flatMap fun b => splitK k (32 :: b)) ++ letL k F (hR F) 0
  | [], F, _ => by simp [flatL]
  | b :: bs, F, h => by
    have hb : noEnd (32 :: b) := fun c hc => by
      rcases List.mem_cons.1 hc with rfl | hc
      · exact ⟨by decide, by decide⟩
      · exact h b (by simp) c hc
    have e : flatL ((b :: bs).map (32 :: ·)) ++ F = (32 :: b) ++ 13 :: 10 :: (flatL (bs.map (32 :: ·)) ++ F) := by rw [List.map_cons, flatL_one]; simp
    have hh : hR ((32 :: b) ++ 13 :: 10 :: (flatL (bs.map (32 :: ·)) ++ F)) = false := by simp [hR]
    rw [e, hh, let_phys hk _ _ _ hb, lowP_false, let_on hk bs F (fun x hx => h x (by simp [hx])), List.flatMap_cons, flatL_app, List.append_assoc]
/-- A line's pieces. -/
theorem fold_pieces : ∀ (f : Nat) (l acc : List UInt8) (n : Nat), l.length ≤ f → ∃ (a : List UInt8) (bs : List (List UInt8)), acc ++ foldF f l n ++ [13, 10] = flatL ((acc ++ a) :: bs.map (32 :: ·)) ∧ l = a ++ bs.flatten ∧ (a = l ∨ 72 ≤ n + a.length)
  | 0, l, acc, n, hl => by
    have : l = [] := List.eq_nil_of_length_eq_zero (by omega)
    subst this
    exact ⟨[], [], by simp [foldF, flatL], rfl, .inl rfl⟩
  | f + 1, l, acc, n, hl => by
    by_cases h0 : l = []
    · subst h0
      exact ⟨[], [], by simp [foldF, flatL], rfl, .inl rfl⟩
    · have hk := stepL_pos l
      have hk2 := stepL_le h0
      have e : l.take (stepL l) ++ l.drop (stepL l) = l := List.take_append_drop _ _
      rw [foldF, if_neg h0]
      generalize stepL l = k at *
      by_cases hbr : 75 < n + k
      · obtain ⟨a, bs, h1, h2, _⟩ := fold_pieces f (l.drop k) (32 :: l.take k) (1 + k) (by simp; omega)
        refine ⟨[], (l.take k ++ a) :: bs, ?_, ?_, .inr (by simp; omega)⟩
        · rw [if_pos hbr]
          have e3 : acc ++ (13 :: 10 :: 32 :: (l.take k ++ foldF f (l.drop k) (1 + k))) ++ [13, 10] = acc ++ 13 :: 10 :: (32 :: l.take k ++ foldF f (l.drop k) (1 + k) ++ [13, 10]) := by simp
          rw [e3, h1, flatL_one, List.map_cons, flatL_one, flatL_one]
          simp
        · conv => lhs; rw [← e, h2]
          simp
      · obtain ⟨a, bs, h1, h2, h3⟩ := fold_pieces f (l.drop k) (acc ++ l.take k) (n + k) (by simp; omega)
        refine ⟨l.take k ++ a, bs, ?_, ?_, ?_⟩
        · rw [if_neg hbr, ← List.append_assoc acc, h1]; simp
        · conv => lhs; rw [← e, h2]
          simp
        · rcases h3 with h3 | h3
          · exact .inl (by rw [h3, e])
          · refine .inr ?_
            rw [List.length_append, List.length_take]
            omega
end Go.Proofs.YtlfhhnjdfpgadaaDoor

/-
  Plain mathematics for CompLetters: what the law makes of a component's text is read as the component.
-/
namespace Go.Proofs.YtlfhhnjdfpgadaaDoor
open Go.RowKit

/-- The first piece of a line: its name in small letters, the rest as it is. -/
theorem lowP_name : ∀ (n : List UInt8) (c : UInt8) (r : List UInt8), n.all nbC = true → (c = 58 ∨ c = 59) → lowP true (n ++ c :: r) = lowL n ++ c :: r
  | [], c, r, _, hc => by
    have h1 : yL true c = c := by rcases hc with rfl | rfl <;> rfl
    rw [List.nil_append, lowP, h1, if_pos hc, lowP_false]; rfl
  | x :: n, c, r, h, hc => by
    simp only [List.all_cons, Bool.and_eq_true] at h
    have hx := nb_low x h.1
    have h1 : yL true x = lowC x := rfl
    have h2 : ¬ (lowC x = 58 ∨ lowC x = 59) := fun e => by
      rcases e with e | e
      · exact hx.2.2.2.2.2.2.2.2.2.2.1 e
      · exact hx.2.2.2.2.2.2.2.2.2.2.2.1 e
    rw [List.cons_append, lowP, h1, if_neg h2, lowP_name n c r h.2 hc]
    rfl
theorem text_noEnd {p : Pro} (h : proOk p) : noEnd (textL p) := (line_text h).2.2.2
theorem text_head {p : Pro} (_h : proOk p) : ∃ (c : UInt8) (r : List UInt8), (c = 58 ∨ c = 59) ∧ p.pars.flatMap parT ++ 58 :: p.value = c :: r := by
  obtain ⟨c, r, e, hc⟩ := pars_head p.pars p.value
  refine ⟨c, r, ?_, e⟩
  rcases hc with hc | hc
  · first
      | exact .inl (UInt8.toNat_inj.1 hc)
      | exact .inr (UInt8.toNat_inj.1 hc)
  · first
      | exact .inl (UInt8.toNat_inj.1 hc)
      | exact .inr (UInt8.toNat_inj.1 hc)
theorem hR_text {p : Pro} (h : proOk p) (F : List UInt8) : hR (lineF (textL p) ++ F) = true := by
  obtain ⟨a, bs, h1, h2, h3⟩ := fold_pieces (textL p).length (textL p) [] 0 (Nat.le_refl _)
  have hne := h.1.2.1
  obtain ⟨x, n, hx⟩ := List.exists_cons_of_ne_nil hne
  have hxb : nbC x = true := by
    have := h.1.1
    rw [hx] at this
    simp only [List.all_cons, Bool.and_eq_true] at this
    exact this.1
  have hx32 := (nb_low x hxb).2.2.2.2.1
  have ht : textL p = x :: (n ++ (p.pars.flatMap parT ++ 58 :: p.value)) := by unfold textL; rw [hx]; rfl
  have ha : ∃ a', a = x :: a' := by
    rcases h3 with h3 | h3
    · exact ⟨_, by rw [h3, ht]⟩
    · cases a with
      | nil => simp at h3
      | cons y a' =>
        rw [ht, List.cons_append] at h2
        injection h2 with h2 _
        exact ⟨a', by rw [h2]⟩
  obtain ⟨a', rfl⟩ := ha
  simp only [List.nil_append] at h1
  have e : lineF (textL p) = flatL ((x :: a') :: bs.map (32 :: ·)) := h1
  rw [e, flatL_one]
  simp [hR, hx32]
/-- A property's line, folded, as the law turns it. -/
theorem let_line {k : Nat} (hk : 1 ≤ k) {p : Pro} (h : proOk p) (F : List UInt8) : ∃ phys : List (List UInt8), letL k (lineF (textL p) ++ F) true 0 = flatL phys ++ letL k F (hR F) 0 ∧ (∀ x ∈ phys, noEnd x) ∧ ∀ R done, joinP (phys ++ R) done = joinP R (done ++ [lowX p]) := by
  obtain ⟨a, bs, h1, h2, h3⟩ := fold_pieces (textL p).length (textL p) [] 0 (Nat.le_refl _)
  simp only [List.nil_append, Nat.zero_add] at h1 h3
  have hend := text_noEnd h
  have haE : noEnd a := fun c hc => hend c (by rw [h2]; exact List.mem_append_left _ hc)
  have hbE : ∀ b ∈ bs, noEnd b := fun b hb c hc => hend c (by rw [h2]; exact List.mem_append_right _ (List.mem_flatten.2 ⟨b, hb, hc⟩))
  obtain ⟨c, r, hc, e⟩ := text_head h
  have htx : textL p = p.name ++ c :: r := by unfold textL; rw [e]
  have hlx : lowX p = lowL p.name ++ c :: r := by unfold lowX; rw [e]
  have ha : ∃ a', a = p.name ++ c :: a' := by
    have hl := h.1.2.2.1
    have hpre : p.name ++ [c] <+: a := by
      refine List.prefix_of_prefix_length_le (l₃ := textL p) ?_ ?_ ?_
      · exact ⟨r, by rw [htx]; simp⟩
      · exact ⟨bs.flatten, h2.symm⟩
      · rcases h3 with h3 | h3
        · rw [h3, htx]; simp
        · simp; omega
    obtain ⟨a', ha⟩ := hpre
    exact ⟨a', by rw [← ha]; simp⟩
  obtain ⟨a', rfl⟩ := ha
  have hlow := lowP_name p.name c a' h.1.1 hc
  have hr : r = a' ++ bs.flatten := by
    rw [htx, List.append_assoc, List.cons_append] at h2
    have := List.append_cancel_left h2
    injection this
  refine ⟨splitK k (lowP true (p.name ++ c :: a')) ++ bs.flatMap fun b => splitK k (32 :: b), ?_, fun x hx => ?_, fun R done => ?_⟩
  · have e1 : lineF (textL p) ++ F = (p.name ++ c :: a') ++ 13 :: 10 :: (flatL (bs.map (32 :: ·)) ++ F) := by
      show foldF _ _ _ ++ [13, 10] ++ F = _
      rw [h1, flatL_one]; simp
    rw [e1, let_phys hk _ _ _ haE, let_on hk bs F hbE, flatL_app, List.append_assoc]
  · rcases List.mem_append.1 hx with hx | hx
    · exact split_noEnd (lowP_end _ _ haE) x hx
    · obtain ⟨b, hb, hx⟩ := List.mem_flatMap.1 hx
      refine split_noEnd (fun d hd => ?_) x hx
      rcases List.mem_cons.1 hd with rfl | hd
      · exact ⟨by decide, by decide⟩
      · exact hbE b hb d hd
  · rw [hlow]
    have hne := h.1.2.1
    obtain ⟨x, n, hx⟩ := List.exists_cons_of_ne_nil hne
    have hxb : nbC x = true := by
      have := h.1.1
      rw [hx] at this
      simp only [List.all_cons, Bool.and_eq_true] at this
      exact this.1
    have hl32 := (nb_low x hxb).2.2.2.2.2.2.2.2
    have hg : goesL (lowL p.name ++ c :: a') = false := by
      have e2 : lowL p.name ++ c :: a' = lowC x :: (lowL n ++ c :: a') := by rw [hx]; rfl
      rw [e2]
      unfold goesL
      simp [hl32.1, hl32.2.1]
    rw [join_line hk (by simp) hg, hlx, hr]
    simp
theorem let_lines {k : Nat} (hk : 1 ≤ k) : ∀ ps : List Pro, (∀ p ∈ ps, proOk p) → ∃ phys : List (List UInt8), letL k (foldL (ps.map textL)) (hR (foldL (ps.map textL))) 0 = flatL phys ∧ (∀ x ∈ phys, noEnd x) ∧ ∀ R done, joinP (phys ++ R) done = joinP R (done ++ ps.map lowX)
  | [], _ => ⟨[], rfl, (fun x hx => by cases hx), fun R done => by simp⟩
  | p :: ps, h => by
    have hp := h p (List.mem_cons_self ..)
    obtain ⟨phys, h1, h2, h3⟩ := let_lines hk ps (fun q hq => h q (List.mem_cons_of_mem _ hq))
    obtain ⟨ph, g1, g2, g3⟩ := let_line hk hp (foldL (ps.map textL))
    have e : foldL ((p :: ps).map textL) = lineF (textL p) ++ foldL (ps.map textL) := by rw [List.map_cons]; unfold foldL; rw [List.flatMap_cons]
    refine ⟨ph ++ phys, ?_, fun x hx => ?_, fun R done => ?_⟩
    · rw [e, hR_text hp, g1, h1, flatL_app]
    · rcases List.mem_append.1 hx with hx | hx
      · exact g2 x hx
      · exact h2 x hx
    · rw [List.append_assoc, g3, h3]; simp
/-- What the law makes of a component's text is read as the component. -/
theorem let_read {k : Nat} (hk : 1 ≤ k) {m : CM} (h : fitT m = true) (hl : (letL k (prnC m) true 0).length ≤ 8192) : parC (letL k (prnC m) true 0) = .ok m := by
  have h0 := h
  unfold fitT at h
  simp only [Bool.and_eq_true, decide_eq_true_eq] at h
  obtain ⟨h1, h2, h3⟩ := h
  obtain ⟨e1, e2⟩ := lines_pros 12 m h1
  have ep : prnC m = foldL ((prosC m).map textL) := by unfold prnC; rw [if_pos h0, e1]
  obtain ⟨phys, g1, g2, g3⟩ := let_lines hk (prosC m) e2
  have hh : hR (foldL ((prosC m).map textL)) = true := by
    have hne : prosC m ≠ [] := by obtain ⟨nm, ps, cs⟩ := m; rw [prosC]; simp
    obtain ⟨p, ps, hp⟩ := List.exists_cons_of_ne_nil hne
    have hpo := e2 p (by rw [hp]; simp)
    rw [hp, List.map_cons]
    unfold foldL
    rw [List.flatMap_cons]
    exact hR_text hpo _
  rw [hh] at g1
  rw [ep] at hl ⊢
  rw [g1] at hl ⊢
  have hu : unfQ (flatL phys) = ((prosC m).map lowX, 0) := by
    unfold unfQ
    have hj : joinP phys [] = some ((prosC m).map lowX) := by
      have := g3 [] []
      rw [List.append_nil, List.nil_append, joinP] at this
      exact this
    have hc : chkP 0 ((prosC m).map lowX) = 0 := chk_of _ 0 (by rw [e1] at h2; simpa using h2) (fun x hx => by
      obtain ⟨p, hp, rfl⟩ := List.mem_map.1 hx
      have hpo := e2 p hp
      refine ⟨fun e => ?_, by rw [lowX_len]; exact hpo.2.2.2.2⟩
      have := congrArg List.length e
      rw [lowX_len] at this
      simp [textL] at this)
    rw [if_neg (by omega), raw_flat _ g2, hj]
    simp only [hc, if_true]
  obtain ⟨nm, ps, cs⟩ := m
  have hn : nameB nm = true := (fitC_mk (d := 11) h1).1
  obtain ⟨f, hf⟩ := take_ok 12 nm ps cs 1 [] h1 (by omega)
  have hr := read_low _ e2
  unfold parC
  rw [hu]
  simp only [ne_eq, not_true_eq_false, if_false]
  rw [hr, prosC]
  simp only [name_up hn, hn]
  have e : ps ++ (prosCs cs ++ [⟨endT, [], nm⟩]) = ps ++ (prosCs cs ++ (⟨endT, [], nm⟩ :: [])) := rfl
  rw [if_neg (by simp), e, take_need f _ _ _ _ _ _ hf]
  simp
end Go.Proofs.YtlfhhnjdfpgadaaDoor
