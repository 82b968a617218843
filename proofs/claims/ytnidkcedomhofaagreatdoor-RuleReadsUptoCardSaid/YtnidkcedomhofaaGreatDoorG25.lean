/-
  Plain mathematics for layer 14 (rule): what is written is read back, in whatever order its parts stand, in great and small letters.
-/
import Derived.Test.YtnidkcedomhofaaGreatDoorG18
namespace Go.Proofs.YtnidkcedomhofaaGreatDoor
open Go.RowKit

/-- A byte that may stand in a part. -/
def gd (c : UInt8) : Prop := c ≠ 59 ∧ ¬ (97 ≤ c.toNat ∧ c.toNat ≤ 122)
theorem gd_dig {c : UInt8} (h : digN c.toNat = true) : gd c := by
  have := digN_bound h
  exact ⟨by rintro rfl; revert h; decide, by omega⟩
theorem gd_list {l : List UInt8} (h : (l.all fun c => decide (c ≠ 59) && decide (¬ (97 ≤ c.toNat ∧ c.toNat ≤ 122))) = true) : ∀ c ∈ l, gd c := by
  intro c hc
  have := List.all_eq_true.1 h c hc
  simp only [Bool.and_eq_true, decide_eq_true_iff] at this
  exact this
theorem gd_app {a b : List UInt8} (ha : ∀ c ∈ a, gd c) (hb : ∀ c ∈ b, gd c) : ∀ c ∈ a ++ b, gd c := fun c hc => (List.mem_append.1 hc).elim (ha c) (hb c)
theorem pad_gd : ∀ (k n : Nat), ∀ c ∈ padT k n, gd c
  | 0, n, c, hc => by simp [padT] at hc
  | k + 1, n, c, hc => by
    rw [padT_cons] at hc
    rcases List.mem_cons.1 hc with rfl | hc
    · exact gd_dig (digC_dig _)
    · exact pad_gd k n c hc
theorem dayT_gd (n : Int) : ∀ c ∈ dayT n, gd c := by
  unfold dayT
  split
  · exact gd_app (gd_app (pad_gd _ _) (pad_gd _ _)) (pad_gd _ _)
  · intro c hc; cases hc
theorem stampT_gd (t : Int) : ∀ c ∈ stampT t, gd c := by
  unfold stampT
  split
  · refine gd_app (gd_app (dayT_gd _) (gd_list (by decide))) ?_
    unfold clkT
    exact gd_app (gd_app (gd_app (gd_app (pad_gd _ _) (gd_list rfl)) (pad_gd _ _)) (gd_list rfl)) (pad_gd _ _)
  · intro c hc; cases hc
theorem timT_gd (w : Wh) : ∀ c ∈ timT w, gd c := by
  unfold timT
  split
  · unfold timS
    split
    · exact dayT_gd _
    · refine gd_app (stampT_gd _) ?_
      split
      · exact gd_list (by decide)
      · intro c hc; cases hc
  · intro c hc; cases hc

/-- A byte of a number. -/
def nb (c : UInt8) : Prop := digN c.toNat = true ∨ c = 45
theorem nb_gd {c : UInt8} (h : nb c) : gd c := h.elim gd_dig (by rintro rfl; exact gd_list (l := [45]) (by decide) 45 (by simp))
theorem nb_com {c : UInt8} (h : nb c) : c ≠ 44 := by rintro rfl; rcases h with h | h <;> revert h <;> decide
theorem lt_pow (n : Nat) : n < 10 ^ n := Nat.lt_pow_self (by decide)
theorem numT_nb (n : Int) : ∀ c ∈ numT n, nb c := by
  unfold numT
  intro c hc
  rcases List.mem_append.1 hc with hc | hc
  · split at hc
    · exact .inr (by simpa using hc)
    · cases hc
  · exact .inl (dec_digs _ _ (lt_pow _) c hc)
theorem cntL_dec {n : Nat} {most : Int} (h1 : (n : Int) ≤ most) (h2 : n < 10000) : cntL (Lib.decDigits n) most = n := by
  have hl := dec_len 3 n h2
  have e : numV (Lib.decDigits n) most = ((n : Int), true) := by
    unfold numV
    rw [if_neg (fun k => k.elim (dec_ne n) (by omega)), dec_num 4 n h2]
    simp only
    rw [if_neg (by omega)]
  unfold cntL
  rw [e, if_pos ⟨rfl, hl⟩]
theorem cntL_num {n most : Int} (h0 : 0 ≤ n) (h1 : n ≤ most) (h2 : n < 10000) : cntL (numT n) most = n := by
  unfold numT
  rw [if_neg (by omega), List.nil_append, cntL_dec (by omega) (by omega)]
  omega
theorem eitL_num {n most : Int} (h1 : -most ≤ n ∧ n ≤ most) (h2 : most < 10000) : eitL (numT n) most = n := by
  unfold numT
  by_cases hn : n < 0
  · rw [if_pos hn, List.singleton_append, eitL]
    rw [cntL_dec (by omega) (by omega)]
    omega
  · rw [if_neg hn, List.nil_append]
    have hd := dec_digs _ _ (lt_pow n.natAbs)
    unfold eitL
    split
    · rename_i r e; exact absurd (hd 45 (by rw [e]; simp)) (by decide)
    · rename_i r e; exact absurd (hd 43 (by rw [e]; simp)) (by decide)
    · rw [cntL_dec (by omega) (by omega)]; omega
theorem numT_ne (n : Int) : numT n ≠ [] := by
  unfold numT
  intro h
  exact dec_ne _ (List.append_eq_nil_iff.1 h).2
theorem day_cases {d : Int} (h : 0 ≤ d ∧ d ≤ 6) : d = 0 ∨ d = 1 ∨ d = 2 ∨ d = 3 ∨ d = 4 ∨ d = 5 ∨ d = 6 := by omega
theorem dayT7_ok {d : Int} (h : 0 ≤ d ∧ d ≤ 6) : dayL (dayT7 d) = d ∧ (dayT7 d).length = 2 ∧ (∀ c ∈ dayT7 d, gd c ∧ c ≠ 44) := by
  have H : ∀ l : List UInt8, (l.all fun c => decide (c ≠ 44)) = true → (l.all fun c => decide (c ≠ 59) && decide (¬ (97 ≤ c.toNat ∧ c.toNat ≤ 122))) = true → ∀ c ∈ l, gd c ∧ c ≠ 44 := by
    intro l h1 h2 c hc
    exact ⟨gd_list h2 c hc, by simpa using List.all_eq_true.1 h1 c hc⟩
  rcases day_cases h with rfl | rfl | rfl | rfl | rfl | rfl | rfl
  all_goals exact ⟨by decide, rfl, H _ (by decide) (by decide)⟩
theorem freq_cases {d : Int} (h : 1 ≤ d ∧ d ≤ 4) : d = 1 ∨ d = 2 ∨ d = 3 ∨ d = 4 := by omega
theorem freqT_ok {d : Int} (h : 1 ≤ d ∧ d ≤ 4) : freqL (freqB.getD d.toNat []) = d ∧ (∀ c ∈ freqB.getD d.toNat [], gd c) := by
  rcases freq_cases h with rfl | rfl | rfl | rfl
  all_goals exact ⟨by decide, gd_list (by decide)⟩
theorem wdL_wdy {d : Int × Int} (h : 0 ≤ d.2 ∧ d.2 ≤ 6) (h2 : -53 ≤ d.1 ∧ d.1 ≤ 53) : wdL (wdyT d) = some d := by
  obtain ⟨n, k⟩ := d
  simp only at h h2
  obtain ⟨e1, e2, _⟩ := dayT7_ok h
  unfold wdL wdyT
  simp only
  by_cases hn : n = 0
  · subst hn
    rw [if_pos rfl, List.nil_append, e2]
    simp only [Nat.sub_self, List.drop_zero]
    rw [e1, if_neg (by omega), if_pos (Nat.le_refl _)]
  · rw [if_neg hn]
    have hl : (numT n ++ dayT7 k).length - 2 = (numT n).length := by rw [List.length_append, e2]; omega
    rw [hl, List.drop_left, List.take_left, e1, if_neg (by omega), eitL_num h2 (by decide), if_neg hn, if_neg]
    rw [List.length_append, e2]
    have : 0 < (numT n).length := List.length_pos_iff.2 (numT_ne n)
    omega
theorem wdyT_ok {d : Int × Int} (h : 0 ≤ d.2 ∧ d.2 ≤ 6) : ∀ c ∈ wdyT d, gd c ∧ c ≠ 44 := by
  unfold wdyT
  intro c hc
  rcases List.mem_append.1 hc with hc | hc
  · split at hc
    · cases hc
    · have := numT_nb _ c hc; exact ⟨nb_gd this, nb_com this⟩
  · exact (dayT7_ok h).2.2 c hc
theorem joinT_gd {c : UInt8} (hc : gd c) : ∀ ps : List (List UInt8), (∀ p ∈ ps, ∀ x ∈ p, gd x) → ∀ x ∈ Lib.joinTail [c] ps, gd x
  | [], _ => by intro x hx; simp [Lib.joinTail] at hx
  | p :: ps, h => by
    intro x hx
    have e : Lib.joinTail [c] (p :: ps) = c :: (p ++ Lib.joinTail [c] ps) := by simp [Lib.joinTail]
    rw [e] at hx
    rcases List.mem_cons.1 hx with rfl | hx
    · exact hc
    · exact gd_app (h p (by simp)) (joinT_gd hc ps (fun q hq => h q (by simp [hq]))) x hx
theorem join_gd {c : UInt8} (hc : gd c) {ps : List (List UInt8)} (h : ∀ p ∈ ps, ∀ x ∈ p, gd x) : ∀ x ∈ Lib.join ps [c], gd x := by
  cases ps with
  | nil => intro x hx; rw [Lib.join_nil] at hx; cases hx
  | cons p ps => rw [Lib.join_cons]; exact gd_app (h p (by simp)) (joinT_gd hc ps (fun q hq => h q (by simp [hq])))
theorem gd44 : gd 44 := gd_list (l := [44]) (by decide) 44 (by simp)
theorem nums_gd (l : List Int) : ∀ x ∈ Lib.join (l.map numT) [44], gd x := by
  refine join_gd gd44 fun p hp x hx => ?_
  obtain ⟨n, _, rfl⟩ := List.mem_map.1 hp
  exact nb_gd (numT_nb n x hx)
theorem valT_gd {r : RuV} (h : FitV r) : ∀ k, ∀ c ∈ valT r k, gd c := by
  intro k
  unfold valT
  split
  · exact (freqT_ok h.freq).2
  · exact fun c hc => nb_gd (numT_nb _ c hc)
  · exact fun c hc => nb_gd (numT_nb _ c hc)
  · exact timT_gd _
  · exact nums_gd _
  · exact nums_gd _
  · refine join_gd gd44 fun p hp x hx => ?_
    obtain ⟨d, hd, rfl⟩ := List.mem_map.1 hp
    have := h.dys.2 d hd
    exact (wdyT_ok ⟨this.1, this.2.1⟩ x hx).1
  · exact nums_gd _
  · exact fun c hc => ((dayT7_ok h.wk).2.2 c hc).1
theorem key_cases {k : Nat} (h : k < 9) : k = 0 ∨ k = 1 ∨ k = 2 ∨ k = 3 ∨ k = 4 ∨ k = 5 ∨ k = 6 ∨ k = 7 ∨ k = 8 := by omega
theorem name_ok {k : Nat} (h : k < 9) : nameL (nameB.getD k []) = k ∧ (61 : UInt8) ∉ nameB.getD k [] ∧ (∀ c ∈ nameB.getD k [], gd c) := by
  rcases key_cases h with rfl | rfl | rfl | rfl | rfl | rfl | rfl | rfl | rfl
  all_goals exact ⟨by decide, by decide, gd_list (by decide)⟩
theorem name_inj {j k : Nat} (hj : j < 9) (hk : k < 9) (h : nameB.getD j [] = nameB.getD k []) : j = k := by
  have a := (name_ok hj).1
  have b := (name_ok hk).1
  rw [h, b] at a
  omega
theorem partK_gd {r : RuV} (h : FitV r) {k : Nat} (hk : k < 9) : ∀ c ∈ partK r k, gd c := by
  unfold partK
  refine gd_app (name_ok hk).2.2 ?_
  intro c hc
  rcases List.mem_cons.1 hc with rfl | hc
  · exact gd_list (l := [61]) (by decide) 61 (by simp)
  · exact valT_gd h k c hc
theorem idx_mid {c : UInt8} : ∀ (a r : List UInt8), c ∉ a → Lib.index (a ++ c :: r) [c] = a.length
  | [], r, _ => by rw [List.nil_append, Lib.index]; simp [List.isPrefixOf]
  | x :: a, r, h => by
    have h1 : (c == x) = false := by rw [beq_eq_false_iff_ne]; exact fun e => h (by simp [e])
    have ih := idx_mid a r (fun k => h (List.mem_cons_of_mem _ k))
    rw [List.cons_append, Lib.index, ih]
    simp only [List.isPrefixOf, h1, Bool.false_and, Bool.false_eq_true, if_false]
    rw [if_neg (by rw [beq_iff_eq]; omega)]
    simp
theorem cut_mid {c : UInt8} {a r : List UInt8} (h : c ∉ a) : Lib.cut (a ++ c :: r) [c] = (a, r, true) := by
  unfold Lib.cut
  rw [idx_mid a r h, if_pos (by omega)]
  simp
/-- The rule as far as the parts of these names are read. -/
def mixR (S : List Nat) (r : RuV) : RuV where
  freq := if 0 ∈ S then r.freq else 0
  intv := if 1 ∈ S then r.intv else 1
  cnt := if 2 ∈ S then r.cnt else 0
  has := if 3 ∈ S then r.has else false
  unt := if 3 ∈ S then r.unt else Wh.zero
  mon := if 4 ∈ S then r.mon else []
  md := if 5 ∈ S then r.md else []
  dys := if 6 ∈ S then r.dys else []
  pos := if 7 ∈ S then r.pos else []
  wk := if 8 ∈ S then r.wk else 0
theorem fold_nums {α : Type} {k : Nat} {enc : α → List UInt8} {put : RuV → List α → RuV} (h0 : ∀ r, put r [] = r) (h2 : ∀ r a b, put (put r a) b = put r (a ++ b)) :
    ∀ (l : List α), (∀ x ∈ l, ∀ r, readK k r (enc x) = some (put r [x])) → ∀ r, foldK k r (l.map enc) = some (put r l)
  | [], _, r => by rw [List.map_nil, foldK, h0]
  | x :: l, h, r => by
    rw [List.map_cons, foldK, h x (by simp) r]
    simp only
    rw [fold_nums h0 h2 l (fun y hy => h y (by simp [hy])), h2]
    rfl
theorem fold_one (k : Nat) (r : RuV) (v : List UInt8) : foldK k r [v] = readK k r v := by
  rw [foldK]
  cases readK k r v <;> rfl
theorem split_nums {l : List Int} (h : l ≠ []) : splitC 44 [] (Lib.join (l.map numT) [44]) = l.map numT := by
  refine split_join (by simpa using h) fun q hq hc => ?_
  obtain ⟨n, _, rfl⟩ := List.mem_map.1 hq
  exact nb_com (numT_nb n _ hc) rfl
theorem split_wds {l : List (Int × Int)} (h : l ≠ []) (hl : OkD l) : splitC 44 [] (Lib.join (l.map wdyT) [44]) = l.map wdyT := by
  refine split_join (by simpa using h) fun q hq hc => ?_
  obtain ⟨d, hd, rfl⟩ := List.mem_map.1 hq
  have := hl.2 d hd
  exact (wdyT_ok ⟨this.1, this.2.1⟩ _ hc).2 rfl
/-- A part's values, read. -/
theorem fold_part {r : RuV} (h : FitV r) {k : Nat} (hk : k < 9) (hh : hasK r k = true) (S : List Nat) (hS : k ∉ S) :
    foldK k (mixR S r) (valsK k (valT r k)) = some (mixR (S ++ [k]) r) ∧ (isLst k = true → (splitC 44 [] (valT r k)).length ≤ 24) := by
  rcases key_cases hk with rfl | rfl | rfl | rfl | rfl | rfl | rfl | rfl | rfl
  · have e := (freqT_ok h.freq).1
    have := h.freq
    refine ⟨?_, fun k => by cases k⟩
    rw [show valsK 0 (valT r 0) = [freqB.getD r.freq.toNat []] from rfl, fold_one, readK, e, if_neg (by omega)]
    simp [mixR]
  · have := h.intv
    have e : cntL (numT r.intv) 1000 = r.intv := cntL_num (by omega) (by omega) (by omega)
    refine ⟨?_, fun k => by cases k⟩
    rw [show valsK 1 (valT r 1) = [numT r.intv] from rfl, fold_one, readK, e, if_neg (by omega)]
    simp [mixR]
  · have := h.cnt
    have e : cntL (numT r.cnt) 1000 = r.cnt := cntL_num (by omega) (by omega) (by omega)
    have hn : r.cnt ≠ 0 := by simpa [hasK] using hh
    refine ⟨?_, fun k => by cases k⟩
    rw [show valsK 2 (valT r 2) = [numT r.cnt] from rfl, fold_one, readK, e, if_neg (by omega)]
    simp [mixR]
  · have hy : r.has = true := hh
    have e := timT_back r.unt (h.yes hy).2
    refine ⟨?_, fun k => by cases k⟩
    rw [show valsK 3 (valT r 3) = [timT r.unt] from rfl, fold_one, readK, e, if_pos rfl]
    simp [mixR, hy]
  · have hn : r.mon ≠ [] := by simpa [hasK] using hh
    have es := split_nums hn
    refine ⟨?_, fun _ => by rw [show valT r 4 = Lib.join (r.mon.map numT) [44] from rfl, es, List.length_map]; exact h.mon.1⟩
    rw [show valsK 4 (valT r 4) = splitC 44 [] (Lib.join (r.mon.map numT) [44]) from rfl, es]
    rw [fold_nums (put := fun r l => { r with mon := r.mon ++ l }) (fun r => by simp) (fun r a b => by simp) r.mon (fun x hx r => by
      have := h.mon.2 x hx
      rw [readK, cntL_num (by omega) (by omega) (by omega), if_neg (by omega)])]
    simp [mixR, hS]
  · have hn : r.md ≠ [] := by simpa [hasK] using hh
    have es := split_nums hn
    refine ⟨?_, fun _ => by rw [show valT r 5 = Lib.join (r.md.map numT) [44] from rfl, es, List.length_map]; exact h.md.1⟩
    rw [show valsK 5 (valT r 5) = splitC 44 [] (Lib.join (r.md.map numT) [44]) from rfl, es]
    rw [fold_nums (put := fun r l => { r with md := r.md ++ l }) (fun r => by simp) (fun r a b => by simp) r.md (fun x hx r => by
      have := h.md.2 x hx
      rw [readK, eitL_num (by omega) (by omega), if_neg (by omega)])]
    simp [mixR, hS]
  · have hn : r.dys ≠ [] := by simpa [hasK] using hh
    have es := split_wds hn h.dys
    refine ⟨?_, fun _ => by rw [show valT r 6 = Lib.join (r.dys.map wdyT) [44] from rfl, es, List.length_map]; exact h.dys.1⟩
    rw [show valsK 6 (valT r 6) = splitC 44 [] (Lib.join (r.dys.map wdyT) [44]) from rfl, es]
    rw [fold_nums (put := fun r l => { r with dys := r.dys ++ l }) (fun r => by simp) (fun r a b => by simp) r.dys (fun x hx r => by
      have := h.dys.2 x hx
      rw [readK, wdL_wdy (by omega) (by omega)])]
    simp [mixR, hS]
  · have hn : r.pos ≠ [] := by simpa [hasK] using hh
    have es := split_nums hn
    refine ⟨?_, fun _ => by rw [show valT r 7 = Lib.join (r.pos.map numT) [44] from rfl, es, List.length_map]; exact h.pos.1⟩
    rw [show valsK 7 (valT r 7) = splitC 44 [] (Lib.join (r.pos.map numT) [44]) from rfl, es]
    rw [fold_nums (put := fun r l => { r with pos := r.pos ++ l }) (fun r => by simp) (fun r a b => by simp) r.pos (fun x hx r => by
      have := h.pos.2 x hx
      rw [readK, eitL_num (by omega) (by omega), if_neg (by omega)])]
    simp [mixR, hS]
  · have e := (dayT7_ok h.wk).1
    have := h.wk
    refine ⟨?_, fun k => by cases k⟩
    rw [show valsK 8 (valT r 8) = [dayT7 r.wk] from rfl, fold_one]
    unfold readK
    simp only
    rw [e, if_neg (by omega)]
    simp [mixR]
def namesK (S : List Nat) : List (List UInt8) := S.map fun k => nameB.getD k []
theorem step_part {r : RuV} (h : FitV r) {k : Nat} (hk : k < 9) (hh : hasK r k = true) (S : List Nat) (hS : k ∉ S) (hS9 : ∀ j ∈ S, j < 9) :
    stepV (mixR S r) (namesK S) (partK r k) = .ok (mixR (S ++ [k]) r, namesK (S ++ [k])) := by
  obtain ⟨e1, e2, _⟩ := name_ok hk
  obtain ⟨f1, f2⟩ := fold_part h hk hh S hS
  unfold stepV partK
  rw [cut_mid e2]
  simp only
  rw [e1, Int.toNat_natCast, if_neg (by decide), if_neg (by omega), if_neg, if_neg, if_neg (fun x => by have := f2 x.1; omega), f1]
  · simp [namesK]
  · intro hm
    obtain ⟨j, hj, e⟩ := List.mem_map.1 hm
    have := name_inj (hS9 j hj) hk e
    subst this
    exact hS hj
  · rintro ⟨hz, hf⟩
    obtain rfl : k = 0 := by omega
    have := (freqT_ok h.freq).1
    have h3 := h.freq
    rw [show valT r 0 = freqB.getD r.freq.toNat [] from rfl, this] at hf
    omega
theorem run_parts {r : RuV} (h : FitV r) : ∀ (L S : List Nat), (∀ k ∈ L, k < 9 ∧ hasK r k = true) → (∀ k ∈ S, k < 9) → (∀ k ∈ L, k ∉ S) → L.Nodup →
    runV (mixR S r) (namesK S) (L.map (partK r)) = .ok (mixR (S ++ L) r, namesK (S ++ L))
  | [], S, _, _, _, _ => by rw [List.map_nil, runV, List.append_nil]
  | k :: L, S, hL, hS, hd, hn => by
    rw [List.map_cons, runV, step_part h (hL k (by simp)).1 (hL k (by simp)).2 S (hd k (by simp)) hS]
    simp only
    obtain ⟨n1, n2⟩ := List.nodup_cons.1 hn
    rw [run_parts h L (S ++ [k]) (fun j hj => hL j (by simp [hj])) (fun j hj => by
      rcases List.mem_append.1 hj with hj | hj
      · exact hS j hj
      · simp only [List.mem_singleton] at hj; subst hj; exact (hL j (by simp)).1) (fun j hj hx => by
      rcases List.mem_append.1 hx with hx | hx
      · exact hd j (by simp [hj]) hx
      · simp only [List.mem_singleton] at hx; subst hx; exact n1 hj) n2]
    simp
theorem mix_all {r : RuV} (h : FitV r) {L : List Nat} (hL : ∀ k, k < 9 → hasK r k = true → k ∈ L) : mixR L r = r := by
  have g : ∀ k, k < 9 → k ∉ L → hasK r k = false := fun k hk hn => by
    cases hh : hasK r k
    · rfl
    · exact absurd (hL k hk hh) hn
  have h0 : (0 : Nat) ∈ L := hL 0 (by omega) rfl
  have e1 : (if 1 ∈ L then r.intv else 1) = r.intv := by
    split
    · rfl
    · rename_i k; have := g 1 (by omega) k; simp [hasK] at this; exact this.symm
  have e2 : (if 2 ∈ L then r.cnt else 0) = r.cnt := by
    split
    · rfl
    · rename_i k; have := g 2 (by omega) k; simp [hasK] at this; exact this.symm
  have e3 : (if 3 ∈ L then r.has else false) = r.has ∧ (if 3 ∈ L then r.unt else Wh.zero) = r.unt := by
    split
    · exact ⟨rfl, rfl⟩
    · rename_i k
      have : r.has = false := g 3 (by omega) k
      exact ⟨this.symm, (h.no this).symm⟩
  have e4 : (if 4 ∈ L then r.mon else []) = r.mon := by
    split
    · rfl
    · rename_i k; have := g 4 (by omega) k; simp [hasK] at this; exact this.symm
  have e5 : (if 5 ∈ L then r.md else []) = r.md := by
    split
    · rfl
    · rename_i k; have := g 5 (by omega) k; simp [hasK] at this; exact this.symm
  have e6 : (if 6 ∈ L then r.dys else []) = r.dys := by
    split
    · rfl
    · rename_i k; have := g 6 (by omega) k; simp [hasK] at this; exact this.symm
  have e7 : (if 7 ∈ L then r.pos else []) = r.pos := by
    split
    · rfl
    · rename_i k; have := g 7 (by omega) k; simp [hasK] at this; exact this.symm
  have e8 : (if 8 ∈ L then r.wk else 0) = r.wk := by
    split
    · rfl
    · rename_i k; have := g 8 (by omega) k; simp [hasK] at this; exact this.symm
  unfold mixR
  rw [if_pos h0, e1, e2, e3.1, e3.2, e4, e5, e6, e7, e8]
theorem keys_mem {r : RuV} {k : Nat} : k ∈ keysV r ↔ k < 9 ∧ hasK r k = true := by
  unfold keysV
  rw [List.mem_filter, List.mem_range]
theorem keys_nodup (r : RuV) : (keysV r).Nodup := List.Nodup.sublist List.filter_sublist List.nodup_range
theorem mix_nil (r : RuV) : mixR [] r = RuV.init := rfl
/-- The parts of a fit rule, in whatever order. -/
theorem run_perm {r : RuV} (h : FitV r) {L : List Nat} (hL : ∀ k, k ∈ L ↔ k ∈ keysV r) (hn : L.Nodup) : endV (runV RuV.init [] (L.map (partK r))) = (r, 0) := by
  have e := run_parts h L [] (fun k hk => keys_mem.1 ((hL k).1 hk)) (by simp) (by simp) hn
  rw [mix_nil, List.nil_append, mix_all h (fun k h1 h2 => (hL k).2 (keys_mem.2 ⟨h1, h2⟩))] at e
  rw [show namesK [] = [] from rfl] at e
  rw [e]
  unfold endV
  simp only
  have := h.freq
  rw [if_neg (by omega), if_pos ((fitV_iff r).2 h)]
theorem up_gd : ∀ {l : List UInt8}, (∀ c ∈ l, gd c) → upL l = l
  | [], _ => rfl
  | c :: l, h => by
    have := up_gd (l := l) (fun x hx => h x (by simp [hx]))
    unfold upL at this ⊢
    rw [List.map_cons, this, upC_keep (h c (by simp)).2]
theorem parts_gd {r : RuV} (h : FitV r) : ∀ p ∈ partsV r, (∀ c ∈ p, gd c) := by
  intro p hp
  obtain ⟨k, hk, rfl⟩ := List.mem_map.1 hp
  exact partK_gd h (keys_mem.1 hk).1
theorem keys_ne (r : RuV) : keysV r ≠ [] := fun e => by
  have : 0 ∈ keysV r := keys_mem.2 ⟨by omega, rfl⟩
  rw [e] at this; cases this
theorem upL_join : ∀ ps : List (List UInt8), upL (Lib.joinTail [59] ps) = Lib.joinTail [59] (ps.map upL)
  | [] => rfl
  | p :: ps => by
    have e : ∀ (p : List UInt8) ps, Lib.joinTail [59] (p :: ps) = 59 :: (p ++ Lib.joinTail [59] ps) := fun p ps => by simp [Lib.joinTail]
    rw [List.map_cons, e, e, ← upL_join ps]
    show upC 59 :: upL (p ++ Lib.joinTail [59] ps) = _
    rw [upL_append, show upC 59 = 59 by decide]
theorem up_join : ∀ ps : List (List UInt8), upL (Lib.join ps [59]) = Lib.join (ps.map upL) [59]
  | [] => rfl
  | p :: ps => by rw [List.map_cons, Lib.join_cons, Lib.join_cons, upL_append, upL_join]
/-- There and back. -/
theorem parV_prn {r : RuV} (h : FitV r) : parV (prnV r) = (r, 0) := by
  unfold prnV parV
  rw [if_pos ((fitV_iff r).2 h), up_join]
  have e : (partsV r).map upL = partsV r := by
    conv => rhs; rw [← List.map_id (partsV r)]
    exact List.map_congr_left fun p hp => up_gd (parts_gd h p hp)
  rw [e, split_join (by unfold partsV; simpa using keys_ne r) (fun q hq hc => (parts_gd h q hq 59 hc).1 rfl)]
  exact run_perm h (fun k => Iff.rfl) (keys_nodup r)
theorem upC_low (c : UInt8) : upC (lowC c) = upC c := by
  apply UInt8.toNat_inj.1
  have := c.toNat_lt
  rw [upC_nat, upC_nat]
  unfold lowC lowN upN
  rw [UInt8.toNat_ofNat']
  split <;> split <;> split <;> omega
theorem upL_low (l : List UInt8) : upL (lowL l) = upL l := by
  unfold upL lowL
  rw [List.map_map]
  exact List.map_congr_left fun c _ => upC_low c
/-- The order of parts, and small letters, change nothing. -/
theorem parV_rev {r : RuV} (h : FitV r) : parV (Lib.join ((partsV r).reverse.map lowL) [59]) = (r, 0) := by
  unfold parV
  rw [up_join, List.map_map]
  have e : (partsV r).reverse.map (upL ∘ lowL) = (partsV r).reverse := by
    conv => rhs; rw [← List.map_id (partsV r).reverse]
    refine List.map_congr_left fun p hp => ?_
    rw [Function.comp, upL_low]
    exact up_gd (parts_gd h p (List.mem_reverse.1 hp))
  rw [e, split_join (by unfold partsV; simpa using keys_ne r) (fun q hq hc => (parts_gd h q (List.mem_reverse.1 hq) 59 hc).1 rfl)]
  unfold partsV
  rw [← List.map_reverse]
  exact run_perm h (fun k => List.mem_reverse) (List.pairwise_reverse.2 (List.Pairwise.imp (fun h => Ne.symm h) (keys_nodup r)))
theorem step_err {r : RuV} {seen : List (List UInt8)} {p : List UInt8} {e : Int} (h : stepV r seen p = .error e) : e ≠ 0 := by
  unfold stepV at h
  split at h
  · injection h with h; omega
  · split at h
    · injection h with h; omega
    · split at h
      · injection h with h; omega
      · split at h
        · injection h with h; omega
        · split at h
          · injection h with h; omega
          · split at h
            · injection h with h; omega
            · cases h
theorem run_err : ∀ (ps : List (List UInt8)) (r : RuV) (seen : List (List UInt8)) (e : Int), runV r seen ps = .error e → e ≠ 0
  | [], r, seen, e, h => by cases h
  | p :: ps, r, seen, e, h => by
    rw [runV] at h
    cases hx : stepV r seen p with
    | error e2 => rw [hx] at h; injection h with h; subst h; exact step_err hx
    | ok q => rw [hx] at h; exact run_err ps q.1 q.2 e h
/-- What is read is fit. -/
theorem parV_fit {s : List UInt8} (h : (parV s).2 = 0) : FitV (parV s).1 := by
  unfold parV at h ⊢
  revert h
  cases hr : runV RuV.init [] (splitC 59 [] (upL s)) with
  | error e => exact fun h => absurd h (run_err _ _ _ _ hr)
  | ok x =>
    unfold endV
    simp only
    intro h
    split at h
    · cases h
    · rename_i h0
      rw [if_neg h0]
      split at h
      · rename_i h1; rw [if_pos h1]; exact (fitV_iff _).1 h1
      · cases h
theorem prnV_ne {r : RuV} (h : FitV r) : prnV r ≠ [] := by
  intro e
  have := parV_prn h
  rw [e] at this
  have h2 : (parV []).2 = 10 := rfl
  rw [this] at h2
  cases h2
end Go.Proofs.YtnidkcedomhofaaGreatDoor
