/-
  Plain mathematics for layer 11 (line): lines folded, and unfolded.
-/
import Derived.Test.YtipmeooldopkmaaDoorL06
import Derived.Test.YtipmeooldopkmaaDoorL13
namespace Go.Proofs.YtipmeooldopkmaaDoor
open Go.RowKit

/-- The bytes of the number of UTF-8 that stands first, one at least. -/
def stepL (l : List UInt8) : Nat := max 1 (runeL l)
/-- A line in pieces, n bytes standing in the one that is begun. -/
def foldF : Nat → List UInt8 → Nat → List UInt8
  | 0, _, _ => []
  | f + 1, l, n => if l = [] then [] else
      if 75 < n + stepL l then 13 :: 10 :: 32 :: (l.take (stepL l) ++ foldF f (l.drop (stepL l)) (1 + stepL l))
      else l.take (stepL l) ++ foldF f (l.drop (stepL l)) (n + stepL l)
def lineF (l : List UInt8) : List UInt8 := foldF l.length l 0 ++ [13, 10]
/-- What Fold writes. -/
def foldL (ls : List (List UInt8)) : List UInt8 := ls.flatMap lineF
def stripL (a : List UInt8) : List UInt8 := if a.getLast? = some 13 then a.dropLast else a
/-- Lines as they stand. -/
def rawG : List UInt8 → List UInt8 → List (List UInt8)
  | [], acc => if acc = [] then [] else [acc]
  | c :: l, acc => if c = 10 then stripL acc :: rawG l [] else rawG l (acc ++ [c])
def goesL (x : List UInt8) : Bool := x.head? == some 32 || x.head? == some 9
/-- Whole lines. -/
def unfG : List (List UInt8) → List (List UInt8) → List (List UInt8) × Int
  | [], out => (out, 0)
  | x :: xs, out =>
    if x = [] ∨ (goesL x = true ∧ out = []) then ([], 10)
    else if goesL x = true then
      (if 1024 < (out.getLastD [] ++ x.drop 1).length then ([], 12) else unfG xs (out.dropLast ++ [out.getLastD [] ++ x.drop 1]))
    else if out.length = 400 then ([], 27)
    else if 1024 < x.length then ([], 12)
    else unfG xs (out ++ [x])
/-- What Unfold tells. -/
def unfL (s : List UInt8) : List (List UInt8) × Int := if 8192 < s.length then ([], 12) else unfG (rawG s []) []
/-- A line that comes back as it was. -/
def lineOk (x : List UInt8) : Prop := x ≠ [] ∧ x.length ≤ 1024 ∧ goesL x = false ∧ ∀ c ∈ x, c ≠ 10 ∧ c ≠ 13

theorem runeL_4 (l : List UInt8) : runeL l ≤ 4 := by
  unfold runeL
  repeat (first | omega | split)
theorem stepL_pos (l : List UInt8) : 1 ≤ stepL l ∧ stepL l ≤ 4 := by
  have := runeL_4 l
  unfold stepL; omega
theorem stepL_le {l : List UInt8} (h : l ≠ []) : stepL l ≤ l.length := by
  have h0 : 0 < l.length := List.length_pos_iff.2 h
  have := runeL_le l h0
  unfold stepL; omega
theorem raw_feed : ∀ (a l acc : List UInt8), (∀ c ∈ a, c ≠ 10) → rawG (a ++ l) acc = rawG l (acc ++ a)
  | [], l, acc, _ => by simp
  | c :: a, l, acc, h => by
    rw [List.cons_append, rawG, if_neg (h c (by simp)), raw_feed a l _ (fun x hx => h x (by simp [hx]))]
    simp
theorem raw_end (acc R : List UInt8) : rawG (13 :: 10 :: R) acc = acc :: rawG R [] := by
  rw [rawG, if_neg (by decide), rawG, if_pos rfl]
  unfold stripL
  rw [if_pos (by simp)]
  simp
theorem goes_app {p l : List UInt8} (hp : p ≠ []) : goesL (p ++ l) = goesL p := by
  cases p with
  | nil => exact absurd rfl hp
  | cons c p => rfl
theorem goes_sp (q : List UInt8) : goesL (32 :: q) = true := rfl
/-- Within a line that goes on. -/
theorem unf_on : ∀ (f : Nat) (l q y : List UInt8) (n : Nat) (done : List (List UInt8)) (R : List UInt8), l.length ≤ f → (∀ c ∈ l, c ≠ 10 ∧ c ≠ 13) → (y ++ q ++ l).length ≤ 1024 →
    unfG (rawG (foldF f l n ++ 13 :: 10 :: R) (32 :: q)) (done ++ [y]) = unfG (rawG R []) (done ++ [y ++ q ++ l])
  | 0, l, q, y, n, done, R, hl, hc, hb => by
    have : l = [] := List.eq_nil_of_length_eq_zero (by omega)
    subst this
    simp only [foldF, List.nil_append, List.append_nil] at hb ⊢
    rw [raw_end, unfG, if_neg (by simp), if_pos (goes_sp _)]
    simp only [List.getLastD_concat, List.drop_one, List.tail_cons, List.dropLast_concat]
    rw [if_neg (by omega)]
  | f + 1, l, q, y, n, done, R, hl, hc, hb => by
    by_cases h0 : l = []
    · subst h0
      rw [foldF, if_pos rfl]
      simp only [List.nil_append, List.append_nil] at hb ⊢
      rw [raw_end, unfG, if_neg (by simp), if_pos (goes_sp _)]
      simp only [List.getLastD_concat, List.drop_one, List.tail_cons, List.dropLast_concat]
      rw [if_neg (by omega)]
    · have hk := stepL_pos l
      have hk2 := stepL_le h0
      have e : l.take (stepL l) ++ l.drop (stepL l) = l := List.take_append_drop _ _
      rw [foldF, if_neg h0]
      generalize stepL l = k at *
      have ht : ∀ c ∈ l.take k, c ≠ 10 := fun c h => (hc c (List.mem_of_mem_take h)).1
      by_cases hbr : 75 < n + k
      · rw [if_pos hbr]
        simp only [List.cons_append, List.append_assoc]
        rw [raw_end, unfG, if_neg (by simp), if_pos (goes_sp _)]
        simp only [List.getLastD_concat, List.drop_one, List.tail_cons, List.dropLast_concat]
        rw [if_neg (by simp at hb ⊢; omega)]
        rw [rawG, if_neg (by decide), raw_feed _ _ _ ht]
        have ih := unf_on f (l.drop k) (l.take k) (y ++ q) (1 + k) done R (by simp; omega) (fun c h => hc c (List.mem_of_mem_drop h)) (by rw [List.append_assoc, e]; exact hb)
        rw [List.append_assoc (y ++ q), e] at ih
        simp only [List.nil_append, List.singleton_append, List.append_assoc] at ih ⊢
        exact ih
      · rw [if_neg hbr]
        rw [List.append_assoc, raw_feed _ _ _ ht]
        have ih := unf_on f (l.drop k) (q ++ l.take k) y (n + k) done R (by simp; omega) (fun c h => hc c (List.mem_of_mem_drop h)) (by rw [List.append_assoc, List.append_assoc, e, ← List.append_assoc]; exact hb)
        rw [List.append_assoc y, List.append_assoc q, e, ← List.append_assoc y] at ih
        simp only [List.cons_append, List.append_assoc] at ih ⊢
        exact ih
/-- Within a line's first piece. -/
theorem unf_new : ∀ (f : Nat) (l p : List UInt8) (n : Nat) (done : List (List UInt8)) (R : List UInt8), l.length ≤ f → (∀ c ∈ l, c ≠ 10 ∧ c ≠ 13) → (p ++ l).length ≤ 1024 → p ++ l ≠ [] → goesL (p ++ l) = false → (p = [] → n = 0) → done.length < 400 →
    unfG (rawG (foldF f l n ++ 13 :: 10 :: R) p) done = unfG (rawG R []) (done ++ [p ++ l])
  | 0, l, p, n, done, R, hl, hc, hb, hne, hg, hp, hd => by
    have : l = [] := List.eq_nil_of_length_eq_zero (by omega)
    subst this
    simp only [foldF, List.nil_append, List.append_nil] at hb hne hg ⊢
    rw [raw_end, unfG, if_neg (by simp [hne, hg]), if_neg (by simp [hg]), if_neg (by omega), if_neg (by omega)]
  | f + 1, l, p, n, done, R, hl, hc, hb, hne, hg, hp, hd => by
    by_cases h0 : l = []
    · subst h0
      rw [foldF, if_pos rfl]
      simp only [List.nil_append, List.append_nil] at hb hne hg ⊢
      rw [raw_end, unfG, if_neg (by simp [hne, hg]), if_neg (by simp [hg]), if_neg (by omega), if_neg (by omega)]
    · have hk := stepL_pos l
      have hk2 := stepL_le h0
      have e : l.take (stepL l) ++ l.drop (stepL l) = l := List.take_append_drop _ _
      rw [foldF, if_neg h0]
      generalize stepL l = k at *
      have ht : ∀ c ∈ l.take k, c ≠ 10 := fun c h => (hc c (List.mem_of_mem_take h)).1
      by_cases hbr : 75 < n + k
      · have hpn : p ≠ [] := fun e => by have := hp e; omega
        have hgp : goesL p = false := by rw [← hg, goes_app hpn]
        rw [if_pos hbr]
        simp only [List.cons_append, List.append_assoc]
        rw [raw_end, unfG, if_neg (by simp [hpn, hgp]), if_neg (by simp [hgp]), if_neg (by omega), if_neg (by simp at hb; omega)]
        rw [rawG, if_neg (by decide), raw_feed _ _ _ ht]
        have ih := unf_on f (l.drop k) (l.take k) p (1 + k) done R (by simp; omega) (fun c h => hc c (List.mem_of_mem_drop h)) (by rw [List.append_assoc, e]; exact hb)
        rw [List.append_assoc p, e] at ih
        simp only [List.nil_append, List.singleton_append] at ih ⊢
        exact ih
      · rw [if_neg hbr]
        rw [List.append_assoc, raw_feed _ _ _ ht]
        have ht0 : l.take k ≠ [] := fun e => by
          have := congrArg List.length e
          rw [List.length_take, List.length_nil] at this
          omega
        have ih := unf_new f (l.drop k) (p ++ l.take k) (n + k) done R (by rw [List.length_drop]; omega) (fun c h => hc c (List.mem_of_mem_drop h)) (by rw [List.append_assoc, e]; exact hb) (by rw [List.append_assoc, e]; exact hne) (by rw [List.append_assoc, e]; exact hg)
          (fun e => by simp at e; exact absurd (by simpa using e.2) ht0) hd
        rw [List.append_assoc, e] at ih
        exact ih
theorem unf_lines : ∀ (ls done : List (List UInt8)), (∀ x ∈ ls, lineOk x) → done.length + ls.length ≤ 400 → unfG (rawG (foldL ls) []) done = (done ++ ls, 0)
  | [], done, _, _ => by simp [foldL, rawG, unfG]
  | x :: ls, done, h, hl => by
    obtain ⟨h1, h2, h3, h4⟩ := h x (by simp)
    have e : foldL (x :: ls) = foldF x.length x 0 ++ 13 :: 10 :: foldL ls := by simp [foldL, lineF]
    rw [e, unf_new x.length x [] 0 done _ (Nat.le_refl _) h4 (by simpa using h2) (by simpa using h1) (by simpa using h3) (fun _ => rfl) (by simp at hl; omega),
      List.nil_append, unf_lines ls (done ++ [x]) (fun y hy => h y (by simp [hy])) (by simp at hl ⊢; omega)]
    simp
/-- Unfold of Fold are the lines. -/
theorem unfold_fold {ls : List (List UInt8)} (h : ∀ x ∈ ls, lineOk x) (hl : ls.length ≤ 400) (hs : (foldL ls).length ≤ 8192) : unfL (foldL ls) = (ls, 0) := by
  unfold unfL
  rw [if_neg (by omega), unf_lines ls [] h (by simpa using hl)]
  simp

/-- No line that stands there is longer than 77 bytes, its end counted. -/
def scanL : List UInt8 → Nat → Bool
  | [], _ => true
  | c :: l, n => if c = 10 then decide (n + 1 ≤ 77) && scanL l 0 else scanL l (n + 1)
theorem scan_feed : ∀ (a l : List UInt8) (m n : Nat), m ≤ n → n + a.length ≤ 76 → (∀ m', m' ≤ n + a.length → scanL l m' = true) → scanL (a ++ l) m = true
  | [], l, m, n, hm, _, h => h m (by simpa using hm)
  | c :: a, l, m, n, hm, hn, h => by
    simp only [List.length_cons] at hn h
    rw [List.cons_append, scanL]
    split
    · rw [decide_eq_true (by omega), Bool.true_and]
      exact scan_feed a l 0 n (by omega) (by omega) (fun m' hm' => h m' (by omega))
    · exact scan_feed a l (m + 1) (n + 1) (by omega) (by omega) (fun m' hm' => h m' (by omega))
theorem scan_fold : ∀ (f : Nat) (l R : List UInt8) (n m : Nat), m ≤ n → n ≤ 75 → scanL R 0 = true → scanL (foldF f l n ++ 13 :: 10 :: R) m = true
  | 0, l, R, n, m, hm, hn, hR => by
    simp only [foldF, List.nil_append]
    rw [scanL, if_neg (by decide), scanL, if_pos rfl, decide_eq_true (by omega), hR]; rfl
  | f + 1, l, R, n, m, hm, hn, hR => by
    rw [foldF]
    split
    · simp only [List.nil_append]
      rw [scanL, if_neg (by decide), scanL, if_pos rfl, decide_eq_true (by omega), hR]; rfl
    · have hk := stepL_pos l
      have ht : (l.take (stepL l)).length ≤ stepL l := by simp; omega
      split
      · simp only [List.cons_append, List.append_assoc]
        rw [scanL, if_neg (by decide), scanL, if_pos rfl, decide_eq_true (by omega), Bool.true_and, scanL, if_neg (by decide)]
        exact scan_feed _ _ 1 1 (Nat.le_refl _) (by omega) (fun m' hm' => scan_fold f _ R (1 + stepL l) m' (by omega) (by omega) hR)
      · rw [List.append_assoc]
        exact scan_feed _ _ m n hm (by omega) (fun m' hm' => scan_fold f _ R (n + stepL l) m' (by omega) (by omega) hR)
/-- No piece that Fold writes is longer than 75 bytes, its end apart. -/
theorem scan_lines : ∀ (ls : List (List UInt8)), scanL (foldL ls) 0 = true
  | [] => rfl
  | x :: ls => by
    have e : foldL (x :: ls) = foldF x.length x 0 ++ 13 :: 10 :: foldL ls := by simp [foldL, lineF]
    rw [e]
    exact scan_fold x.length x _ 0 0 (Nat.le_refl _) (by omega) (scan_lines ls)

end Go.Proofs.YtipmeooldopkmaaDoor

/-
  The program's functions of layer 11: lists of texts, parameters, and properties, that are the same.
-/
namespace Go.Proofs.YtipmeooldopkmaaDoor
open Go.RowKit

set_option maxRecDepth 100000 in
set_option maxHeartbeats 2000000 in
theorem pEqual_any (A A' : Option Addr) (n c m c' : Nat) (a b : List ByteArray) (w : World) (ha : Reads w w.heap.size 1 A n (encS a)) (hb : Reads w w.heap.size 1 A' m (encS b)) (hn : n ≤ 9223372036854775807) (hm : m ≤ 9223372036854775807) :
    Calls Tryd.prog 62 #[.slice A n c, .slice A' m c'] w fun e w' => e = .returned (.bool (decide (a = b))) ∧ ∃ q, w' = w.drewN q := by
  have HA := Lib.hid ha
  have HB := Lib.hid hb
  have HL := Lib.hid (And.intro ha.lenS hb.lenS)
  clear ha hb
  by_cases hnm : n = m
  · subst hnm
    have ht : ((n : Int) != (n : Int)) = false := by simp
    obtain ⟨r, hr⟩ : ∃ r, r = decide (a = b) := ⟨_, rfl⟩
    rw [← hr]
    have HR := Lib.hid hr
    clear hr
    go_enter Tryd.func62, Tryd.ntmps62
    go_wp2
    go_loopg [13] n (fun g s5 wr => ∃ i q : Nat, i ≤ n ∧ n - i ≤ g ∧ s5 = .int .i64 i ∧ w.drewN q = wr ∧ Hid (∀ k, k < i → blk a k = blk b k))
    case atStart => exact ⟨0, 0, Nat.zero_le _, by omega, rfl, rfl, Lib.hid fun k hk => absurd hk (Nat.not_lt_zero _)⟩
    case round =>
      obtain ⟨i, q, hi, hg, rfl, rfl, J⟩ := hrel
      by_cases hlt : i < n
      · have hin : (i : Int) < (n : Int) := by omega
        obtain ⟨b1, o1, rfl, _, g1⟩ := HA.out.str hlt
        obtain ⟨b2, o2, rfl, _, g2⟩ := HB.out.str hlt
        have hx := strNe (blk a i) (blk b i)
        have hx2 := strEqL (blk a i) (blk b i)
        by_cases hxy : blk a i = blk b i
        · have JN : Hid (∀ k, k < i + 1 → blk a k = blk b k) := Lib.hid fun k hk => by
            by_cases e : k = i
            · rw [e]; exact hxy
            · exact J.out k (by omega)
          rw [decide_eq_true (by rw [hxy]), Bool.not_true, ← hxy] at hx
          rw [decide_eq_true (by rw [hxy]), ← hxy] at hx2
          rw [← hxy] at g2
          generalize blk a i = x at g1 g2 hx hx2
          clear hxy
          go_wp2_with fail
          go_quiet (fail)
          go_wp2
          go_roundg (n - (i + 1))
          case measure => omega
          case rel => exact ⟨i + 1, q + nq, by omega, by omega, by go_num, rfl, JN⟩
        · have HE : Hid (r = false) := Lib.hid (HR.out.trans (decide_eq_false (fun e => hxy (by rw [e]))))
          rw [decide_eq_false (fun e => hxy (ByteArray.ext (Array.toList_inj.1 e))), Bool.not_false] at hx
          rw [decide_eq_false (fun e => hxy (ByteArray.ext (Array.toList_inj.1 e)))] at hx2
          generalize blk a i = x at g1 hx hx2
          generalize blk b i = y at g2 hx hx2
          clear hxy
          go_wp2_with fail
          go_quiet (fail)
          go_wp2
          go_ret
          rw [HE.out]
          exact ⟨rfl, q + nq, World.drewN_drewN _ _ _⟩
      · have : i = n := by omega
        subst this
        have HE : Hid (r = true) := Lib.hid (HR.out.trans (decide_eq_true (by
          refine List.ext_getElem? fun k => ?_
          by_cases hk : k < i
          · have := J.out k hk
            unfold blk at this
            rw [List.getD_eq_getElem?_getD, List.getD_eq_getElem?_getD] at this
            rw [List.getElem?_eq_getElem (by rw [HL.out.1]; exact hk), List.getElem?_eq_getElem (by rw [HL.out.2]; exact hk)] at this ⊢
            simpa using this
          · rw [List.getElem?_eq_none (by rw [HL.out.1]; omega), List.getElem?_eq_none (by rw [HL.out.2]; omega)])))
        go_wp2
        go_ret
        rw [HE.out]
        exact ⟨rfl, q, rfl⟩
  · have ht : ((n : Int) != (m : Int)) = true := by simp only [bne_iff_ne, ne_eq]; omega
    have HD : Hid (decide (a = b) = false) := Lib.hid (decide_eq_false (fun e => hnm (by rw [← HL.out.1, ← HL.out.2, e])))
    rw [HD.out]
    clear HA HB HL HD
    go_enter Tryd.func62, Tryd.ntmps62
    go_wp2
    go_ret
    exact ⟨rfl, 0, rfl⟩

set_option maxRecDepth 100000 in
set_option maxHeartbeats 2000000 in
theorem sameParam_any (r q : PR) (w : World) (h1 : POk w w.heap.size r) (h2 : POk w w.heap.size q) :
    Calls Tryd.prog 46 #[.agg #[.string r.name, .slice r.K r.k r.kc], .agg #[.string q.name, .slice q.K q.k q.kc]] w fun e w' => e = .returned (.bool (decide (parOf r = parOf q))) ∧ Below w.heap.size w w' := by
  have hb1 : Below w.heap.size w (w.alloc (.cells #[.string r.name, .slice r.K r.k r.kc] 57)) := (Below.refl _ w).alloc (Nat.le_refl _) _
  have hb2 := (Below.refl _ (w.alloc (.cells #[.string r.name, .slice r.K r.k r.kc] 57))).alloc (Nat.le_refl _) (.cells #[.string q.name, .slice q.K q.k q.kc] 57)
  have HB := Lib.hid (bstep hb1 hb2)
  have HR := Lib.hid (h1.step (bstep hb1 hb2)).rd
  have HQ := Lib.hid (h2.step (bstep hb1 hb2)).rd
  have hk1 : r.k ≤ 9223372036854775807 := by have := h1.le; have := h1.cap; unfold maxLen at this; omega
  have hk2 : q.k ≤ 9223372036854775807 := by have := h2.le; have := h2.cap; unfold maxLen at this; omega
  have f1 := strEqL r.name q.name
  have HE := Lib.hid (parOf_eq r q)
  clear h1 h2 hb1 hb2
  go_enter Tryd.func46, Tryd.ntmps46
  by_cases hn : r.name.data.toList = q.name.data.toList
  · rw [decide_eq_true hn] at f1
    have E := Lib.hid (show decide (parOf r = parOf q) = decide (r.vs = q.vs) from decide_eq_decide.2 ⟨fun h => (HE.out.1 h).2, fun h => HE.out.2 ⟨hn, h⟩⟩)
    rw [E.out]
    have ct := pEqual_any r.K q.K r.k r.kc q.k q.kc r.vs q.vs _ HR.out HQ.out hk1 hk2
    generalize decide (r.vs = q.vs) = z at *
    clear hn
    go_wp2_with fail
    refine ct.mono ?_
    rintro e w2 ⟨rfl, m, rfl⟩
    go_wp2
    go_ret
    exact ⟨rfl, below_dr HB.out m⟩
  · rw [decide_eq_false hn] at f1
    have E := Lib.hid (show decide (parOf r = parOf q) = false from decide_eq_false (fun h => hn (HE.out.1 h).1))
    rw [E.out]
    clear hn
    go_wp2
    go_ret
    exact ⟨rfl, HB.out⟩
set_option maxRecDepth 100000 in
set_option maxHeartbeats 4000000 in
theorem equalFunc_any (L L2 : Option Addr) (n c n2 c2 : Nat) (l l2 : List PR) (w : World) (hR : Reads w w.heap.size 2 L n (encP l)) (hP : ∀ r ∈ l, POk w w.heap.size r) (hn : n ≤ 9223372036854775807)
    (hR2 : Reads w w.heap.size 2 L2 n2 (encP l2)) (hP2 : ∀ r ∈ l2, POk w w.heap.size r) (hn2 : n2 ≤ 9223372036854775807) :
    Calls Tryd.prog 45 #[.slice L n c, .slice L2 n2 c2, .func (.func 46) #[] #[]] w fun e w' => e = .returned (.bool (decide (l.map parOf = l2.map parOf))) ∧ Below w.heap.size w w' := by
  have HR := Lib.hid hR
  have HR2 := Lib.hid hR2
  have HP := Lib.hid hP
  have HP2 := Lib.hid hP2
  have HL : Hid (l.length = n ∧ l2.length = n2) := Lib.hid ⟨by have := hR.1; rw [encP_length] at this; omega, by have := hR2.1; rw [encP_length] at this; omega⟩
  clear hR hP hR2 hP2
  obtain ⟨z, hz⟩ : ∃ z, z = decide (l.map parOf = l2.map parOf) := ⟨_, rfl⟩
  rw [← hz]
  have HZ := Lib.hid hz
  clear hz
  by_cases hnm : n = n2
  · subst hnm
    have ht : ((n : Int) != (n : Int)) = false := by simp
    go_enter Tryd.func45, Tryd.ntmps45
    go_wp2
    clear ht
    go_loopg [17] n (fun g s5 wr => ∃ i : Nat, i ≤ n ∧ n - i ≤ g ∧ s5 = .int .i64 i ∧ Hid (Below w.heap.size w wr) ∧ Hid (∀ (k : Nat) (r q : PR), k < i → l[k]? = some r → l2[k]? = some q → parOf r = parOf q))
    case atStart => exact ⟨0, Nat.zero_le _, by omega, rfl, Lib.hid (Below.refl _ _), Lib.hid fun k r q hk => absurd hk (Nat.not_lt_zero _)⟩
    case round =>
      obtain ⟨i, hi, hg, rfl, HB, J⟩ := hrel
      by_cases hlt : i < n
      · obtain ⟨r, hr⟩ : ∃ r, l[i]? = some r := ⟨l[i]'(by have := HL.out.1; omega), List.getElem?_eq_getElem (by have := HL.out.1; omega)⟩
        obtain ⟨q, hq⟩ : ∃ q, l2[i]? = some q := ⟨l2[i]'(by have := HL.out.2; omega), List.getElem?_eq_getElem (by have := HL.out.2; omega)⟩
        obtain ⟨b, o, rfl, _, p0, p1⟩ := (HR.out.step HB.out).par hr
        obtain ⟨b2, o2, rfl, _, q0, q1⟩ := (HR2.out.step HB.out).par hq
        have hb1 : Below wr.heap.size wr (wr.alloc (.cells #[.string r.name, .slice r.K r.k r.kc] 57)) := (Below.refl _ wr).alloc (Nat.le_refl _) _
        have hb2 := (Below.refl _ (wr.alloc (.cells #[.string r.name, .slice r.K r.k r.kc] 57))).alloc (Nat.le_refl _) (.cells #[.string q.name, .slice q.K q.k q.kc] 57)
        have HBB := Lib.hid (bstep HB.out (bstep hb1 hb2))
        have ct := sameParam_any r q _ ((HP.out r (List.mem_of_getElem? hr)).step HBB.out) ((HP2.out q (List.mem_of_getElem? hq)).step HBB.out)
        have q0' := Lib.cell?_alloc_some (.cells #[.string r.name, .slice r.K r.k r.kc] 57) q0
        have q1' := Lib.cell?_alloc_some (.cells #[.string r.name, .slice r.K r.k r.kc] 57) q1
        by_cases hpq : parOf r = parOf q
        · have J2 : Hid (∀ (k : Nat) (r q : PR), k < i + 1 → l[k]? = some r → l2[k]? = some q → parOf r = parOf q) := Lib.hid fun k r' q' hk h1 h2 => by
            by_cases e : k = i
            · subst e
              have a1 := Option.some.inj (hr.symm.trans h1)
              have a2 := Option.some.inj (hq.symm.trans h2)
              subst a1 a2
              exact hpq
            · exact J.out k r' q' (by omega) h1 h2
          rw [decide_eq_true hpq] at ct
          clear hr hq hpq J hb1 hb2 HB
          go_wp2_with fail
          refine ct.mono ?_
          rintro e w3 ⟨rfl, hb3⟩
          have HB3 := Lib.hid (bstep HBB.out hb3)
          clear ct hb3 HBB p0 p1 q0 q1 q0' q1'
          go_wp2
          go_roundg (n - (i + 1))
          case measure => omega
          case rel => exact ⟨i + 1, by omega, by omega, by go_num, HB3, J2⟩
        · have E : Hid (z = false) := Lib.hid (HZ.out.trans (decide_eq_false (fun e => hpq (by
            have := congrArg (·[i]?) e
            simp only [List.getElem?_map, hr, hq, Option.map_some, Option.some.injEq] at this
            exact this))))
          rw [decide_eq_false hpq] at ct
          clear hr hq hpq J hb1 hb2 HB
          go_wp2_with fail
          refine ct.mono ?_
          rintro e w3 ⟨rfl, hb3⟩
          have HB3 := Lib.hid (bstep HBB.out hb3)
          clear ct hb3 HBB p0 p1 q0 q1 q0' q1'
          go_wp2
          go_ret
          rw [E.out]
          exact ⟨rfl, HB3.out⟩
      · obtain rfl : i = n := by omega
        have E : Hid (z = true) := Lib.hid (HZ.out.trans (decide_eq_true (by
          refine List.ext_getElem? fun k => ?_
          rw [List.getElem?_map, List.getElem?_map]
          by_cases hk : k < l.length
          · rw [List.getElem?_eq_getElem hk, List.getElem?_eq_getElem (by rw [HL.out.2, ← HL.out.1]; exact hk), Option.map_some, Option.map_some, J.out k _ _ (by rw [← HL.out.1]; exact hk) (List.getElem?_eq_getElem hk) (List.getElem?_eq_getElem (by rw [HL.out.2, ← HL.out.1]; exact hk))]
          · rw [List.getElem?_eq_none (by omega), List.getElem?_eq_none (by rw [HL.out.2, ← HL.out.1]; omega)])))
        go_wp2
        go_ret
        rw [E.out]
        exact ⟨rfl, HB.out⟩
  · have ht : ((n : Int) != (n2 : Int)) = true := by simp only [bne_iff_ne, ne_eq]; omega
    have E : Hid (z = false) := Lib.hid (HZ.out.trans (decide_eq_false (fun e => hnm (by
      have := congrArg List.length e
      simp only [List.length_map] at this
      rw [← HL.out.1, ← HL.out.2, this]))))
    go_enter Tryd.func45, Tryd.ntmps45
    go_wp2
    go_ret
    rw [E.out]
    exact ⟨rfl, Below.refl _ _⟩
set_option maxRecDepth 100000 in
set_option maxHeartbeats 4000000 in
theorem pSame_x (nm vl nm2 vl2 : ByteArray) (L L2 : Option Addr) (n c n2 c2 : Nat) (l l2 : List PR) (w : World) (hR : Reads w w.heap.size 2 L n (encP l)) (hP : ∀ r ∈ l, POk w w.heap.size r) (hn : n ≤ c) (hc : c ≤ maxLen)
    (hR2 : Reads w w.heap.size 2 L2 n2 (encP l2)) (hP2 : ∀ r ∈ l2, POk w w.heap.size r) (hn2 : n2 ≤ c2) (hc2 : c2 ≤ maxLen) :
    Calls Tryd.prog 16 #[.agg #[.string nm, .slice L n c, .string vl], .agg #[.string nm2, .slice L2 n2 c2, .string vl2]] w fun e w' => e = .returned (.bool (decide (proOf nm l vl = proOf nm2 l2 vl2))) ∧ Below w.heap.size w w' := by
  have hb1 : Below w.heap.size w (w.alloc (.cells #[.string nm, .slice L n c, .string vl] 24)) := (Below.refl _ w).alloc (Nat.le_refl _) _
  have hb2 := (Below.refl _ (w.alloc (.cells #[.string nm, .slice L n c, .string vl] 24))).alloc (Nat.le_refl _) (.cells #[.string nm2, .slice L2 n2 c2, .string vl2] 24)
  have hb := bstep hb1 hb2
  have hnm : n ≤ 9223372036854775807 := by have := hc; unfold maxLen at this; omega
  have hnm2 : n2 ≤ 9223372036854775807 := by have := hc2; unfold maxLen at this; omega
  have ct := equalFunc_any L L2 n c n2 c2 l l2 _ (hR.step hb) (fun r hr => (hP r hr).step hb) hnm (hR2.step hb) (fun r hr => (hP2 r hr).step hb) hnm2
  have HB := Lib.hid hb
  have f1 := strEqL nm nm2
  have f2 := strEqL vl vl2
  have E : decide (proOf nm l vl = proOf nm2 l2 vl2) = ((decide (nm.data.toList = nm2.data.toList) && decide (vl.data.toList = vl2.data.toList)) && decide (l.map parOf = l2.map parOf)) := by
    unfold proOf
    rw [Bool.eq_iff_iff]
    simp only [Pro.mk.injEq, Bool.and_eq_true, decide_eq_true_eq]
    exact ⟨fun h => ⟨⟨h.1, h.2.2⟩, h.2.1⟩, fun h => ⟨h.1.1, h.2, h.1.2⟩⟩
  rw [E]
  generalize decide (nm.data.toList = nm2.data.toList) = x1 at *
  generalize decide (vl.data.toList = vl2.data.toList) = x2 at *
  generalize decide (l.map parOf = l2.map parOf) = x3 at *
  clear hR hP hn hc hR2 hP2 hn2 hc2 hb1 hb2 hb E
  cases x1
  · go_enter Tryd.func16, Tryd.ntmps16
    go_wp2
    go_ret
    exact ⟨rfl, HB.out⟩
  cases x2
  · go_enter Tryd.func16, Tryd.ntmps16
    go_wp2
    go_ret
    exact ⟨rfl, HB.out⟩
  · go_enter Tryd.func16, Tryd.ntmps16
    go_wp2_with fail
    refine ct.mono ?_
    rintro e w3 ⟨rfl, hb3⟩
    have HB3 := Lib.hid (bstep HB.out hb3)
    clear ct hb3 HB
    cases x3
    all_goals
      (go_wp2
       go_ret
       exact ⟨rfl, HB3.out⟩)
end Go.Proofs.YtipmeooldopkmaaDoor
