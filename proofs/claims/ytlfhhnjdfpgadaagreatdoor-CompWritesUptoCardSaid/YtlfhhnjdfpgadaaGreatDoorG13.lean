/-
  Plain mathematics for layer 11 (line): lines folded, and unfolded.
-/
import Derived.Test.YtlfhhnjdfpgadaaGreatDoorG04
import Derived.Test.YtlfhhnjdfpgadaaGreatDoorG07
import Derived.Test.YtlfhhnjdfpgadaaGreatDoorG05
import Derived.Deep.DeepCutAuto
import Derived.Deep.CutBlock
import Derived.Test.YtlfhhnjdfpgadaaGreatDoorG12
import Derived.Lib.IndexMore
import Derived.Lib.Strings
import Derived.Test.YtlfhhnjdfpgadaaGreatDoorG06
namespace Go.Proofs.YtlfhhnjdfpgadaaGreatDoor
open Go.RowKit

/-- The bytes of the number of UTF-8 that stands first, one at least. -/
def stepL (l : List UInt8) : Nat := max 1 (runeL l)
/-- A line in pieces, n bytes standing in the one that is begun. -/
def foldF : Nat → List UInt8 → Nat → List UInt8
  | 0, _, _ => []
  | f + 1, l, n => if l = [] then [] else
      if 75 < n + stepL l then 13 :: 10 :: 32 :: (l.take (stepL l) ++ foldF f (l.drop (stepL l)) (1 + stepL l))
      else l.take (stepL l) ++ foldF f (l.drop (stepL l)) (n + stepL l)
def lineF (l : List UInt8) : List UInt8 := foldF l.length l 0 ++ [13, 10]
/-- What Fold writes. -/
def foldL (ls : List (List UInt8)) : List UInt8 := ls.flatMap lineF
def stripL (a : List UInt8) : List UInt8 := if a.getLast? = some 13 then a.dropLast else a
/-- Lines as they stand. -/
def rawG : List UInt8 → List UInt8 → List (List UInt8)
  | [], acc => if acc = [] then [] else [acc]
  | c :: l, acc => if c = 10 then stripL acc :: rawG l [] else rawG l (acc ++ [c])
def goesL (x : List UInt8) : Bool := x.head? == some 32 || x.head? == some 9
/-- Whole lines. -/
def unfG : List (List UInt8) → List (List UInt8) → List (List UInt8) × Int
  | [], out => (out, 0)
  | x :: xs, out =>
    if x = [] ∨ (goesL x = true ∧ out = []) then ([], 10)
    else if goesL x = true then
      (if 1024 < (out.getLastD [] ++ x.drop 1).length then ([], 12) else unfG xs (out.dropLast ++ [out.getLastD [] ++ x.drop 1]))
    else if out.length = 400 then ([], 27)
    else if 1024 < x.length then ([], 12)
    else unfG xs (out ++ [x])
/-- What Unfold tells. -/
def unfL (s : List UInt8) : List (List UInt8) × Int := if 8192 < s.length then ([], 12) else unfG (rawG s []) []
/-- A line that comes back as it was. -/
def lineOk (x : List UInt8) : Prop := x ≠ [] ∧ x.length ≤ 1024 ∧ goesL x = false ∧ ∀ c ∈ x, c ≠ 10 ∧ c ≠ 13

theorem runeL_4 (l : List UInt8) : runeL l ≤ 4 := by
  unfold runeL
  repeat (first | omega | split)
theorem stepL_pos (l : List UInt8) : 1 ≤ stepL l ∧ stepL l ≤ 4 := by
  have := runeL_4 l
  unfold stepL; omega
theorem stepL_le {l : List UInt8} (h : l ≠ []) : stepL l ≤ l.length := by
  have h0 : 0 < l.length := List.length_pos_iff.2 h
  have := runeL_le l h0
  unfold stepL; omega
theorem raw_feed : ∀ (a l acc : List UInt8), (∀ c ∈ a, c ≠ 10) → rawG (a ++ l) acc = rawG l (acc ++ a)
  | [], l, acc, _ => by simp
  | c :: a, l, acc, h => by
    rw [List.cons_append, rawG, if_neg (h c (by simp)), raw_feed a l _ (fun x hx => h x (by simp [hx]))]
    simp
theorem raw_end (acc R : List UInt8) : rawG (13 :: 10 :: R) acc = acc :: rawG R [] := by
  rw [rawG, if_neg (by decide), rawG, if_pos rfl]
  unfold stripL
  rw [if_pos (by simp)]
  simp
theorem goes_app {p l : List UInt8} (hp : p ≠ []) : goesL (p ++ l) = goesL p := by
  cases p with
  | nil => exact absurd rfl hp
  | cons c p => rfl
theorem goes_sp (q : List UInt8) : goesL (32 :: q) = true := rfl
/-- Within a line that goes on. -/
theorem unf_on : ∀ (f : Nat) (l q y : List UInt8) (n : Nat) (done : List (List UInt8)) (R : List UInt8), l.length ≤ f → (∀ c ∈ l, c ≠ 10 ∧ c ≠ 13) → (y ++ q ++ l).length ≤ 1024 →
    unfG (rawG (foldF f l n ++ 13 :: 10 :: R) (32 :: q)) (done ++ [y]) = unfG (rawG R []) (done ++ [y ++ q ++ l])
  | 0, l, q, y, n, done, R, hl, hc, hb => by
    have : l = [] := List.eq_nil_of_length_eq_zero (by omega)
    subst this
    simp only [foldF, List.nil_append, List.append_nil] at hb ⊢
    rw [raw_end, unfG, if_neg (by simp), if_pos (goes_sp _)]
    simp only [List.getLastD_concat, List.drop_one, List.tail_cons, List.dropLast_concat]
    rw [if_neg (by omega)]
  | f + 1, l, q, y, n, done, R, hl, hc, hb => by
    by_cases h0 : l = []
    · subst h0
      rw [foldF, if_pos rfl]
      simp only [List.nil_append, List.append_nil] at hb ⊢
      rw [raw_end, unfG, if_neg (by simp), if_pos (goes_sp _)]
      simp only [List.getLastD_concat, List.drop_one, List.tail_cons, List.dropLast_concat]
      rw [if_neg (by omega)]
    · have hk := stepL_pos l
      have hk2 := stepL_le h0
      have e : l.take (stepL l) ++ l.drop (stepL l) = l := List.take_append_drop _ _
      rw [foldF, if_neg h0]
      generalize stepL l = k at *
      have ht : ∀ c ∈ l.take k, c ≠ 10 := fun c h => (hc c (List.mem_of_mem_take h)).1
      by_cases hbr : 75 < n + k
      · rw [if_pos hbr]
        simp only [List.cons_append, List.append_assoc]
        rw [raw_end, unfG, if_neg (by simp), if_pos (goes_sp _)]
        simp only [List.getLastD_concat, List.drop_one, List.tail_cons, List.dropLast_concat]
        rw [if_neg (by simp at hb ⊢; omega)]
        rw [rawG, if_neg (by decide), raw_feed _ _ _ ht]
        have ih := unf_on f (l.drop k) (l.take k) (y ++ q) (1 + k) done R (by simp; omega) (fun c h => hc c (List.mem_of_mem_drop h)) (by rw [List.append_assoc, e]; exact hb)
        rw [List.append_assoc (y ++ q), e] at ih
        simp only [List.nil_append, List.singleton_append, List.append_assoc] at ih ⊢
        exact ih
      · rw [if_neg hbr]
        rw [List.append_assoc, raw_feed _ _ _ ht]
        have ih := unf_on f (l.drop k) (q ++ l.take k) y (n + k) done R (by simp; omega) (fun c h => hc c (List.mem_of_mem_drop h)) (by rw [List.append_assoc, List.append_assoc, e, ← List.append_assoc]; exact hb)
        rw [List.append_assoc y, List.append_assoc q, e, ← List.append_assoc y] at ih
        simp only [List.cons_append, List.append_assoc] at ih ⊢
        exact ih
/-- Within a line's first piece. -/
theorem unf_new : ∀ (f : Nat) (l p : List UInt8) (n : Nat) (done : List (List UInt8)) (R : List UInt8), l.length ≤ f → (∀ c ∈ l, c ≠ 10 ∧ c ≠ 13) → (p ++ l).length ≤ 1024 → p ++ l ≠ [] → goesL (p ++ l) = false → (p = [] → n = 0) → done.length < 400 →
    unfG (rawG (foldF f l n ++ 13 :: 10 :: R) p) done = unfG (rawG R []) (done ++ [p ++ l])
  | 0, l, p, n, done, R, hl, hc, hb, hne, hg, hp, hd => by
    have : l = [] := List.eq_nil_of_length_eq_zero (by omega)
    subst this
    simp only [foldF, List.nil_append, List.append_nil] at hb hne hg ⊢
    rw [raw_end, unfG, if_neg (by simp [hne, hg]), if_neg (by simp [hg]), if_neg (by omega), if_neg (by omega)]
  | f + 1, l, p, n, done, R, hl, hc, hb, hne, hg, hp, hd => by
    by_cases h0 : l = []
    · subst h0
      rw [foldF, if_pos rfl]
      simp only [List.nil_append, List.append_nil] at hb hne hg ⊢
      rw [raw_end, unfG, if_neg (by simp [hne, hg]), if_neg (by simp [hg]), if_neg (by omega), if_neg (by omega)]
    · have hk := stepL_pos l
      have hk2 := stepL_le h0
      have e : l.take (stepL l) ++ l.drop (stepL l) = l := List.take_append_drop _ _
      rw [foldF, if_neg h0]
      generalize stepL l = k at *
      have ht : ∀ c ∈ l.take k, c ≠ 10 := fun c h => (hc c (List.mem_of_mem_take h)).1
      by_cases hbr : 75 < n + k
      · have hpn : p ≠ [] := fun e => by have := hp e; omega
        have hgp : goesL p = false := by rw [← hg, goes_app hpn]
        rw [if_pos hbr]
        simp only [List.cons_append, List.append_assoc]
        rw [raw_end, unfG, if_neg (by simp [hpn, hgp]), if_neg (by simp [hgp]), if_neg (by omega), if_neg (by simp at hb; omega)]
        rw [rawG, if_neg (by decide), raw_feed _ _ _ ht]
        have ih := unf_on f (l.drop k) (l.take k) p (1 + k) done R (by simp; omega) (fun c h => hc c (List.mem_of_mem_drop h)) (by rw [List.append_assoc, e]; exact hb)
        rw [List.append_assoc p, e] at ih
        simp only [List.nil_append, List.singleton_append] at ih ⊢
        exact ih
      · rw [if_neg hbr]
        rw [List.append_assoc, raw_feed _ _ _ ht]
        have ht0 : l.take k ≠ [] := fun e => by
          have := congrArg List.length e
          rw [List.length_take, List.length_nil] at this
          omega
        have ih := unf_new f (l.drop k) (p ++ l.take k) (n + k) done R (by rw [List.length_drop]; omega) (fun c h => hc c (List.mem_of_mem_drop h)) (by rw [List.append_assoc, e]; exact hb) (by rw [List.append_assoc, e]; exact hne) (by rw [List.append_assoc, e]; exact hg)
          (fun e => by simp at e; exact absurd (by simpa using e.2) ht0) hd
        rw [List.append_assoc, e] at ih
        exact ih
theorem unf_lines : ∀ (ls done : List (List UInt8)), (∀ x ∈ ls, lineOk x) → done.length + ls.length ≤ 400 → unfG (rawG (foldL ls) []) done = (done ++ ls, 0)
  | [], done, _, _ => by simp [foldL, rawG, unfG]
  | x :: ls, done, h, hl => by
    obtain ⟨h1, h2, h3, h4⟩ := h x (by simp)
    have e : foldL (x :: ls) = foldF x.length x 0 ++ 13 :: 10 :: foldL ls := by simp [foldL, lineF]
    rw [e, unf_new x.length x [] 0 done _ (Nat.le_refl _) h4 (by simpa using h2) (by simpa using h1) (by simpa using h3) (fun _ => rfl) (by simp at hl; omega),
      List.nil_append, unf_lines ls (done ++ [x]) (fun y hy => h y (by simp [hy])) (by simp at hl ⊢; omega)]
    simp
/-- Unfold of Fold are the lines. -/
theorem unfold_fold {ls : List (List UInt8)} (h : ∀ x ∈ ls, lineOk x) (hl : ls.length ≤ 400) (hs : (foldL ls).length ≤ 8192) : unfL (foldL ls) = (ls, 0) := by
  unfold unfL
  rw [if_neg (by omega), unf_lines ls [] h (by simpa using hl)]
  simp

/-- No line that stands there is longer than 77 bytes, its end counted. -/
def scanL : List UInt8 → Nat → Bool
  | [], _ => true
  | c :: l, n => if c = 10 then decide (n + 1 ≤ 77) && scanL l 0 else scanL l (n + 1)
theorem scan_feed : ∀ (a l : List UInt8) (m n : Nat), m ≤ n → n + a.length ≤ 76 → (∀ m', m' ≤ n + a.length → scanL l m' = true) → scanL (a ++ l) m = true
  | [], l, m, n, hm, _, h => h m (by simpa using hm)
  | c :: a, l, m, n, hm, hn, h => by
    simp only [List.length_cons] at hn h
    rw [List.cons_append, scanL]
    split
    · rw [decide_eq_true (by omega), Bool.true_and]
      exact scan_feed a l 0 n (by omega) (by omega) (fun m' hm' => h m' (by omega))
    · exact scan_feed a l (m + 1) (n + 1) (by omega) (by omega) (fun m' hm' => h m' (by omega))
theorem scan_fold : ∀ (f : Nat) (l R : List UInt8) (n m : Nat), m ≤ n → n ≤ 75 → scanL R 0 = true → scanL (foldF f l n ++ 13 :: 10 :: R) m = true
  | 0, l, R, n, m, hm, hn, hR => by
    simp only [foldF, List.nil_append]
    rw [scanL, if_neg (by decide), scanL, if_pos rfl, decide_eq_true (by omega), hR]; rfl
  | f + 1, l, R, n, m, hm, hn, hR => by
    rw [foldF]
    split
    · simp only [List.nil_append]
      rw [scanL, if_neg (by decide), scanL, if_pos rfl, decide_eq_true (by omega), hR]; rfl
    · have hk := stepL_pos l
      have ht : (l.take (stepL l)).length ≤ stepL l := by simp; omega
      split
      · simp only [List.cons_append, List.append_assoc]
        rw [scanL, if_neg (by decide), scanL, if_pos rfl, decide_eq_true (by omega), Bool.true_and, scanL, if_neg (by decide)]
        exact scan_feed _ _ 1 1 (Nat.le_refl _) (by omega) (fun m' hm' => scan_fold f _ R (1 + stepL l) m' (by omega) (by omega) hR)
      · rw [List.append_assoc]
        exact scan_feed _ _ m n hm (by omega) (fun m' hm' => scan_fold f _ R (n + stepL l) m' (by omega) (by omega) hR)
/-- No piece that Fold writes is longer than 75 bytes, its end apart. -/
theorem scan_lines : ∀ (ls : List (List UInt8)), scanL (foldL ls) 0 = true
  | [] => rfl
  | x :: ls => by
    have e : foldL (x :: ls) = foldF x.length x 0 ++ 13 :: 10 :: foldL ls := by simp [foldL, lineF]
    rw [e]
    exact scan_fold x.length x _ 0 0 (Nat.le_refl _) (by omega) (scan_lines ls)

end Go.Proofs.YtlfhhnjdfpgadaaGreatDoor

/-
  The document's own answers of layer 11 that layer 12 calls: lines folded.
-/
namespace Go.Proofs.YtlfhhnjdfpgadaaGreatDoor
open Go.RowKit

theorem foldF_fuelC : ∀ (f f' : Nat) (l : List UInt8) (n : Nat), l.length ≤ f → l.length ≤ f' → foldF f l n = foldF f' l n
  | 0, 0, l, n, _, _ => rfl
  | 0, f' + 1, l, n, h, _ => by
    have : l = [] := List.length_eq_zero_iff.1 (by omega)
    subst this
    simp [foldF]
  | f + 1, 0, l, n, _, h => by
    have : l = [] := List.length_eq_zero_iff.1 (by omega)
    subst this
    simp [foldF]
  | f + 1, f' + 1, l, n, h, h' => by
    rw [foldF, foldF]
    split
    · rfl
    · have h1 := stepL_pos l
      have hd : (l.drop (stepL l)).length ≤ f ∧ (l.drop (stepL l)).length ≤ f' := by rw [List.length_drop]; omega
      rw [foldF_fuelC f f' _ _ hd.1 hd.2, foldF_fuelC f f' _ _ hd.1 hd.2]
def foldR (l : List UInt8) (n : Nat) : List UInt8 := foldF l.length l n
theorem ext_list (s : ByteArray) (a k : Nat) : s.extract a (a + k) = ⟨((s.data.toList.drop a).take k).toArray⟩ := by
  apply ByteArray.ext
  rw [← Array.toList_inj]
  show (s.extract a (a + k)).data.toList = _
  rw [ByteArray.data_extract, Array.toList_extract, List.extract_eq_take_drop]
  congr 1
  omega
theorem foldR_nil (n : Nat) : foldR [] n = [] := rfl
theorem foldR_step {l : List UInt8} (h : l ≠ []) (n : Nat) : foldR l n = if 75 < n + stepL l then 13 :: 10 :: 32 :: (l.take (stepL l) ++ foldR (l.drop (stepL l)) (1 + stepL l)) else l.take (stepL l) ++ foldR (l.drop (stepL l)) (n + stepL l) := by
  have h0 : 0 < l.length := List.length_pos_iff.2 h
  have h1 := stepL_pos l
  unfold foldR
  obtain ⟨k, hk⟩ : ∃ k, l.length = k + 1 := ⟨l.length - 1, by omega⟩
  rw [hk, foldF, if_neg h]
  have hd : (l.drop (stepL l)).length ≤ k := by rw [List.length_drop]; omega
  rw [foldF_fuelC k _ _ (1 + stepL l) hd (Nat.le_refl _), foldF_fuelC k _ _ (n + stepL l) hd (Nat.le_refl _)]
theorem foldL_snocC (ls : List (List UInt8)) (x : List UInt8) : foldL (ls ++ [x]) = foldL ls ++ (foldR x 0 ++ [13, 10]) := by
  unfold foldL
  rw [List.flatMap_append]
  simp [lineF, foldR]
theorem foldR_len (l : List UInt8) (n : Nat) : (foldR l n).length ≤ 4 * l.length := by
  have : ∀ (f : Nat) (l : List UInt8) (n : Nat), (foldF f l n).length ≤ 4 * l.length := by
    intro f
    induction f with
    | zero => intro l n; simp [foldF]
    | succ f ih =>
      intro l n
      rw [foldF]
      split
      · simp
      · rename_i h
        have h1 := stepL_pos l
        have h2 := stepL_le h
        have h3 := ih (l.drop (stepL l)) (1 + stepL l)
        have h4 := ih (l.drop (stepL l)) (n + stepL l)
        simp only [List.length_drop] at h3 h4
        split <;> simp only [List.length_cons, List.length_append, List.length_take] <;> omega
  exact this _ l n
theorem foldL_lenC : ∀ bs : List ByteArray, (foldL (bs.map fun b => b.data.toList)).length ≤ 4 * vsize bs
  | [] => by simp [foldL]
  | b :: bs => by
    have ih := foldL_lenC bs
    have h := foldR_len b.data.toList 0
    have hs := bsize b
    have e : foldL ((b :: bs).map fun b => b.data.toList) = lineF b.data.toList ++ foldL (bs.map fun b => b.data.toList) := by simp [foldL]
    have e2 : vsize (b :: bs) = b.size + 1 + vsize bs := by simp [vsize]
    rw [e, e2, List.length_append]
    have e3 : (lineF b.data.toList).length = (foldR b.data.toList 0).length + 2 := by simp [lineF, foldR]
    omega
theorem vsize_takeC : ∀ (bs : List ByteArray) (i : Nat), vsize (bs.take i) ≤ vsize bs
  | [], i => by simp
  | b :: bs, 0 => by simp [vsize]
  | b :: bs, i + 1 => by
    have := vsize_takeC bs i
    simp only [vsize, List.take_succ_cons, List.map_cons, List.sum_cons] at *
    omega
theorem blk_le12 : ∀ (bs : List ByteArray) (k : Nat), (blk bs k).size ≤ vsize bs
  | [], k => Nat.zero_le _
  | b :: bs, 0 => by simp [blk, vsize]; omega
  | b :: bs, k + 1 => by
    have h := blk_le12 bs k
    have e : blk (b :: bs) (k + 1) = blk bs k := by simp [blk]
    have e2 : vsize (b :: bs) = b.size + 1 + vsize bs := by simp [vsize]
    rw [e, e2]; omega

set_option maxRecDepth 100000 in
set_option maxHeartbeats 4000000 in
theorem refFold11_any (A : Option Addr) (m c' : Nat) (bs : List ByteArray) (w : World) (hR : Reads w w.heap.size 1 A m (encS bs)) (hm : m ≤ 9223372036854775807) (hsz : vsize bs ≤ 16777216) :
    Calls Tryz.prog 25 #[.slice A m c'] w fun e w' => e = .returned (.string ⟨(foldL (bs.map fun b => b.data.toList)).toArray⟩) ∧ w' = w := by
  have HR := Lib.hid hR
  have HL := Lib.hid hR.lenS
  have HSZ := Lib.hid hsz
  clear hR hsz
  have b1 : (⟨#[13, 10, 32]⟩ : ByteArray) = ⟨([13, 10, 32] : List UInt8).toArray⟩ := rfl
  have b2 : (⟨#[13, 10]⟩ : ByteArray) = ⟨([13, 10] : List UInt8).toArray⟩ := rfl
  have s1 : (⟨#[13, 10, 32]⟩ : ByteArray).size = 3 := rfl
  have s2 : (⟨#[13, 10]⟩ : ByteArray).size = 2 := rfl
  have B1 := Lib.hid (And.intro b1 b2)
  clear b1 b2
  go_enter Tryz.func25, Tryz.ntmps25
  go_wp2
  go_loopw [3, 4, 5, 6, 7] (fun s3 s4 s5 s6 s7 wr => ∃ i : Nat, s4 = .int .i64 i ∧ i ≤ m ∧ wr = w ∧ s3 = .string ⟨(foldL ((bs.take i).map fun b => b.data.toList)).toArray⟩) (fun _ s4 _ _ _ _ => m - (intOf s4).toNat)
  case atStart => exact ⟨0, rfl, Nat.zero_le _, rfl, rfl⟩
  case round =>
    obtain ⟨i, rfl, hi, rfl, rfl⟩ := hrel
    by_cases hlt : i < m
    · obtain ⟨b, o, rfl, hb0, hx⟩ := HR.out.str hlt
      have hxs : (blk bs i).size ≤ 16777216 := Nat.le_trans (blk_le12 bs i) HSZ.out
      obtain ⟨x, hbx⟩ : ∃ x, blk bs i = x := ⟨_, rfl⟩
      have HTK := Lib.hid (show (bs.take (i + 1)).map (fun b => b.data.toList) = (bs.take i).map (fun b => b.data.toList) ++ [x.data.toList] by
        have hil : i < bs.length := by have := HL.out; omega
        rw [List.take_succ_eq_append_getElem hil, List.map_append, ← hbx]
        simp [blk, hil])
      have HXV := Lib.hid (show (foldL ((bs.take i).map fun b => b.data.toList)).length + 4 * x.size + 2 ≤ 268435456 by
        have h1 := foldL_lenC (bs.take i)
        have h2 := vsize_takeC bs i
        have h3 := HSZ.out
        rw [hbx] at hxs
        omega)
      rw [hbx] at hx hxs
      clear hbx hb0
      obtain ⟨F, hF⟩ : ∃ F, foldL ((bs.take i).map fun b => b.data.toList) = F := ⟨_, rfl⟩
      rw [hF] at HXV ⊢
      have HF := Lib.hid hF
      clear hF
      go_wp2
      go_loopw [3, 5, 6, 7] (fun s3 s5 s6 s7 wr2 => ∃ (a n : Nat) (P : List UInt8), s3 = .string ⟨(F ++ P).toArray⟩ ∧ s5 = .int .i64 n ∧ s6 = .int .i64 a ∧ a ≤ x.size ∧ n ≤ 75 ∧ wr2 = wr ∧ Hid (foldR x.data.toList 0 = P ++ foldR (x.data.toList.drop a) n)) (fun _ _ s6 _ _ => x.size - (intOf s6).toNat)
      case atStart => exact ⟨0, 0, [], by simp, rfl, rfl, Nat.zero_le _, by omega, rfl, Lib.hid rfl⟩
      case round =>
        obtain ⟨a, n, P, rfl, rfl, rfl, ha, hn, rfl, HP⟩ := hrel
        have hPl : P.length ≤ 4 * x.size := by
          have h1 := foldR_len x.data.toList 0
          rw [HP.out, List.length_append, ← bsize] at h1
          omega
        have hS : (⟨(F ++ P).toArray⟩ : ByteArray).size = F.length + P.length := by rw [mk_sizeL, List.length_append]
        by_cases hla : a < x.size
        · have cr := fun W => refRune_any x hxs a hla W
          have hne : x.data.toList.drop a ≠ [] := fun e => by
            have := congrArg List.length e
            rw [List.length_drop, ← bsize] at this
            simp only [List.length_nil] at this
            omega
          have hk := stepL_pos (x.data.toList.drop a)
          have hk2 := stepL_le hne
          rw [List.length_drop, ← bsize] at hk2
          have hst := foldR_step hne n
          have hme : (1 < runeL (x.data.toList.drop a) ∧ stepL (x.data.toList.drop a) = runeL (x.data.toList.drop a)) ∨ (¬ 1 < runeL (x.data.toList.drop a) ∧ stepL (x.data.toList.drop a) = 1) := by unfold stepL; omega
          have hext := ext_list x a (stepL (x.data.toList.drop a))
          have HPS := Lib.hid HP.out
          generalize hD : x.data.toList.drop a = D at *
          have HD := Lib.hid hD
          generalize hKK : stepL D = K at *
          have HEX := Lib.hid hext
          have HST := Lib.hid hst
          have HKK := Lib.hid hKK
          have HHK := Lib.hid (And.intro hk hk2)
          clear hD hKK hext hst hne HP hk hk2
          go_upto_region 8 with fail
          go_cut [7] (fun s7 wc => wc = wr ∧ s7 = .int .i64 (K : Nat))
          case first =>
            rcases hme with ⟨h1, h2⟩ | ⟨h1, h2⟩
            · have h3 : (1 : Int) < (runeL D : Nat) := by omega
              have H2 := Lib.hid h2
              clear h2
              go_wp2_with (go_at_call 43; ((with_reducible refine (cr _).mono ?_); rintro e w' ⟨rfl, hw⟩; subst w'))
              go_meet
              exact ⟨rfl, by rw [H2.out]⟩
            · have h3 : ¬ (1 : Int) < (runeL D : Nat) := by omega
              have H2 := Lib.hid h2
              clear h2
              go_wp2_with (go_at_call 43; ((with_reducible refine (cr _).mono ?_); rintro e w' ⟨rfl, hw⟩; subst w'))
              go_meet
              exact ⟨rfl, by rw [H2.out]; rfl⟩
          case rest =>
            obtain ⟨rfl, rfl⟩ := hcut
            clear cr hme
            have hmin : min (a + K) x.size - a = K := by have := HHK.out; omega
            have hk4 := HHK.out.1.2
            have hk1 := HHK.out.1.1
            have hke := HHK.out.2
            have hext2 : (x.extract a (a + K)).size = K := by rw [ByteArray.size_extract]; exact hmin
            have no1 : ¬ 9223372036854775807 < F.length + P.length + 3 := by have := HXV.out; omega
            have no2 : ¬ 9223372036854775807 < F.length + P.length + 3 + K := by have := HXV.out; omega
            have no3 : ¬ 9223372036854775807 < F.length + P.length + K := by have := HXV.out; omega
            by_cases h75 : 75 < n + K
            · have t75 : decide ((75 : Int) < (n : Int) + (K : Int)) = true := decide_eq_true (by omega)
              have HN : Hid (foldR x.data.toList 0 = (P ++ ([13, 10, 32] ++ D.take K)) ++ foldR (x.data.toList.drop (a + K)) (1 + K)) := Lib.hid (by
                rw [HPS.out, HST.out, if_pos h75, ← HD.out, List.drop_drop]
                simp)
              go_wp2
              go_round
              case rel => exact ⟨a + K, 1 + K, P ++ ([13, 10, 32] ++ D.take K), by rw [HEX.out, show (⟨#[13, 10, 32]⟩ : ByteArray) = ⟨([13, 10, 32] : List UInt8).toArray⟩ from rfl, mk_appL, mk_appL]; simp, by go_num, by go_num, by omega, by omega, by first | rfl | trivial, HN⟩
              case measure => simp [intOf]; omega
            · have t75 : decide ((75 : Int) < (n : Int) + (K : Int)) = false := decide_eq_false (by omega)
              have HN : Hid (foldR x.data.toList 0 = (P ++ D.take K) ++ foldR (x.data.toList.drop (a + K)) (n + K)) := Lib.hid (by
                rw [HPS.out, HST.out, if_neg h75, ← HD.out, List.drop_drop]
                simp)
              go_wp2
              go_round
              case rel => exact ⟨a + K, n + K, P ++ D.take K, by rw [HEX.out, mk_appL]; simp, by go_num, by go_num, by omega, by omega, by first | rfl | trivial, HN⟩
              case measure => simp [intOf]; omega
        · obtain rfl : a = x.size := by omega
          have hP2 : foldR x.data.toList 0 = P := by
            rw [HP.out, List.drop_eq_nil_of_le (by rw [← bsize]; exact Nat.le_refl _), foldR_nil, List.append_nil]
          have HF2 := Lib.hid (show foldL ((bs.take (i + 1)).map fun b => b.data.toList) = F ++ P ++ [13, 10] by
            rw [HTK.out, foldL_snocC, HF.out, hP2, List.append_assoc])
          have no1 : ¬ 9223372036854775807 < F.length + P.length + 2 := by have := HXV.out; omega
          clear hP2 HP
          go_wp2
          go_round
          case rel => exact ⟨i + 1, by go_num, by omega, by first | rfl | trivial, by rw [HF2.out, show (⟨#[13, 10]⟩ : ByteArray) = ⟨([13, 10] : List UInt8).toArray⟩ from rfl, mk_appL]⟩
          case measure => simp [intOf]; omega
    · obtain rfl : i = m := by omega
      have ht : bs.take i = bs := List.take_of_length_le (by rw [HL.out]; exact Nat.le_refl _)
      rw [ht]
      go_wp2
      go_ret
      exact ⟨rfl, rfl⟩

end Go.Proofs.YtlfhhnjdfpgadaaGreatDoor

/-
  Which components can be, and their texts.
-/
namespace Go.Proofs.YtlfhhnjdfpgadaaGreatDoor
open Go.RowKit

def fitT (c : CM) : Bool := fitC 12 c && (decide ((linesC c).length ≤ 400) && decide ((foldL (linesC c)).length ≤ 8192))
def prnC (c : CM) : List UInt8 := if fitT c = true then foldL (linesC c) else []
theorem prn_len (q : QR) : (prnL (proQ q)).length + 1 ≤ 5 * qsize q := by
  have h1 := preL_len q.name q.ps q.ps.length
  have h2 := preL_all (nm := q.name) (vl := q.vl) (l := q.ps) (i := q.ps.length) (Nat.le_refl _)
  have h3 := congrArg List.length h2
  rw [List.length_append, List.length_cons, ← bsize] at h3
  unfold prnL proQ qsize
  split
  · omega
  · simp only [List.length_nil]; omega
def lsum (l : List (List UInt8)) : Nat := (l.map fun x => x.length + 1).sum
theorem lsum_app (a b : List (List UInt8)) : lsum (a ++ b) = lsum a + lsum b := by simp [lsum]
theorem lsum_q : ∀ qs : List QR, lsum ((qs.map proQ).map prnL) ≤ 5 * qsizes qs
  | [] => by simp [lsum, qsizes]
  | q :: qs => by
    have h1 := prn_len q
    have h2 := lsum_q qs
    have e : qsizes (q :: qs) = qsize q + qsizes qs := by simp [qsizes]
    have e2 : lsum (((q :: qs).map proQ).map prnL) = (prnL (proQ q)).length + 1 + lsum ((qs.map proQ).map prnL) := by simp [lsum]
    rw [e, e2]; omega
mutual
theorem lines_sum : ∀ r : CR, lsum (linesC (compOf r)) ≤ 12 * csize r
  | .mk nm A n c qs K k kc cs => by
    have h1 := lines_sums cs
    have h2 := lsum_q qs
    have hs := bsize nm
    rw [compOf, linesC, csize]
    have e : lsum ((beginT ++ 58 :: nm.data.toList) :: ((qs.map proQ).map prnL ++ (linesCs (compsOf cs) ++ [endT ++ 58 :: nm.data.toList]))) = (nm.size + 7) + (lsum ((qs.map proQ).map prnL) + (lsum (linesCs (compsOf cs)) + (nm.size + 5))) := by
      have e1 : ∀ (x : List UInt8) (l : List (List UInt8)), lsum (x :: l) = x.length + 1 + lsum l := fun x l => by simp [lsum]
      have e2 : lsum [] = 0 := rfl
      rw [e1, lsum_app, lsum_app, e1, e2, hs]
      simp only [List.length_append, List.length_cons, beginT, endT, List.length_nil]
      omega
    rw [e]; omega
theorem lines_sums : ∀ cs : List CR, lsum (linesCs (compsOf cs)) ≤ 12 * csizes cs
  | [] => by simp [compsOf, linesCs, lsum]
  | c :: cs => by
    have h1 := lines_sum c
    have h2 := lines_sums cs
    rw [compsOf, linesCs, csizes, lsum_app]
    omega
end
theorem vsize_lsum : ∀ bs : List ByteArray, vsize bs = lsum (bs.map fun b => b.data.toList)
  | [] => rfl
  | b :: bs => by
    have ih := vsize_lsum bs
    have hs := bsize b
    simp only [vsize, lsum, List.map_cons, List.sum_cons] at ih ⊢
    rw [ih, hs]

set_option maxRecDepth 100000 in
set_option maxHeartbeats 2000000 in
theorem refFit12_any (r : CR) (w : World) (hM : csize r ≤ 1048576) (hC : COk w w.heap.size r) : Calls Tryz.prog 12 #[.agg #[(fC r).1, (fC r).2.1, (fC r).2.2]] w fun e w' => e = .returned (.bool (fitT (compOf r))) ∧ Below w.heap.size w w' := by
  have HL := Lib.hid (lines_sum r)
  have HM := Lib.hid hM
  obtain ⟨rm, hrm⟩ : ∃ rm, compOf r = rm := ⟨_, rfl⟩
  have HRM := Lib.hid hrm
  have E0 := Lib.hid (show fitT rm = (fitC 12 rm && (decide ((linesC rm).length ≤ 400) && decide ((foldL (linesC rm)).length ≤ 8192))) from rfl)
  have c1 := fun W (h : COk W W.heap.size r) => fit12_any 12 r W (Nat.le_refl _) hM h
  have c2 := fun W (h : COk W W.heap.size r) => lines_any _ r W (Nat.le_refl _) hM h
  rw [hrm] at c1 ⊢
  generalize fitT rm = rb at E0 ⊢
  generalize hb1 : fitC 12 rm = b1 at c1
  rw [hb1] at E0
  obtain ⟨nm, A, n, c, qs, K, k, kc, cs⟩ := r
  have C1 := Lib.hid c1
  have C2 := Lib.hid c2
  have HA := Lib.hid (CA.new hC)
  have HB : Hid (Below w.heap.size w (w.alloc (.cells #[.string nm, .slice A n c, .slice K k kc] 25))) := Lib.hid ((Below.refl _ w).alloc (Nat.le_refl _) _)
  clear hC hM c1 c2 hrm hb1
  show Calls Tryz.prog 12 #[.agg #[.string nm, .slice A n c, .slice K k kc]] w _
  go_enter Tryz.func12, Tryz.ntmps12
  obtain ⟨p0, p1, p2⟩ := HA.out.bx.cells
  go_wp2_with fail
  refine (C1.out _ HA.out.ok).mono ?_
  rintro e w2 ⟨rfl, hb2⟩
  have HJ := Lib.hid (And.intro (HA.out.step hb2) (bstep HB.out hb2))
  clear hb2 HA HB p0 p1 p2
  obtain ⟨p0, p1, p2⟩ := HJ.out.1.bx.cells
  cases b1
  · have E : Hid (rb = false) := Lib.hid (by rw [E0.out]; rfl)
    go_wp2
    go_ret
    exact ⟨by rw [E.out]; rfl, HJ.out.2⟩
  rw [Bool.true_and] at E0
  go_wp2_with fail
  refine (C2.out _ HJ.out.1.ok).mono ?_
  rintro e w3 ⟨R, N, C, bs, rfl, hbs, hR, hNC, hCm, hb3⟩
  have HJ3 := Lib.hid (bstep HJ.out.2 hb3)
  rw [HRM.out] at hbs
  have hN := hR.lenS
  have hvs : vsize bs ≤ 16777216 := by
    have h1 := HL.out
    have h2 := HM.out
    rw [HRM.out, ← hbs, ← vsize_lsum] at h1
    omega
  have cf := refFold11_any R N C bs w3 hR (by unfold maxLen at hCm; omega) hvs
  have hfl := foldL_lenC bs
  rw [hbs] at cf hfl
  have hll : (linesC rm).length = N := by rw [← hbs, List.length_map]; exact hN
  have hsz : (⟨(foldL (linesC rm)).toArray⟩ : ByteArray).size = (foldL (linesC rm)).length := mk_sizeL _
  rw [hll] at E0
  generalize (⟨(foldL (linesC rm)).toArray⟩ : ByteArray) = S at cf hsz
  rw [← hsz] at E0 hfl
  have hS : S.size ≤ 67108864 := by omega
  have hNm : N ≤ 9223372036854775807 := by unfold maxLen at hCm; omega
  clear hb3 HJ p0 p1 p2 hbs hR hNC hCm hN hfl hll hsz
  by_cases h4 : N ≤ 400
  · have d1 : decide ((N : Int) ≤ 400) = true := decide_eq_true (by omega)
    rw [decide_eq_true h4, Bool.true_and] at E0
    by_cases h8 : S.size ≤ 8192
    · have d2 : decide ((S.size : Int) ≤ 8192) = true := decide_eq_true (by omega)
      have E : Hid (rb = true) := Lib.hid (by rw [E0.out]; exact decide_eq_true h8)
      go_wp2_with (go_at_call 25; ((with_reducible refine cf.mono ?_); rintro e w' ⟨rfl, hw⟩; subst w'))
      go_ret
      exact ⟨by rw [E.out]; rfl, HJ3.out⟩
    · have d2 : decide ((S.size : Int) ≤ 8192) = false := decide_eq_false (by omega)
      have E : Hid (rb = false) := Lib.hid (by rw [E0.out]; exact decide_eq_false h8)
      go_wp2_with (go_at_call 25; ((with_reducible refine cf.mono ?_); rintro e w' ⟨rfl, hw⟩; subst w'))
      go_ret
      exact ⟨by rw [E.out]; rfl, HJ3.out⟩
  · have d1 : decide ((N : Int) ≤ 400) = false := decide_eq_false (by omega)
    have E : Hid (rb = false) := Lib.hid (by rw [E0.out, decide_eq_false h4]; rfl)
    go_wp2
    go_ret
    exact ⟨by rw [E.out]; rfl, HJ3.out⟩

set_option maxRecDepth 100000 in
set_option maxHeartbeats 2000000 in
theorem refPrint12_any (r : CR) (w : World) (hM : csize r ≤ 1048576) (hC : COk w w.heap.size r) : Calls Tryz.prog 14 #[.agg #[(fC r).1, (fC r).2.1, (fC r).2.2]] w fun e w' => e = .returned (.string ⟨(prnC (compOf r)).toArray⟩) ∧ Below w.heap.size w w' := by
  have HL := Lib.hid (lines_sum r)
  have HM := Lib.hid hM
  obtain ⟨rm, hrm⟩ : ∃ rm, compOf r = rm := ⟨_, rfl⟩
  have HRM := Lib.hid hrm
  have c1 := fun W (h : COk W W.heap.size r) => refFit12_any r W hM h
  have c2 := fun W (h : COk W W.heap.size r) => lines_any _ r W (Nat.le_refl _) hM h
  rw [hrm] at c1 ⊢
  have E0 := Lib.hid (show prnC rm = if fitT rm = true then foldL (linesC rm) else [] from rfl)
  generalize prnC rm = pc at E0 ⊢
  generalize hb1 : fitT rm = b1 at c1
  rw [hb1] at E0
  obtain ⟨nm, A, n, c, qs, K, k, kc, cs⟩ := r
  have C1 := Lib.hid c1
  have C2 := Lib.hid c2
  have HA := Lib.hid (CA.new hC)
  have HB : Hid (Below w.heap.size w (w.alloc (.cells #[.string nm, .slice A n c, .slice K k kc] 25))) := Lib.hid ((Below.refl _ w).alloc (Nat.le_refl _) _)
  clear hC hM c1 c2 hrm hb1
  show Calls Tryz.prog 14 #[.agg #[.string nm, .slice A n c, .slice K k kc]] w _
  go_enter Tryz.func14, Tryz.ntmps14
  obtain ⟨p0, p1, p2⟩ := HA.out.bx.cells
  go_wp2_with fail
  refine (C1.out _ HA.out.ok).mono ?_
  rintro e w2 ⟨rfl, hb2⟩
  have HJ := Lib.hid (And.intro (HA.out.step hb2) (bstep HB.out hb2))
  clear hb2 HA HB p0 p1 p2
  obtain ⟨p0, p1, p2⟩ := HJ.out.1.bx.cells
  cases b1
  · have E : Hid (pc = []) := Lib.hid (by rw [E0.out]; rfl)
    go_wp2
    go_ret
    exact ⟨by rw [E.out]; rfl, HJ.out.2⟩
  have E : Hid (pc = foldL (linesC rm)) := Lib.hid (by rw [E0.out]; rfl)
  go_wp2_with fail
  refine (C2.out _ HJ.out.1.ok).mono ?_
  rintro e w3 ⟨R, N, C, bs, rfl, hbs, hR, hNC, hCm, hb3⟩
  have HJ3 := Lib.hid (bstep HJ.out.2 hb3)
  rw [HRM.out] at hbs
  have hvs : vsize bs ≤ 16777216 := by
    have h1 := HL.out
    have h2 := HM.out
    rw [HRM.out, ← hbs, ← vsize_lsum] at h1
    omega
  have cf := refFold11_any R N C bs w3 hR (by unfold maxLen at hCm; omega) hvs
  rw [hbs, ← E.out] at cf
  clear hb3 HJ p0 p1 p2 hbs hR hNC hCm hvs
  go_wp2_with fail
  refine cf.mono ?_
  rintro e w4 ⟨rfl, rfl⟩
  go_wp2
  go_ret
  exact ⟨rfl, HJ3.out⟩

end Go.Proofs.YtlfhhnjdfpgadaaGreatDoor

/-
  Plain mathematics for layer 11: lines unfolded, as the program does it.
-/
namespace Go.Proofs.YtlfhhnjdfpgadaaGreatDoor
open Go.RowKit

def notLf (c : UInt8) : Bool := !decide (c = 10)
theorem tw_dropU {p : UInt8 → Bool} : ∀ l : List UInt8, l.drop (l.takeWhile p).length = l.dropWhile p
  | [] => rfl
  | x :: l => by
    by_cases hx : p x = true
    · rw [List.takeWhile_cons_of_pos hx, List.dropWhile_cons_of_pos hx]; simpa using tw_dropU l
    · rw [List.takeWhile_cons_of_neg hx, List.dropWhile_cons_of_neg hx]; rfl
theorem tw_takeU {p : UInt8 → Bool} : ∀ l : List UInt8, l.take (l.takeWhile p).length = l.takeWhile p
  | [] => rfl
  | x :: l => by
    by_cases hx : p x = true
    · rw [List.takeWhile_cons_of_pos hx]; simpa using tw_takeU l
    · rw [List.takeWhile_cons_of_neg hx]; rfl
/-- Lines as they stand. -/
def rawP : Nat → List UInt8 → List (List UInt8)
  | 0, _ => []
  | f + 1, l => if l = [] then [] else
      (if (l.takeWhile notLf).length < l.length then stripL (l.takeWhile notLf) else l.takeWhile notLf) :: rawP f (l.drop ((l.takeWhile notLf).length + 1))
theorem raw_all : ∀ (f : Nat) (l : List UInt8), l.length ≤ f → rawG l [] = rawP f l
  | 0, l, h => by
    have : l = [] := List.eq_nil_of_length_eq_zero (by omega)
    subst this; simp [rawG, rawP]
  | f + 1, l, h => by
    by_cases h0 : l = []
    · subst h0; simp [rawG, rawP]
    · rw [rawP, if_neg h0]
      have hsp := List.takeWhile_append_dropWhile (p := notLf) (l := l)
      have hno : ∀ c ∈ l.takeWhile notLf, c ≠ 10 := fun c hc e => by
        have : notLf c = true := by
          have := List.all_takeWhile (p := notLf) (l := l)
          exact List.all_eq_true.1 this c hc
        subst e; exact absurd this (by decide)
      have hdr : l.drop (l.takeWhile notLf).length = l.dropWhile notLf := tw_dropU l
      cases hd : l.dropWhile notLf with
      | nil =>
        rw [hd, List.append_nil] at hsp
        rw [if_neg (by rw [hsp]; omega), List.drop_eq_nil_of_le (by rw [hsp]; omega)]
        conv => lhs; rw [← hsp]
        have := raw_feed (l.takeWhile notLf) [] [] hno
        rw [List.append_nil, List.nil_append] at this
        rw [this, rawG, if_neg (by rw [hsp]; exact h0)]
        cases f <;> simp [rawP]
      | cons c t =>
        have hc : c = 10 := by
          have := List.head?_dropWhile_not notLf l
          rw [hd] at this
          unfold notLf at this
          simpa using this
        subst hc
        rw [hd] at hsp hdr
        have hlen : (l.takeWhile notLf).length + (t.length + 1) = l.length := by
          conv => rhs; rw [← hsp]
          simp
        rw [if_pos (by omega)]
        conv => lhs; rw [← hsp]
        rw [raw_feed _ _ _ hno, List.nil_append, rawG, if_pos rfl]
        have ht : l.drop ((l.takeWhile notLf).length + 1) = t := by rw [← List.drop_drop, hdr]; rfl
        rw [ht, raw_all f t (by omega)]
theorem trim_strip (a : List UInt8) : Lib.trimSuffix a [13] = stripL a := by
  unfold Lib.trimSuffix Lib.hasSuffix stripL
  by_cases h : a.getLast? = some 13
  · obtain ⟨b, rfl⟩ := List.getLast?_eq_some_iff.1 h
    rw [if_pos (by simp), if_pos (by simp)]
    simp
  · rw [if_neg h, if_neg]
    intro hs
    rw [List.isSuffixOf_iff_suffix] at hs
    obtain ⟨b, rfl⟩ := hs
    exact h (by simp)
theorem cut_lf : ∀ (l : List UInt8), Lib.index l [10] = (if (l.takeWhile notLf).length < l.length then ((l.takeWhile notLf).length : Int) else -1)
  | [] => by decide
  | b :: l => by
    have ih := cut_lf l
    unfold Lib.index
    by_cases hb : b = 10
    · subst hb
      rw [if_pos (by simp [List.isPrefixOf])]
      simp [notLf]
    · have h1 : ([10] : List UInt8).isPrefixOf (b :: l) = false := by simp [List.isPrefixOf]; exact fun e => hb e.symm
      rw [if_neg (by rw [h1]; decide), ih]
      have h2 : (b :: l).takeWhile notLf = b :: l.takeWhile notLf := List.takeWhile_cons_of_pos (by simp [notLf, hb])
      rw [h2]
      simp only [List.length_cons]
      generalize (l.takeWhile notLf).length = n
      generalize l.length = m
      by_cases h : n < m
      · have e1 : (if n < m then (n : Int) else -1) = n := if_pos h
        have e2 : (if n + 1 < m + 1 then ((n + 1 : Nat) : Int) else -1) = ((n + 1 : Nat) : Int) := if_pos (by omega)
        have e3 : ((n : Int) == -1) = false := by rw [beq_eq_false_iff_ne]; omega
        rw [e1, e2, e3]; simp
      · have e1 : (if n < m then (n : Int) else -1) = -1 := if_neg h
        have e2 : (if n + 1 < m + 1 then ((n + 1 : Nat) : Int) else -1) = -1 := if_neg (by omega)
        rw [e1, e2]; rfl
theorem cut_is (l : List UInt8) : (Lib.cut l [10]).1 = l.takeWhile notLf ∧ (Lib.cut l [10]).2.2 = decide ((l.takeWhile notLf).length < l.length) := by
  unfold Lib.cut
  rw [cut_lf]
  have hle : (l.takeWhile notLf).length ≤ l.length := (List.takeWhile_sublist _).length_le
  by_cases h : (l.takeWhile notLf).length < l.length
  · rw [if_pos h, if_pos (by omega)]
    refine ⟨?_, by simp [h]⟩
    have hsp := List.takeWhile_append_dropWhile (p := notLf) (l := l)
    show l.take ((((l.takeWhile notLf).length : Nat) : Int)).toNat = _
    rw [Int.toNat_natCast]
    exact tw_takeU l
  · rw [if_neg h, if_neg (by decide)]
    refine ⟨?_, by simp [h]⟩
    have hsp := List.takeWhile_append_dropWhile (p := notLf) (l := l)
    have : (l.dropWhile notLf) = [] := List.eq_nil_of_length_eq_zero (by
      have := congrArg List.length hsp
      rw [List.length_append] at this
      omega)
    rw [this, List.append_nil] at hsp
    exact hsp.symm
/-- Lines joined; none: the first one goes on with none. -/
def joinP : List (List UInt8) → List (List UInt8) → Option (List (List UInt8))
  | [], out => some out
  | x :: xs, out => if goesL x = false then joinP xs (out ++ [x]) else if out = [] then none else joinP xs (out.dropLast ++ [out.getLastD [] ++ x.drop 1])
def chkP : Nat → List (List UInt8) → Int
  | _, [] => 0
  | i, x :: xs => if x = [] then 10 else if i = 400 then 27 else if 1024 < x.length then 12 else chkP (i + 1) xs
/-- What Unfold tells, as the program does it. -/
def unfQ (s : List UInt8) : List (List UInt8) × Int :=
  if 8192 < s.length then ([], 12) else match joinP (rawG s []) [] with
  | none => ([], 10)
  | some l => if chkP 0 l = 0 then (l, 0) else ([], chkP 0 l)
theorem joinP_app : ∀ (a b out : List (List UInt8)), joinP (a ++ b) out = (match joinP a out with | none => none | some o => joinP b o)
  | [], b, out => rfl
  | x :: a, b, out => by
    rw [List.cons_append, joinP, joinP]
    split
    · exact joinP_app a b _
    · split
      · rfl
      · exact joinP_app a b _
theorem chkP_good : ∀ (l : List (List UInt8)) (i : Nat), (∀ x ∈ l, x ≠ [] ∧ x.length ≤ 1024) → i + l.length ≤ 400 → chkP i l = 0
  | [], _, _, _ => rfl
  | x :: l, i, h, hi => by
    have hx := h x (by simp)
    simp only [List.length_cons] at hi
    rw [chkP, if_neg hx.1, if_neg (by omega), if_neg (by omega)]
    exact chkP_good l (i + 1) (fun y hy => h y (by simp [hy])) (by omega)
theorem unf_join : ∀ (raws out ls : List (List UInt8)), unfG raws out = (ls, 0) → (∀ x ∈ out, x ≠ [] ∧ x.length ≤ 1024) → out.length ≤ 400 → joinP raws out = some ls ∧ chkP 0 ls = 0
  | [], out, ls, h, hg, hl => by
    rw [unfG] at h
    injection h with h1 h2
    subst h1
    exact ⟨rfl, chkP_good _ 0 hg (by omega)⟩
  | x :: xs, out, ls, h, hg, hl => by
    rw [unfG] at h
    rw [joinP]
    by_cases h1 : x = [] ∨ (goesL x = true ∧ out = [])
    · rw [if_pos h1] at h
      injection h with _ h2
      exact absurd h2 (by decide)
    · rw [if_neg h1] at h
      by_cases hgo : goesL x = true
      · rw [if_pos hgo] at h
        rw [if_neg (by rw [hgo]; decide)]
        have hne : out ≠ [] := fun e => h1 (.inr ⟨hgo, e⟩)
        rw [if_neg hne]
        by_cases h5 : 1024 < (out.getLastD [] ++ x.drop 1).length
        · rw [if_pos h5] at h
          injection h with _ h2
          exact absurd h2 (by decide)
        · rw [if_neg h5] at h
          refine unf_join xs _ ls h (fun y hy => ?_) (by simp; omega)
          rcases List.mem_append.1 hy with hy | hy
          · exact hg y ((List.dropLast_sublist out).subset hy)
          · obtain rfl : y = out.getLastD [] ++ x.drop 1 := by simpa using hy
            refine ⟨fun e => ?_, by omega⟩
            have hl := hg (out.getLast hne) (List.getLast_mem hne)
            rw [List.getLastD_eq_getLast?, List.getLast?_eq_some_getLast hne] at e
            simp at e
            exact hl.1 e.1
      · rw [if_neg hgo] at h
        rw [if_pos (by simpa using hgo)]
        by_cases h4 : out.length = 400
        · rw [if_pos h4] at h
          injection h with _ h2
          exact absurd h2 (by decide)
        · rw [if_neg h4] at h
          by_cases h5 : 1024 < x.length
          · rw [if_pos h5] at h
            injection h with _ h2
            exact absurd h2 (by decide)
          · rw [if_neg h5] at h
            refine unf_join xs _ ls h (fun y hy => ?_) (by simp; omega)
            rcases List.mem_append.1 hy with hy | hy
            · exact hg y hy
            · obtain rfl : y = x := by simpa using hy
              exact ⟨fun e => h1 (.inl e), by omega⟩
/-- Where the document tells lines, so does the program. -/
theorem unfQ_of {s : List UInt8} {ls : List (List UInt8)} (h : unfL s = (ls, 0)) : unfQ s = (ls, 0) := by
  unfold unfL at h
  unfold unfQ
  split at h
  · injection h with _ h2
    exact absurd h2 (by decide)
  · rename_i hs
    rw [if_neg hs]
    obtain ⟨h1, h2⟩ := unf_join _ [] ls h (fun x hx => by cases hx) (by simp)
    rw [h1]
    show (if chkP 0 ls = 0 then (ls, 0) else ([], chkP 0 ls)) = _
    rw [if_pos h2]
end Go.Proofs.YtlfhhnjdfpgadaaGreatDoor
