/-
  Commits and recoveries that are broken off anywhere, as plain lists: a row of writes, a flush, a crash.
-/
import Derived.Test.YtlpijikhbjkmfaaG27
import Derived.Test.YtlpijikhbjkmfaaG34
namespace Go.Proofs.Ytlpijikhbjkmfaa
open Go.RowKit

def putsL (ws : List (Int × ByteArray)) : List Step := ws.map fun p => Step.put p.1 p.2
theorem putsL_cons (p : Int × ByteArray) (ws : List (Int × ByteArray)) : putsL (p :: ws) = Step.put p.1 p.2 :: putsL ws := rfl
/-- A row of writes that fit: so many of them are in the cache then; what broke it off is a refusal. -/
theorem run_puts : ∀ (ws : List (Int × ByteArray)) (d : D), d.dead = false → -1 ≤ d.left → (∀ p ∈ ws, at_ d.bs p.1 ∧ p.2.size = 128) → d.cs.length + ws.length ≤ 4096 →
    ∃ j, j ≤ ws.length ∧ (runD (d, 0) (putsL ws)).1.bs = d.bs ∧ (runD (d, 0) (putsL ws)).1.cs = d.cs ++ ws.take j ∧ -1 ≤ (runD (d, 0) (putsL ws)).1.left ∧
      ((runD (d, 0) (putsL ws)).2 = 0 → j = ws.length ∧ (runD (d, 0) (putsL ws)).1.dead = false) ∧ ((runD (d, 0) (putsL ws)).2 ≠ 0 → (runD (d, 0) (putsL ws)).2 = 16) ∧
      (d.left = -1 → (runD (d, 0) (putsL ws)).2 = 0 ∧ (runD (d, 0) (putsL ws)).1.left = -1)
  | [], d, hd, hl, _, _ => ⟨0, Nat.le_refl _, rfl, by simp [putsL, runD], hl, fun _ => ⟨rfl, hd⟩, fun h => absurd rfl h, fun h => ⟨rfl, h⟩⟩
  | p :: ws, d, hd, hl, hw, hc => by
    have hp := hw p List.mem_cons_self
    have hlen : d.cs.length + (ws.length + 1) ≤ 4096 := hc
    rw [putsL_cons, runD_cons, stepD_W, if_pos rfl]
    by_cases h0 : d.left = 0
    · have e : writeD d p.1 p.2 = ({ d with dead := true }, 16) := by
        unfold writeD
        rw [if_neg (by rw [hd]; exact Bool.false_ne_true), if_neg (fun h => h hp), if_neg (by omega), if_pos h0]
      rw [e, runD_err (show (16 : Int) ≠ 0 by decide)]
      exact ⟨0, Nat.zero_le _, rfl, by simp, hl, fun h => absurd (show (16 : Int) = 0 from h) (by decide), fun _ => rfl, fun h => by omega⟩
    · have e : writeD d p.1 p.2 = ({ d with cs := d.cs ++ [p], left := if 0 < d.left then d.left - 1 else d.left }, 0) := by
        unfold writeD
        rw [if_neg (by rw [hd]; exact Bool.false_ne_true), if_neg (fun h => h hp), if_neg (by omega), if_neg h0]
      rw [e]
      obtain ⟨j, hj, h1, h2, h3, h4, h5, h6⟩ := run_puts ws { d with cs := d.cs ++ [p], left := if 0 < d.left then d.left - 1 else d.left } hd (by dsimp only; split <;> omega) (fun q hq => hw q (List.mem_cons_of_mem _ hq)) (by simp; omega)
      refine ⟨j + 1, by simp; omega, h1, ?_, h3, fun h => ⟨by rw [(h4 h).1]; rfl, (h4 h).2⟩, h5, fun h => h6 (by dsimp only; rw [if_neg (by omega)]; exact h)⟩
      rw [h2]
      simp
/-- A flush, done or refused. -/
theorem step_flush (d : D) (hd : d.dead = false) (hl : -1 ≤ d.left) :
    ((stepD (d, 0) .flush).2 = 0 ∧ (stepD (d, 0) .flush).1.bs = allL d.bs d.cs ∧ (stepD (d, 0) .flush).1.cs = [] ∧ (stepD (d, 0) .flush).1.dead = false ∧ -1 ≤ (stepD (d, 0) .flush).1.left ∧ (d.left = -1 → (stepD (d, 0) .flush).1.left = -1)) ∨
    ((stepD (d, 0) .flush).2 = 16 ∧ (stepD (d, 0) .flush).1.bs = d.bs ∧ (stepD (d, 0) .flush).1.cs = d.cs ∧ d.left = 0 ∧ -1 ≤ (stepD (d, 0) .flush).1.left) := by
  rw [stepD_F, if_pos rfl]
  by_cases h0 : d.left = 0
  · have e : flushD d = ({ d with dead := true }, 16) := by
      unfold flushD
      rw [if_neg (by rw [hd]; exact Bool.false_ne_true), if_pos h0]
    rw [e]
    exact .inr ⟨rfl, rfl, rfl, h0, hl⟩
  · have e : flushD d = ({ d with bs := allL d.bs d.cs, cs := [], left := if 0 < d.left then d.left - 1 else d.left }, 0) := by
      unfold flushD
      rw [if_neg (by rw [hd]; exact Bool.false_ne_true), if_neg h0]
    rw [e]
    refine .inl ⟨rfl, rfl, rfl, hd, ?_, fun h => ?_⟩
    · dsimp only; split <;> omega
    · dsimp only; rw [if_neg (by omega)]; exact h

/-- What holds of the blocks whichever of a cache's writes are kept. -/
theorem settle_ind (Q : List ByteArray → Prop) : ∀ (cs : List (Int × ByteArray)) (ks : List Bool) (bs : List ByteArray), Q bs → (∀ b, Q b → ∀ p ∈ cs, Q (put b p.1 p.2)) → Q (settleL bs cs ks)
  | [], ks, bs, h, _ => by rw [settleL_nil]; exact h
  | p :: cs, [], bs, h, _ => h
  | p :: cs, k :: ks, bs, h, hs => by
    show Q (settleL (if k = true then put bs p.1 p.2 else bs) cs ks)
    refine settle_ind Q cs ks _ ?_ fun b hb q hq => hs b hb q (List.mem_cons_of_mem _ hq)
    split
    · exact hs bs h p List.mem_cons_self
    · exact h
theorem blk_put (bs : List ByteArray) (i : Int) (s : ByteArray) (j : Nat) (hj : j < bs.length) : blk (put bs i s) j = if i = (j : Int) then s else blk bs j := getD_put bs i s j hj
theorem put_size {bs : List ByteArray} (h : ∀ b ∈ bs, b.size = 128) (i : Int) {s : ByteArray} (hs : s.size = 128) : ∀ b ∈ put bs i s, b.size = 128 := by
  intro b hb
  unfold put at hb
  split at hb
  · rcases List.mem_or_eq_of_mem_set hb with h1 | h1
    · exact h b h1
    · rw [h1]; exact hs
  · exact h b hb

/-! ### What the blocks of a log's device may be -/

/-- The home blocks. -/
def homesB (bs : List ByteArray) (h g : Nat) : List ByteArray := (List.range h).map fun i => blk bs (homeAt h g i)
theorem homesB_length (bs : List ByteArray) (h g : Nat) : (homesB bs h g).length = h := by simp [homesB]
theorem homesB_blk (bs : List ByteArray) (h g : Nat) {i : Nat} (hi : i < h) : blk (homesB bs h g) i = blk bs (homeAt h g i) := by
  unfold homesB
  rw [blk, List.getD_eq_getElem?_getD]
  simp [hi]
/-- Blocks of a device for h and g. -/
def BB (h g : Nat) (bs : List ByteArray) : Prop := bs.length = 1 + listsN h + g + h ∧ ∀ b ∈ bs, b.size = 128
/-- Nothing is logged; home is img. -/
def ZB (h g : Nat) (img : List ByteArray) (bs : List ByteArray) : Prop := BB h g bs ∧ blk bs 0 = zeroB ∧ homesB bs h g = img
/-- The log holds what makes now want: its places and its blocks; each home block is now's or want's, and want's where nothing is logged. -/
def LB (h g : Nat) (sq : Nat) (pl : List Nat) (bl : List ByteArray) (want : List ByteArray) (bs : List ByteArray) : Prop :=
  BB h g bs ∧ blk bs 0 = sealB sq pl bl ∧ (∀ j, j < (listB pl).length → blk bs (1 + j) = blk (listB pl) j) ∧ (∀ j, j < bl.length → blk bs (1 + listsN h + j) = blk bl j) ∧
    (∀ i, i < h → i ∉ pl → blk bs (homeAt h g i) = blk want i)
theorem BB.put {h g : Nat} {bs : List ByteArray} (hB : BB h g bs) (i : Int) {s : ByteArray} (hs : s.size = 128) : BB h g (put bs i s) := ⟨by rw [put_length]; exact hB.1, put_size hB.2 i hs⟩
/-- A write of a list's or a log's block leaves a device with nothing logged so. -/
theorem ZB.put_log {h g : Nat} {img bs : List ByteArray} (hz : ZB h g img bs) (hh : 1 ≤ h) {i : Nat} (h1 : 1 ≤ i) (h2 : i < 1 + listsN h + g) {s : ByteArray} (hs : s.size = 128) : ZB h g img (put bs (i : Int) s) := by
  refine ⟨hz.1.put _ hs, ?_, ?_⟩
  · rw [blk_put _ _ _ 0 (by rw [hz.1.1]; omega), if_neg (by omega)]
    exact hz.2.1
  · rw [← hz.2.2]
    unfold homesB
    refine List.map_congr_left fun k hk => ?_
    have hk := List.mem_range.1 hk
    rw [blk_put _ _ _ _ (by rw [hz.1.1]; unfold homeAt; omega), if_neg (by unfold homeAt; omega)]
/-- A write of a home block that is logged leaves a device with that log so. -/
theorem LB.put_home {h g sq : Nat} {pl : List Nat} {bl want bs : List ByteArray} (hz : LB h g sq pl bl want bs) (hg : pl.length ≤ g) (hll : (listB pl).length ≤ listsN h) (hbl : bl.length = pl.length) {k : Nat} (hk : k ∈ pl) (_hkh : k < h) {s : ByteArray} (hs : s.size = 128) :
    LB h g sq pl bl want (put bs ((homeAt h g k : Nat) : Int) s) := by
  obtain ⟨hB, h0, h1, h2, h3⟩ := hz
  have hlen := hB.1
  refine ⟨hB.put _ hs, ?_, fun j hj => ?_, fun j hj => ?_, fun i hi hip => ?_⟩
  · rw [blk_put _ _ _ 0 (by omega), if_neg (by unfold homeAt; omega)]
    exact h0
  · rw [blk_put _ _ _ _ (by omega), if_neg (by unfold homeAt; omega)]
    exact h1 j hj
  · rw [blk_put _ _ _ _ (by omega), if_neg (by unfold homeAt; omega)]
    exact h2 j hj
  · rw [blk_put _ _ _ _ (by unfold homeAt; omega), if_neg (fun e => hip (by
      have : homeAt h g k = homeAt h g i := by omega
      unfold homeAt at this
      rw [show i = k by omega]; exact hk))]
    exact h3 i hi hip
/-- Where home is want's, the log's head cleared leaves nothing logged. -/
theorem LB.clear {h g sq : Nat} {pl : List Nat} {bl want bs : List ByteArray} (hz : LB h g sq pl bl want bs) (hw : homesB bs h g = want) : ZB h g want (put bs 0 zeroB) := by
  obtain ⟨hB, h0, h1, h2, h3⟩ := hz
  have hlen := hB.1
  refine ⟨hB.put _ zeroB_size, ?_, ?_⟩
  · by_cases hl : 0 < bs.length
    · rw [show (0 : Int) = ((0 : Nat) : Int) from rfl, blk_put _ _ _ 0 hl, if_pos rfl]
    · omega
  · rw [← hw]
    unfold homesB
    refine List.map_congr_left fun k hk => ?_
    have hk := List.mem_range.1 hk
    rw [show (0 : Int) = ((0 : Nat) : Int) from rfl, blk_put _ _ _ _ (by unfold homeAt; omega), if_neg (by unfold homeAt; omega)]
/-- Nothing logged, and the list and the log right: the head written makes it logged. -/
theorem ZB.seal {h g sq : Nat} {pl : List Nat} {bl now want bs : List ByteArray} (hz : ZB h g now bs) (h1 : ∀ j, j < (listB pl).length → blk bs (1 + j) = blk (listB pl) j) (h2 : ∀ j, j < bl.length → blk bs (1 + listsN h + j) = blk bl j)
    (hg : pl.length ≤ g) (hll : (listB pl).length ≤ listsN h) (hbl : bl.length = pl.length) (hsame : ∀ i, i < h → i ∉ pl → blk now i = blk want i) (hss : (sealB sq pl bl).size = 128) : LB h g sq pl bl want (put bs 0 (sealB sq pl bl)) := by
  obtain ⟨hB, h0, hn⟩ := hz
  have hlen := hB.1
  have hp : ∀ j, 0 < j → j < bs.length → blk (put bs 0 (sealB sq pl bl)) j = blk bs j := fun j hj hjl => by
    rw [show (0 : Int) = ((0 : Nat) : Int) from rfl, blk_put _ _ _ j hjl, if_neg (by omega)]
  refine ⟨hB.put _ hss, ?_, fun j hj => ?_, fun j hj => ?_, fun i hi hip => ?_⟩
  · by_cases hl : 0 < bs.length
    · rw [show (0 : Int) = ((0 : Nat) : Int) from rfl, blk_put _ _ _ 0 hl, if_pos rfl]
    · omega
  · rw [hp _ (by omega) (by omega)]; exact h1 j hj
  · rw [hp _ (by omega) (by omega)]; exact h2 j hj
  · rw [hp _ (by unfold homeAt; omega) (by unfold homeAt; omega), ← hsame i hi hip, ← hn]
    exact (homesB_blk bs h g hi).symm

end Go.Proofs.Ytlpijikhbjkmfaa

/-
  A recovery's steps, broken off anywhere.
-/
namespace Go.Proofs.Ytlpijikhbjkmfaa
open Go.RowKit

/-- What a commit logs: places of home blocks and want's blocks there. -/
structure Lg (h g : Nat) (pl : List Nat) (bl want : List ByteArray) : Prop where
  lt : ∀ k ∈ pl, k < h
  bl : bl = pl.map (blk want)
  le : pl.length ≤ g
  ll : (listB pl).length ≤ listsN h
  len : want.length = h
  sz : ∀ b ∈ want, b.size = 128
theorem Lg.bll {h g : Nat} {pl : List Nat} {bl want : List ByteArray} (L : Lg h g pl bl want) : bl.length = pl.length := by rw [L.bl, List.length_map]
theorem Lg.wsz {h g : Nat} {pl : List Nat} {bl want : List ByteArray} (L : Lg h g pl bl want) {k : Nat} (hk : k < h) : (blk want k).size = 128 := by
  unfold blk
  rw [List.getD_eq_getElem?_getD, List.getElem?_eq_getElem (by rw [L.len]; exact hk)]
  exact L.sz _ (List.getElem_mem _)
/-- The home writes. -/
def homeWs (a : Nat) (pl : List Nat) (bl : List ByteArray) : List (Int × ByteArray) := (List.range pl.length).map fun t => (((a + pl.getD t 0 : Nat) : Int), blk bl t)
theorem homeSteps_puts (a : Nat) (pl : List Nat) (bl : List ByteArray) : homeSteps a pl bl = putsL (homeWs a pl bl) := by
  unfold homeSteps stepsL putsL homeWs
  rw [List.map_map]
  rfl
theorem homeWs_mem {h g : Nat} {pl : List Nat} {bl want : List ByteArray} (L : Lg h g pl bl want) {p : Int × ByteArray} (hp : p ∈ homeWs (1 + listsN h + g) pl bl) : ∃ k, k ∈ pl ∧ k < h ∧ p.1 = ((homeAt h g k : Nat) : Int) ∧ p.2 = blk want k := by
  unfold homeWs at hp
  obtain ⟨t, ht, rfl⟩ := List.mem_map.1 hp
  have ht := List.mem_range.1 ht
  have hm : pl.getD t 0 ∈ pl := by
    rw [List.getD_eq_getElem?_getD, List.getElem?_eq_getElem ht]
    exact List.getElem_mem _
  refine ⟨pl.getD t 0, hm, L.lt _ hm, rfl, ?_⟩
  show blk bl t = _
  rw [L.bl, blk, List.getD_eq_getElem?_getD, List.getElem?_map, List.getD_eq_getElem?_getD, List.getElem?_eq_getElem ht]
  rfl
theorem homeWs_has {pl : List Nat} {bl : List ByteArray} {a k : Nat} (hk : k ∈ pl) : ∃ p ∈ homeWs a pl bl, p.1 = ((a + k : Nat) : Int) := by
  obtain ⟨t, ht, rfl⟩ := List.mem_iff_getElem.1 hk
  refine ⟨_, List.mem_map.2 ⟨t, List.mem_range.2 ht, rfl⟩, ?_⟩
  show ((a + pl.getD t 0 : Nat) : Int) = _
  rw [List.getD_eq_getElem?_getD, List.getElem?_eq_getElem ht]
  rfl
theorem lastTo_all : ∀ (cs : List (Int × ByteArray)) (i : Int) (s x : ByteArray), (∀ p ∈ cs, p.1 = i → p.2 = s) → ((∃ p ∈ cs, p.1 = i) ∨ x = s) → lastTo cs i x = s
  | [], i, s, x, _, h => by
    rcases h with ⟨p, hp, _⟩ | h
    · cases hp
    · exact h
  | c :: cs, i, s, x, h1, h2 => by
    show lastTo cs i (if c.1 = i then c.2 else x) = s
    refine lastTo_all cs i s _ (fun p hp => h1 p (List.mem_cons_of_mem _ hp)) ?_
    by_cases hc : c.1 = i
    · rw [if_pos hc]; exact .inr (h1 c List.mem_cons_self hc)
    · rw [if_neg hc]
      rcases h2 with ⟨p, hp, he⟩ | h
      · rcases List.mem_cons.1 hp with rfl | hp
        · exact absurd he hc
        · exact .inl ⟨p, hp, he⟩
      · exact .inr h
/-- Whichever home writes are kept, the log stays. -/
theorem LB.settle {h g sq : Nat} {pl : List Nat} {bl want bs : List ByteArray} (L : Lg h g pl bl want) (hz : LB h g sq pl bl want bs) {cs : List (Int × ByteArray)} (hc : ∀ p ∈ cs, p ∈ homeWs (1 + listsN h + g) pl bl) (ks : List Bool) : LB h g sq pl bl want (settleL bs cs ks) := by
  refine settle_ind _ cs ks bs hz fun b hb p hp => ?_
  obtain ⟨k, hk, hkh, e1, e2⟩ := homeWs_mem L (hc p hp)
  rw [e1, e2]
  exact hb.put_home L.le L.ll L.bll hk hkh (L.wsz hkh)
/-- All of them done: home is what was wanted. -/
theorem LB.all_home {h g sq : Nat} {pl : List Nat} {bl want bs : List ByteArray} (L : Lg h g pl bl want) (hz : LB h g sq pl bl want bs) : homesB (allL bs (homeWs (1 + listsN h + g) pl bl)) h g = want := by
  have hlen := hz.1.1
  refine List.ext_getElem (by rw [homesB_length, L.len]) fun i h1 h2 => ?_
  have hi : i < h := by rw [homesB_length] at h1; exact h1
  have e1 : (homesB (allL bs (homeWs (1 + listsN h + g) pl bl)) h g)[i] = blk (allL bs (homeWs (1 + listsN h + g) pl bl)) (homeAt h g i) := by simp [homesB]
  have e2 : want[i] = blk want i := by
    unfold blk
    rw [List.getD_eq_getElem?_getD, List.getElem?_eq_getElem h2]
    rfl
  rw [e1, e2]
  show (allL bs _).getD (homeAt h g i) ⟨#[]⟩ = _
  rw [all_last _ _ _ (by rw [hlen]; unfold homeAt; omega)]
  have hsame : ∀ p ∈ homeWs (1 + listsN h + g) pl bl, p.1 = ((homeAt h g i : Nat) : Int) → p.2 = blk want i := fun p hp he => by
    obtain ⟨k, hk, hkh, a1, a2⟩ := homeWs_mem L hp
    rw [a1] at he
    have : k = i := by unfold homeAt at he; omega
    rw [a2, this]
  refine lastTo_all _ _ _ _ hsame ?_
  by_cases hp : i ∈ pl
  · exact .inl (homeWs_has hp)
  · exact .inr (hz.2.2.2.2 i hi hp)

/-- Where the end of a commit has been broken off. -/
structure EndS (h g sq : Nat) (pl : List Nat) (bl want : List ByteArray) (x : D × Int) : Prop where
  any : ∀ ks, LB h g sq pl bl want (settleL x.1.bs x.1.cs ks) ∨ ZB h g want (settleL x.1.bs x.1.cs ks)
  ok : x.2 = 0 → x.1.cs = [] ∧ ZB h g want x.1.bs ∧ x.1.dead = false
  bad : x.2 ≠ 0 → x.2 = 16
  left : -1 ≤ x.1.left
theorem end_run {h g sq : Nat} {pl : List Nat} {bl want : List ByteArray} (L : Lg h g pl bl want) (hh : h ≤ 512) (d : D) (hd : d.dead = false) (hl : -1 ≤ d.left) (hc : d.cs = []) (hz : LB h g sq pl bl want d.bs) (hpl : pl.length ≤ 512) :
    EndS h g sq pl bl want (runD (d, 0) (endSteps (1 + listsN h + g) pl bl)) ∧ (d.left = -1 → (runD (d, 0) (endSteps (1 + listsN h + g) pl bl)).2 = 0) := by
  have hlen := hz.1.1
  have e0 : endSteps (1 + listsN h + g) pl bl = putsL (homeWs (1 + listsN h + g) pl bl) ++ ([.flush] ++ (putsL [((0 : Nat), zeroB)] ++ [.flush])) := by
    unfold endSteps
    rw [homeSteps_puts]
    simp only [List.append_assoc]
    rfl
  rw [e0, runD_app]
  have hwl : (homeWs (1 + listsN h + g) pl bl).length = pl.length := by simp [homeWs]
  obtain ⟨j, hj, h1, h2, h3, h4, h5, h6⟩ := run_puts (homeWs (1 + listsN h + g) pl bl) d hd hl (fun p hp => by
    obtain ⟨k, hk, hkh, a1, a2⟩ := homeWs_mem L hp
    rw [a1, a2]
    exact ⟨⟨by omega, by unfold homeAt; omega⟩, L.wsz hkh⟩) (by rw [hc, hwl]; simp; omega)
  generalize runD (d, 0) (putsL (homeWs (1 + listsN h + g) pl bl)) = x1 at h1 h2 h3 h4 h5 h6
  obtain ⟨d1, q1⟩ := x1
  dsimp only at h1 h2 h3 h4 h5 h6
  rw [hc, List.nil_append] at h2
  have hset : ∀ ks, LB h g sq pl bl want (settleL d1.bs d1.cs ks) := fun ks => by
    rw [h1, h2]
    exact hz.settle L (fun p hp => List.mem_of_mem_take hp) ks
  by_cases hq : q1 = 0
  · subst hq
    obtain ⟨rfl, hd1⟩ := h4 rfl
    rw [runD_app]
    show EndS _ _ _ _ _ _ (runD (stepD (d1, 0) .flush) _) ∧ _
    rcases step_flush d1 hd1 h3 with ⟨f1, f2, f3, f4, f5, f6⟩ | ⟨f1, f2, f3, f4, f5⟩
    · have f6' := fun hm => f6 ((h6 hm).2)
      show EndS h g sq pl bl want (runD (stepD (d1, 0) .flush) (putsL [((0 : Nat), zeroB)] ++ [.flush])) ∧ (d.left = -1 → (runD (stepD (d1, 0) .flush) (putsL [((0 : Nat), zeroB)] ++ [.flush])).2 = 0)
      generalize stepD (d1, 0) .flush = x2 at f1 f2 f3 f4 f5 f6'
      obtain ⟨d2, q2⟩ := x2
      dsimp only at f1 f2 f3 f4 f5 f6'
      subst f1
      rw [h1, h2, List.take_of_length_le (Nat.le_refl _)] at f2
      have hLB2 : LB h g sq pl bl want d2.bs := by
        rw [f2]
        exact hz.settle L (fun p hp => hp) _
      have hW2 : homesB d2.bs h g = want := by rw [f2]; exact hz.all_home L
      have hlen2 := hLB2.1.1
      rw [runD_app]
      obtain ⟨j2, hj2, k1, k2, k3, k4, k5, k6⟩ := run_puts [(((0 : Nat) : Int), zeroB)] d2 f4 f5 (fun p hp => by
        obtain rfl : p = (((0 : Nat) : Int), zeroB) := by simpa using hp
        exact ⟨⟨by omega, by omega⟩, zeroB_size⟩) (by rw [f3]; simp)
      generalize runD (d2, 0) (putsL [(((0 : Nat) : Int), zeroB)]) = x3 at k1 k2 k3 k4 k5 k6
      obtain ⟨d3, q3⟩ := x3
      dsimp only at k1 k2 k3 k4 k5 k6
      rw [f3, List.nil_append] at k2
      have hset3 : ∀ ks, LB h g sq pl bl want (settleL d3.bs d3.cs ks) ∨ ZB h g want (settleL d3.bs d3.cs ks) := fun ks => by
        rw [k1, k2]
        have hz2 : ZB h g want (put d2.bs 0 zeroB) := hLB2.clear hW2
        have key := settle_ind (fun b => b = d2.bs ∨ b = put d2.bs 0 zeroB) ([(((0 : Nat) : Int), zeroB)].take j2) ks d2.bs (.inl rfl) (fun b hb p hp => by
          obtain rfl : p = (((0 : Nat) : Int), zeroB) := by simpa using List.mem_of_mem_take hp
          rcases hb with rfl | rfl
          · exact .inr rfl
          · refine .inr ?_
            show put (put d2.bs 0 zeroB) 0 zeroB = put d2.bs 0 zeroB
            have h0 : at_ d2.bs 0 := ⟨by omega, by omega⟩
            rw [put_yes h0, put_yes ⟨by omega, by rw [List.length_set]; omega⟩]
            simp)
        rcases key with key | key
        · rw [key]; exact .inl hLB2
        · rw [key]; exact .inr hz2
      by_cases hq3 : q3 = 0
      · subst hq3
        obtain ⟨rfl, hd3⟩ := k4 rfl
        show EndS h g sq pl bl want (stepD (d3, 0) .flush) ∧ (d.left = -1 → (stepD (d3, 0) .flush).2 = 0)
        rcases step_flush d3 hd3 k3 with ⟨g1, g2, g3, g4, g5, g6⟩ | ⟨g1, g2, g3, g4, g5⟩
        · have hz3 : ZB h g want (stepD (d3, 0) .flush).1.bs := by
            rw [g2, k1, k2]
            exact hLB2.clear hW2
          refine ⟨⟨fun ks => .inr ?_, fun _ => ⟨g3, hz3, g4⟩, fun hn => absurd g1 hn, g5⟩, fun _ => g1⟩
          rw [g3, settleL_nil]
          exact hz3
        · refine ⟨⟨fun ks => ?_, fun h0 => by rw [g1] at h0; exact absurd h0 (by decide), fun _ => g1, g5⟩, fun hm => ?_⟩
          · rw [g2, g3]; exact hset3 ks
          · have := (k6 (f6' hm)).2; omega
      · show EndS h g sq pl bl want (runD (d3, q3) [.flush]) ∧ (d.left = -1 → (runD (d3, q3) [.flush]).2 = 0)
        rw [runD_err hq3]
        exact ⟨⟨hset3, fun h0 => absurd h0 hq3, k5, k3⟩, fun hm => (k6 (f6' hm)).1⟩
    · have hne : (stepD (d1, 0) .flush).2 ≠ 0 := by rw [f1]; decide
      show EndS h g sq pl bl want (runD (stepD (d1, 0) .flush) (putsL [((0 : Nat), zeroB)] ++ [.flush])) ∧ (d.left = -1 → (runD (stepD (d1, 0) .flush) (putsL [((0 : Nat), zeroB)] ++ [.flush])).2 = 0)
      rw [runD_err hne]
      refine ⟨⟨fun ks => .inl ?_, fun h0 => absurd h0 hne, fun _ => f1, f5⟩, fun hm => ?_⟩
      · rw [f2, f3]; exact hset ks
      · have := (h6 hm).2; omega
  · rw [runD_err hq]
    exact ⟨⟨fun ks => .inl (hset ks), fun h0 => absurd h0 hq, h5, h3⟩, fun hm => (h6 hm).1⟩

end Go.Proofs.Ytlpijikhbjkmfaa

/-
  A log's steps, broken off anywhere.
-/
namespace Go.Proofs.Ytlpijikhbjkmfaa
open Go.RowKit

def rowWs (a : Nat) (bs : List ByteArray) : List (Int × ByteArray) := (List.range bs.length).map fun t => (((a + t : Nat) : Int), blk bs t)
theorem rowSteps_puts (a : Nat) (bs : List ByteArray) : rowSteps a bs = putsL (rowWs a bs) := by
  unfold rowSteps stepsL putsL rowWs
  rw [List.map_map]
  rfl
theorem putsL_app (a b : List (Int × ByteArray)) : putsL (a ++ b) = putsL a ++ putsL b := by simp [putsL]
theorem rowWs_mem {a : Nat} {bs : List ByteArray} {p : Int × ByteArray} (hp : p ∈ rowWs a bs) : ∃ t, t < bs.length ∧ p.1 = ((a + t : Nat) : Int) ∧ p.2 = blk bs t := by
  obtain ⟨t, ht, rfl⟩ := List.mem_map.1 hp
  exact ⟨t, List.mem_range.1 ht, rfl, rfl⟩
theorem rowWs_has {a : Nat} {bs : List ByteArray} {t : Nat} (ht : t < bs.length) : ∃ p ∈ rowWs a bs, p.1 = ((a + t : Nat) : Int) := ⟨_, List.mem_map.2 ⟨t, List.mem_range.2 ht, rfl⟩, rfl⟩
theorem blk_mem {bs : List ByteArray} {t : Nat} (ht : t < bs.length) : blk bs t ∈ bs := by
  unfold blk
  rw [List.getD_eq_getElem?_getD, List.getElem?_eq_getElem ht]
  exact List.getElem_mem _
/-- Where the log of a commit has been broken off. -/
structure LogS (h g sq : Nat) (pl : List Nat) (bl now want : List ByteArray) (x : D × Int) : Prop where
  any : ∀ ks, ZB h g now (settleL x.1.bs x.1.cs ks) ∨ LB h g sq pl bl want (settleL x.1.bs x.1.cs ks)
  ok : x.2 = 0 → x.1.cs = [] ∧ LB h g sq pl bl want x.1.bs ∧ x.1.dead = false
  bad : x.2 ≠ 0 → x.2 = 16
  left : -1 ≤ x.1.left
theorem log_run {h g sq : Nat} {pl : List Nat} {bl now want : List ByteArray} (L : Lg h g pl bl want) (hh : 1 ≤ h ∧ h ≤ 512) (hg : g ≤ 256) (hlb : ∀ s ∈ listB pl, s.size = 128) (hss : (sealB sq pl bl).size = 128) (hsame : ∀ i, i < h → i ∉ pl → blk now i = blk want i) (d : D) (hd : d.dead = false) (hl : -1 ≤ d.left) (hc : d.cs = []) (hz : ZB h g now d.bs) :
    LogS h g sq pl bl now want (runD (d, 0) (logSteps h sq pl bl)) ∧ (d.left = -1 → (runD (d, 0) (logSteps h sq pl bl)).2 = 0 ∧ (runD (d, 0) (logSteps h sq pl bl)).1.left = -1) := by
  have hlen := hz.1.1
  have hln : listsN h ≤ 8 := by unfold listsN; omega
  have hbll := L.bll
  have hle := L.le
  have hll := L.ll
  have hblz : ∀ t, t < bl.length → (blk bl t).size = 128 := fun t ht => by
    have hm := blk_mem ht
    rw [L.bl] at hm
    obtain ⟨k, hk, e⟩ := List.mem_map.1 hm
    rw [← L.bl] at e
    rw [← e]
    exact L.wsz (L.lt k hk)
  have e0 : logSteps h sq pl bl = putsL (rowWs 1 (listB pl) ++ rowWs (1 + listsN h) bl) ++ ([.flush] ++ (putsL [((0 : Nat), sealB sq pl bl)] ++ [.flush])) := by
    unfold logSteps
    rw [rowSteps_puts, rowSteps_puts, putsL_app]
    simp only [List.append_assoc]
    rfl
  rw [e0, runD_app]
  obtain ⟨ws, hws⟩ : ∃ ws, ws = rowWs 1 (listB pl) ++ rowWs (1 + listsN h) bl := ⟨_, rfl⟩
  have hmem : ∀ p ∈ ws, (∃ t, t < (listB pl).length ∧ p.1 = ((1 + t : Nat) : Int) ∧ p.2 = blk (listB pl) t) ∨ (∃ t, t < bl.length ∧ p.1 = ((1 + listsN h + t : Nat) : Int) ∧ p.2 = blk bl t) := fun p hp => by
    rw [hws] at hp
    rcases List.mem_append.1 hp with hp | hp
    · exact .inl (rowWs_mem hp)
    · exact .inr (rowWs_mem hp)
  have hwl : ws.length = (listB pl).length + bl.length := by rw [hws]; simp [rowWs]
  have hplace : ∀ p ∈ ws, ∃ i : Nat, p.1 = (i : Int) ∧ 1 ≤ i ∧ i < 1 + listsN h + g ∧ p.2.size = 128 := fun p hp => by
    rcases hmem p hp with ⟨t, ht, a1, a2⟩ | ⟨t, ht, a1, a2⟩
    · exact ⟨1 + t, a1, by omega, by omega, by rw [a2]; exact hlb _ (blk_mem ht)⟩
    · exact ⟨1 + listsN h + t, a1, by omega, by omega, by rw [a2]; exact hblz t ht⟩
  have hasl : ∀ t, t < (listB pl).length → ∃ p ∈ ws, p.1 = ((1 + t : Nat) : Int) := fun t ht => by
    obtain ⟨p, hp, e⟩ := rowWs_has (a := 1) ht
    exact ⟨p, by rw [hws]; exact List.mem_append_left _ hp, e⟩
  have hasb : ∀ t, t < bl.length → ∃ p ∈ ws, p.1 = ((1 + listsN h + t : Nat) : Int) := fun t ht => by
    obtain ⟨p, hp, e⟩ := rowWs_has (a := 1 + listsN h) ht
    exact ⟨p, by rw [hws]; exact List.mem_append_right _ hp, e⟩
  rw [← hws]
  clear hws e0
  have hzs : ∀ (cs : List (Int × ByteArray)), (∀ p ∈ cs, p ∈ ws) → ∀ ks, ZB h g now (settleL d.bs cs ks) := fun cs hcs ks => settle_ind _ cs ks d.bs hz fun b hb p hp => by
    obtain ⟨i, a1, a2, a3, a4⟩ := hplace p (hcs p hp)
    rw [a1]
    exact hb.put_log hh.1 a2 a3 a4
  obtain ⟨j, hj, h1, h2, h3, h4, h5, h6⟩ := run_puts ws d hd hl (fun p hp => by
    obtain ⟨i, a1, a2, a3, a4⟩ := hplace p hp
    rw [a1]
    exact ⟨⟨by omega, by omega⟩, a4⟩) (by rw [hc, hwl]; simp; omega)
  generalize runD (d, 0) (putsL ws) = x1 at h1 h2 h3 h4 h5 h6
  obtain ⟨d1, q1⟩ := x1
  dsimp only at h1 h2 h3 h4 h5 h6
  rw [hc, List.nil_append] at h2
  have hset : ∀ ks, ZB h g now (settleL d1.bs d1.cs ks) := fun ks => by
    rw [h1, h2]
    exact hzs _ (fun p hp => List.mem_of_mem_take hp) ks
  by_cases hq : q1 = 0
  · subst hq
    obtain ⟨rfl, hd1⟩ := h4 rfl
    show LogS h g sq pl bl now want (runD (stepD (d1, 0) .flush) (putsL [((0 : Nat), sealB sq pl bl)] ++ [.flush])) ∧ (d.left = -1 → (runD (stepD (d1, 0) .flush) (putsL [((0 : Nat), sealB sq pl bl)] ++ [.flush])).2 = 0 ∧ (runD (stepD (d1, 0) .flush) (putsL [((0 : Nat), sealB sq pl bl)] ++ [.flush])).1.left = -1)
    rcases step_flush d1 hd1 h3 with ⟨f1, f2, f3, f4, f5, f6⟩ | ⟨f1, f2, f3, f4, f5⟩
    · have f6' := fun hm => f6 ((h6 hm).2)
      generalize stepD (d1, 0) .flush = x2 at f1 f2 f3 f4 f5 f6'
      obtain ⟨d2, q2⟩ := x2
      dsimp only at f1 f2 f3 f4 f5 f6'
      subst f1
      rw [h1, h2, List.take_of_length_le (Nat.le_refl _)] at f2
      have hZ2 : ZB h g now d2.bs := by
        rw [f2]
        exact hzs ws (fun p hp => hp) _
      have hlen2 := hZ2.1.1
      have hl2 : ∀ t, t < (listB pl).length → blk d2.bs (1 + t) = blk (listB pl) t := fun t ht => by
        rw [f2]
        show (allL d.bs ws).getD (1 + t) ⟨#[]⟩ = _
        rw [all_last _ _ _ (by omega)]
        refine lastTo_all _ _ _ _ (fun p hp e => ?_) (.inl (hasl t ht))
        rcases hmem p hp with ⟨t2, ht2, a1, a2⟩ | ⟨t2, ht2, a1, a2⟩
        · rw [a2, show t2 = t by omega]
        · omega
      have hb2 : ∀ t, t < bl.length → blk d2.bs (1 + listsN h + t) = blk bl t := fun t ht => by
        rw [f2]
        show (allL d.bs ws).getD (1 + listsN h + t) ⟨#[]⟩ = _
        rw [all_last _ _ _ (by omega)]
        refine lastTo_all _ _ _ _ (fun p hp e => ?_) (.inl (hasb t ht))
        rcases hmem p hp with ⟨t2, ht2, a1, a2⟩ | ⟨t2, ht2, a1, a2⟩
        · omega
        · rw [a2, show t2 = t by omega]
      have hLB := hZ2.seal (sq := sq) hl2 hb2 hle hll hbll hsame hss
      rw [runD_app]
      obtain ⟨j2, hj2, k1, k2, k3, k4, k5, k6⟩ := run_puts [(((0 : Nat) : Int), sealB sq pl bl)] d2 f4 f5 (fun p hp => by
        obtain rfl : p = (((0 : Nat) : Int), sealB sq pl bl) := by simpa using hp
        exact ⟨⟨by omega, by omega⟩, hss⟩) (by rw [f3]; simp)
      generalize runD (d2, 0) (putsL [(((0 : Nat) : Int), sealB sq pl bl)]) = x3 at k1 k2 k3 k4 k5 k6
      obtain ⟨d3, q3⟩ := x3
      dsimp only at k1 k2 k3 k4 k5 k6
      rw [f3, List.nil_append] at k2
      have hset3 : ∀ ks, ZB h g now (settleL d3.bs d3.cs ks) ∨ LB h g sq pl bl want (settleL d3.bs d3.cs ks) := fun ks => by
        rw [k1, k2]
        have key := settle_ind (fun b => b = d2.bs ∨ b = put d2.bs 0 (sealB sq pl bl)) ([(((0 : Nat) : Int), sealB sq pl bl)].take j2) ks d2.bs (.inl rfl) (fun b hb p hp => by
          obtain rfl : p = (((0 : Nat) : Int), sealB sq pl bl) := by simpa using List.mem_of_mem_take hp
          rcases hb with rfl | rfl
          · exact .inr rfl
          · refine .inr ?_
            show put (put d2.bs 0 (sealB sq pl bl)) 0 (sealB sq pl bl) = put d2.bs 0 (sealB sq pl bl)
            have h0 : at_ d2.bs 0 := ⟨by omega, by omega⟩
            rw [put_yes h0, put_yes ⟨by omega, by rw [List.length_set]; omega⟩]
            simp)
        rcases key with key | key
        · rw [key]; exact .inl hZ2
        · rw [key]; exact .inr hLB
      by_cases hq3 : q3 = 0
      · subst hq3
        obtain ⟨rfl, hd3⟩ := k4 rfl
        show LogS h g sq pl bl now want (stepD (d3, 0) .flush) ∧ (d.left = -1 → (stepD (d3, 0) .flush).2 = 0 ∧ (stepD (d3, 0) .flush).1.left = -1)
        rcases step_flush d3 hd3 k3 with ⟨g1, g2, g3, g4, g5, g6⟩ | ⟨g1, g2, g3, g4, g5⟩
        · have hz3 : LB h g sq pl bl want (stepD (d3, 0) .flush).1.bs := by
            rw [g2, k1, k2]
            exact hLB
          refine ⟨⟨fun ks => .inr ?_, fun _ => ⟨g3, hz3, g4⟩, fun hn => absurd g1 hn, g5⟩, fun hm => ⟨g1, g6 (k6 (f6' hm)).2⟩⟩
          rw [g3, settleL_nil]
          exact hz3
        · refine ⟨⟨fun ks => ?_, fun h0 => by rw [g1] at h0; exact absurd h0 (by decide), fun _ => g1, g5⟩, fun hm => ?_⟩
          · rw [g2, g3]; exact hset3 ks
          · have := (k6 (f6' hm)).2; omega
      · show LogS h g sq pl bl now want (runD (d3, q3) [.flush]) ∧ (d.left = -1 → (runD (d3, q3) [.flush]).2 = 0 ∧ (runD (d3, q3) [.flush]).1.left = -1)
        rw [runD_err hq3]
        exact ⟨⟨hset3, fun h0 => absurd h0 hq3, k5, k3⟩, fun hm => absurd (k6 (f6' hm)).1 hq3⟩
    · have hne : (stepD (d1, 0) .flush).2 ≠ 0 := by rw [f1]; decide
      rw [runD_err hne]
      refine ⟨⟨fun ks => .inl ?_, fun h0 => absurd h0 hne, fun _ => f1, f5⟩, fun hm => ?_⟩
      · rw [f2, f3]; exact hset ks
      · have := (h6 hm).2; omega
  · rw [runD_err hq]
    exact ⟨⟨fun ks => .inl (hset ks), fun h0 => absurd h0 hq, h5, h3⟩, fun hm => absurd (h6 hm).1 hq⟩

end Go.Proofs.Ytlpijikhbjkmfaa

/-
  What a recovery does to a device whose log is whole, and to one with nothing logged.
-/
namespace Go.Proofs.Ytlpijikhbjkmfaa
open Go.RowKit

theorem sealB_list (sq : Nat) (pl : List Nat) (bl : List ByteArray) : (sealB sq pl bl).data.toList = [65, 87, 76, 49] ++ (beL sq 8 ++ (beL pl.length 2 ++ (beL (crc (placesL pl ++ flatL bl)) 4 ++ List.replicate 110 0))) := by
  unfold sealB padL
  rw [mkB_list]
  simp only [List.length_append, beL_length, List.append_assoc]
  rfl
theorem sealB_size (sq : Nat) (pl : List Nat) (bl : List ByteArray) : (sealB sq pl bl).size = 128 := by
  have h : (sealB sq pl bl).data.toList.length = 128 := by
    rw [sealB_list]
    simp [beL_length]
  rw [Array.length_toList] at h
  exact h
theorem seal_seq {sq : Nat} (h : sq < 256 ^ 8) (pl : List Nat) (bl : List ByteArray) : neL ((sealB sq pl bl).extract 4 12).data.toList = sq := by
  rw [sub_list, sealB_list, List.drop_left' (by rfl), List.take_left' (by rw [beL_length])]
  exact neL_beL 8 sq h
theorem seal_cnt (sq : Nat) {pl : List Nat} (h : pl.length < 256 ^ 2) (bl : List ByteArray) : neL ((sealB sq pl bl).extract 12 14).data.toList = pl.length := by
  rw [sub_list, sealB_list, ← List.append_assoc, List.drop_left' (by simp [beL_length]), List.take_left' (by rw [beL_length])]
  exact neL_beL 2 _ h
theorem seal_not_zero (sq : Nat) (pl : List Nat) (bl : List ByteArray) : sealB sq pl bl ≠ zeroB := by
  intro e
  have h1 := congrArg (fun z : ByteArray => z.data.toList.headD 0) e
  rw [sealB_list] at h1
  have h2 : zeroB.data.toList.headD 0 = 0 := by decide +kernel
  rw [h2] at h1
  exact absurd (show (65 : UInt8) = 0 from h1) (by decide)
theorem readD_clean {d : D} (hd : d.dead = false) (hc : d.cs = []) {i : Nat} (hi : i < d.bs.length) : readD d (i : Int) = (blk d.bs i, 0) := by
  unfold readD
  rw [if_neg (by rw [hd]; exact Bool.false_ne_true), if_pos ⟨by omega, by omega⟩, hc]
  rfl
theorem blocksI_nat {h g : Nat} (hh : 1 ≤ h ∧ h ≤ 512) (hg : 1 ≤ g ∧ g ≤ 256) : blocksI h g = ((1 + listsN h + g + h : Nat) : Int) := by
  unfold blocksI
  rw [if_neg (by omega)]
  unfold listsN
  omega
theorem wrong_BB {d : D} {h g : Nat} (hh : 1 ≤ h ∧ h ≤ 512) (hg : 1 ≤ g ∧ g ≤ 256) (hB : BB h g d.bs) : wrongE d h g = 0 := by
  unfold wrongE
  rw [blocksI_nat hh hg, if_neg (by omega), if_neg (by rw [hB.1]; exact fun h => h rfl)]
/-- Nothing logged: nothing to do. -/
theorem rec_Z {d : D} {h g : Nat} {img : List ByteArray} (hh : 1 ≤ h ∧ h ≤ 512) (hg : 1 ≤ g ∧ g ≤ 256) (hd : d.dead = false) (hc : d.cs = []) (hz : ZB h g img d.bs) : recoverD d h g = (d, 0) := by
  have hlen := hz.1.1
  have h0 := wrong_BB hh hg hz.1
  have hb : headB d = zeroB := by
    unfold headB
    rw [show (0 : Int) = ((0 : Nat) : Int) from rfl, readD_clean hd hc (by omega)]
    exact hz.2.1
  unfold recoverD
  rw [if_neg (by rw [h0]; exact fun h => h rfl), if_neg (by unfold loadE; rw [if_neg (by rw [hd]; exact Bool.false_ne_true), if_pos hb]; exact fun h => h rfl), if_pos hb]
/-- And home is what is there. -/
theorem home_Z {d : D} {h g : Nat} (hh : 1 ≤ h ∧ h ≤ 512) (hg : 1 ≤ g ∧ g ≤ 256) (hd : d.dead = false) (hc : d.cs = []) {img : List ByteArray} (hz : ZB h g img d.bs) : homeD d h g = (img, 0) := by
  have h0 := wrong_BB hh hg hz.1
  unfold homeD
  rw [if_neg (by rw [h0]; exact fun h => h rfl), if_neg (by rw [hd]; exact Bool.false_ne_true)]
  simp only [Int.toNat_natCast]
  rw [← hz.2.2]
  congr 1
  unfold homeL homesB
  refine List.map_congr_left fun i hi => ?_
  have hi := List.mem_range.1 hi
  rw [readD_clean hd hc (by rw [hz.1.1]; unfold homeAt; omega)]

end Go.Proofs.Ytlpijikhbjkmfaa

/-
  A recovery reads of a whole log what was logged.
-/
namespace Go.Proofs.Ytlpijikhbjkmfaa
open Go.RowKit

theorem placesL_app (a b : List Nat) : placesL (a ++ b) = placesL a ++ placesL b := by simp [placesL]
theorem flatL_app (a b : List ByteArray) : flatL (a ++ b) = flatL a ++ flatL b := by simp [flatL]
theorem flatL_one (s : ByteArray) : flatL [s] = s.data.toList := by simp [flatL]
theorem pieces_full (l : List Nat) : ∀ k, 64 * k ≤ l.length → flatL ((List.range k).map (pieceB l)) = placesL (l.take (64 * k))
  | 0, _ => by simp [flatL, placesL]
  | k + 1, h => by
    have hl : ((l.drop (64 * k)).take 64).length = 64 := by rw [List.length_take, List.length_drop]; omega
    rw [List.range_succ, List.map_append, flatL_app, pieces_full l k (by omega)]
    show _ ++ flatL [pieceB l k] = _
    rw [flatL_one]
    unfold pieceB padL
    rw [mkB_list, placesL_length, hl, show 128 - 2 * 64 = 0 from rfl, List.replicate_zero, List.append_nil, ← placesL_app, show 64 * (k + 1) = 64 * k + 64 by omega, List.take_add]
theorem flat_listB (l : List Nat) : ∃ z, flatL (listB l) = placesL l ++ List.replicate z 0 := by
  unfold listB
  by_cases h : l.length % 64 = 0
  · refine ⟨0, ?_⟩
    rw [pieces_full l _ (by omega), List.take_of_length_le (by omega)]
    simp
  · obtain ⟨q, hq⟩ : ∃ q, q = l.length / 64 := ⟨_, rfl⟩
    have hn : (l.length + 63) / 64 = q + 1 := by omega
    rw [hn, List.range_succ, List.map_append, flatL_app, pieces_full l q (by omega)]
    refine ⟨128 - (placesL ((l.drop (64 * q)).take 64)).length, ?_⟩
    show _ ++ flatL [pieceB l q] = _
    rw [flatL_one]
    unfold pieceB padL
    rw [mkB_list, ← List.append_assoc, ← placesL_app, List.take_of_length_le (l := l.drop (64 * q)) (by rw [List.length_drop]; omega), List.take_append_drop]
theorem beL2_inj {a b : Nat} (ha : a < 256 ^ 2) (hb : b < 256 ^ 2) (h : beL a 2 = beL b 2) : a = b := by
  rw [← neL_beL 2 a ha, ← neL_beL 2 b hb, h]
theorem placesL_inj : ∀ (a b : List Nat), (∀ x ∈ a, x < 256 ^ 2) → (∀ x ∈ b, x < 256 ^ 2) → placesL a = placesL b → a = b
  | [], [], _, _, _ => rfl
  | [], y :: b, _, _, h => by
    have := congrArg List.length h
    rw [placesL_length, placesL_length] at this
    simp at this
  | x :: a, [], _, _, h => by
    have := congrArg List.length h
    rw [placesL_length, placesL_length] at this
    simp at this
  | x :: a, y :: b, ha, hb, h => by
    have h2 : beL x 2 ++ placesL a = beL y 2 ++ placesL b := h
    obtain ⟨e1, e2⟩ := List.append_inj h2 (by rw [beL_length, beL_length])
    rw [beL2_inj (ha x List.mem_cons_self) (hb y List.mem_cons_self) e1, placesL_inj a b (fun z hz => ha z (List.mem_cons_of_mem _ hz)) (fun z hz => hb z (List.mem_cons_of_mem _ hz)) e2]
theorem readL_clean {d : D} (hd : d.dead = false) (hc : d.cs = []) (a k : Nat) (hk : a + k ≤ d.bs.length) : readL d a k = (List.range k).map fun i => blk d.bs (a + i) := by
  unfold readL
  refine List.map_congr_left fun i hi => ?_
  have hi := List.mem_range.1 hi
  rw [readD_clean hd hc (by omega)]
theorem range_blk (l : List ByteArray) : (List.range l.length).map (blk l) = l := by
  refine List.ext_getElem (by simp) fun i h1 h2 => ?_
  simp [blk, List.getD_eq_getElem?_getD, h2]
/-- What a recovery reads of a log that is whole. -/
theorem read_L {d : D} {h g sq : Nat} {pl : List Nat} {bl want : List ByteArray} (L : Lg h g pl bl want) (hh : 1 ≤ h ∧ h ≤ 512) (hg : 1 ≤ g ∧ g ≤ 256) (hd : d.dead = false) (hc : d.cs = []) (hz : LB h g sq pl bl want d.bs) (hsq : sq < 256 ^ 8) :
    headB d = sealB sq pl bl ∧ cntN d = pl.length ∧ seqN d = sq ∧ plR d h = pl ∧ blR d h = bl := by
  obtain ⟨hB, h0, h1, h2, h3⟩ := hz
  have hlen := hB.1
  have hll := L.ll
  have hle := L.le
  have hbll := L.bll
  have hhd : headB d = sealB sq pl bl := by
    unfold headB
    rw [show (0 : Int) = ((0 : Nat) : Int) from rfl, readD_clean hd hc (by omega)]
    exact h0
  have hcn : cntN d = pl.length := by
    unfold cntN
    rw [hhd]
    exact seal_cnt sq (by omega) bl
  have hsn : seqN d = sq := by
    unfold seqN
    rw [hhd]
    exact seal_seq hsq pl bl
  refine ⟨hhd, hcn, hsn, ?_, ?_⟩
  · have hread : readL d 1 (listsN h) = listB pl ++ ((List.range (listsN h - (listB pl).length)).map fun i => blk d.bs (1 + ((listB pl).length + i))) := by
      rw [readL_clean hd hc _ _ (by omega), show listsN h = (listB pl).length + (listsN h - (listB pl).length) by omega, List.range_add, List.map_append, Nat.add_sub_cancel_left, List.map_map]
      congr 1
      conv => rhs; rw [← range_blk (listB pl)]
      exact List.map_congr_left fun i hi => h1 i (List.mem_range.1 hi)
    obtain ⟨z, hz2⟩ := flat_listB pl
    have hflat : (flatL (readL d 1 (listsN h))).take (2 * pl.length) = placesL pl := by
      rw [hread, flatL_app, hz2, List.append_assoc, List.take_left' (by rw [placesL_length])]
    have hsz : 2 * pl.length ≤ (mkB (flatL (readL d 1 (listsN h)))).size := by
      have := congrArg List.length hflat
      rw [List.length_take, placesL_length] at this
      rw [mkB_size]
      omega
    refine placesL_inj _ _ (fun x hx => ?_) (fun x hx => by have := L.lt x hx; omega) ?_
    · unfold plR at hx
      obtain ⟨k, _, rfl⟩ := List.mem_map.1 hx
      exact num2_lt _ _
    · unfold plR
      rw [hcn, placesL_num2 _ _ hsz, mkB_list]
      exact hflat
  · unfold blR
    rw [hcn, readL_clean hd hc _ _ (by omega), ← hbll]
    conv => rhs; rw [← range_blk bl]
    exact List.map_congr_left fun i hi => h2 i (List.mem_range.1 hi)

end Go.Proofs.Ytlpijikhbjkmfaa

/-
  A recovery of a whole log, and what a commit logs.
-/
namespace Go.Proofs.Ytlpijikhbjkmfaa
open Go.RowKit

theorem padL_size {l : List UInt8} (h : l.length ≤ 128) : (padL l).size = 128 := by
  unfold padL
  rw [mkB_size]
  simp
  omega
theorem listB_sizes (pl : List Nat) : ∀ s ∈ listB pl, s.size = 128 := by
  intro s hs
  unfold listB at hs
  obtain ⟨k, _, rfl⟩ := List.mem_map.1 hs
  unfold pieceB
  refine padL_size ?_
  rw [placesL_length, List.length_take]
  omega
theorem listB_length (pl : List Nat) : (listB pl).length = (pl.length + 63) / 64 := by simp [listB]
/-- A recovery of a whole log is its end's steps. -/
theorem rec_L {d : D} {h g sq : Nat} {pl : List Nat} {bl want : List ByteArray} (L : Lg h g pl bl want) (hh : 1 ≤ h ∧ h ≤ 512) (hg : 1 ≤ g ∧ g ≤ 256) (hd : d.dead = false) (hc : d.cs = []) (hz : LB h g sq pl bl want d.bs) (hsq : sq < 256 ^ 8) (hne : 1 ≤ pl.length) (hph : pl.length ≤ h) :
    recoverD d h g = runD (d, 0) (endSteps (1 + listsN h + g) pl bl) := by
  obtain ⟨e1, e2, e3, e4, e5⟩ := read_L L hh hg hd hc hz hsq
  have h0 := wrong_BB hh hg hz.1
  have hzr : headB d ≠ zeroB := by rw [e1]; exact seal_not_zero sq pl bl
  have hnil : pl ≠ [] := fun e => by rw [e] at hne; simp at hne
  have hhi : ¬ (h : Int) ≤ highI pl := by
    rw [high_iff pl hnil h]
    rintro ⟨x, hx, hle⟩
    have := L.lt x hx
    omega
  have hl : loadE d h g = 0 := by
    unfold loadE
    rw [if_neg (by rw [hd]; exact Bool.false_ne_true), if_neg hzr, e2, e4, e5, e3, if_neg (by have := L.le; omega), if_neg (fun hn => by
      rcases hn with hn | hn
      · exact hhi hn
      · exact hn e1)]
  unfold recoverD
  rw [if_neg (by rw [h0]; exact fun h => h rfl)]
  simp only [Int.toNat_natCast]
  rw [if_neg (by rw [hl]; exact fun h => h rfl), if_neg hzr, e4, e5]
/-- What a commit of want over now logs. -/
theorem Lg.of_changed {h g : Nat} {now want : List ByteArray} (hn : now.length = h) (hw : want.length = h) (hs : ∀ b ∈ want, b.size = 128) (hle : (changedL now want).length ≤ g) : Lg h g (changedL now want) ((changedL now want).map (blk want)) want := by
  have hlen : (changedL now want).length ≤ h := by
    unfold changedL
    refine Nat.le_trans (List.length_filter_le ..) ?_
    rw [List.length_range]
    omega
  refine ⟨fun k hk => ?_, rfl, hle, ?_, hw, hs⟩
  · unfold changedL at hk
    have := List.mem_range.1 (List.mem_filter.1 hk).1
    omega
  · rw [listB_length]
    unfold listsN
    omega
theorem changed_same {h : Nat} {now want : List ByteArray} (hn : now.length = h) (hw : want.length = h) : ∀ i, i < h → i ∉ changedL now want → blk now i = blk want i := by
  intro i hi hni
  have h1 : now[i]? = want[i]? := by
    apply Decidable.byContradiction
    intro hne
    exact hni (List.mem_filter.2 ⟨List.mem_range.2 (by omega), decide_eq_true hne⟩)
  unfold blk
  rw [List.getD_eq_getElem?_getD, List.getD_eq_getElem?_getD, h1]
theorem changed_none {h : Nat} {now want : List ByteArray} (hn : now.length = h) (hw : want.length = h) (he : (changedL now want).length = 0) : now = want := by
  have hnil := List.eq_nil_of_length_eq_zero he
  refine List.ext_getElem? fun i => ?_
  by_cases hi : i < h
  · have := changed_same hn hw i hi (by rw [hnil]; simp)
    unfold blk at this
    rw [List.getD_eq_getElem?_getD, List.getD_eq_getElem?_getD, List.getElem?_eq_getElem (by omega), List.getElem?_eq_getElem (by omega)] at this
    rw [List.getElem?_eq_getElem (by omega), List.getElem?_eq_getElem (by omega)]
    exact congrArg some this
  · rw [List.getElem?_eq_none (by omega), List.getElem?_eq_none (by omega)]

end Go.Proofs.Ytlpijikhbjkmfaa
