/-
  A deed: a commit broken off anywhere, crashes, recoveries broken off anywhere: all or nothing.
-/
import Derived.Test.YtlpijikhbjkmfaaG41
import Derived.Test.YtlpijikhbjkmfaaG05
import Derived.Test.YtlpijikhbjkmfaaG10
import Derived.Test.YtlpijikhbjkmfaaG32
import Derived.Test.YtlpijikhbjkmfaaG31
import Derived.Test.YtlpijikhbjkmfaaG29
import Derived.Test.YtlpijikhbjkmfaaG30
import Derived.Test.YtlpijikhbjkmfaaG25
import Derived.Test.YtlpijikhbjkmfaaG06
import Derived.Test.YtlpijikhbjkmfaaG34
namespace Go.Proofs.Ytlpijikhbjkmfaa
open Go.RowKit

/-- Home is now's (but not once a commit is done), or want's, or the log is whole. -/
def Pend (h g sq : Nat) (pl : List Nat) (bl now want : List ByteArray) (done : Bool) (bs : List ByteArray) : Prop :=
  (done = false ∧ ZB h g now bs) ∨ ZB h g want bs ∨ LB h g sq pl bl want bs
/-- So it is whichever writes a crash keeps. -/
def PendD (h g sq : Nat) (pl : List Nat) (bl now want : List ByteArray) (done : Bool) (d : D) : Prop := ∀ ks, Pend h g sq pl bl now want done (settleL d.bs d.cs ks)
/-- What holds of the commit that is under way. -/
structure Way (h g sq : Nat) (pl : List Nat) (bl now want : List ByteArray) : Prop where
  L : Lg h g pl bl want
  hh : 1 ≤ h ∧ h ≤ 512
  hg : 1 ≤ g ∧ g ≤ 256
  sq : sq < 256 ^ 8
  ne : 1 ≤ pl.length
  ph : pl.length ≤ h
/-- Settled: nothing in the cache, nothing logged, home is img. -/
structure SetD (h g : Nat) (img : List ByteArray) (d : D) : Prop where
  z : ZB h g img d.bs
  cs : d.cs = []
  live : d.dead = false
  left : -1 ≤ d.left
theorem homeL_Z {d : D} {h g : Nat} {img : List ByteArray} (S : SetD h g img d) : homeL d h g = img := by
  rw [← S.z.2.2]
  unfold homeL homesB
  refine List.map_congr_left fun i hi => ?_
  have hi := List.mem_range.1 hi
  rw [readD_clean S.live S.cs (by rw [S.z.1.1]; unfold homeAt; omega)]
/-- A commit over a settled device. -/
theorem commit_Z {d : D} {h g sq : Nat} {now want : List ByteArray} (hh : 1 ≤ h ∧ h ≤ 512) (hg : 1 ≤ g ∧ g ≤ 256) (hsq : sq < 256 ^ 8) (S : SetD h g now d) (hw : ImageP want (h : Int)) :
    (commitD d h g sq want = (d, 18, false)) ∨ (now = want ∧ commitD d h g sq want = (d, 0, true)) ∨
    (Way h g sq (changedL now want) ((changedL now want).map (blk want)) now want ∧ PendD h g sq (changedL now want) ((changedL now want).map (blk want)) now want (commitD d h g sq want).2.2 (commitD d h g sq want).1 ∧
      ((commitD d h g sq want).2.1 = 0 ∨ (commitD d h g sq want).2.1 = 16) ∧ ((commitD d h g sq want).2.1 = 0 → (commitD d h g sq want).2.2 = true ∧ SetD h g want (commitD d h g sq want).1)) := by
  have h0 := wrong_BB hh hg S.z.1
  have hlen := S.z.1.1
  have hnl : now.length = h := by rw [← S.z.2.2]; exact homesB_length _ _ _
  have hwl : want.length = h := by have := hw.2; omega
  have hcl : clearE d = 0 := by
    unfold clearE
    rw [show (0 : Int) = ((0 : Nat) : Int) from rfl, readD_clean S.live S.cs (by omega)]
    dsimp only
    rw [if_neg (fun hn => hn.2 S.z.2.1)]
    rfl
  have hhl := homeL_Z S
  by_cases hgt : g < (changedL now want).length
  · refine .inl ?_
    unfold commitD
    simp only [Int.toNat_natCast]
    rw [hhl, if_neg (by rw [h0]; exact fun h => h rfl), if_neg (fun h => h hw), if_neg (by rw [hcl]; exact fun h => h rfl), if_pos hgt]
  by_cases hnn : (changedL now want).length = 0
  · refine .inr (.inl ⟨changed_none hnl hwl hnn, ?_⟩)
    unfold commitD
    simp only [Int.toNat_natCast]
    rw [hhl, if_neg (by rw [h0]; exact fun h => h rfl), if_neg (fun h => h hw), if_neg (by rw [hcl]; exact fun h => h rfl), if_neg hgt, if_pos hnn]
  refine .inr (.inr ?_)
  have L : Lg h g (changedL now want) ((changedL now want).map (blk want)) want := Lg.of_changed hnl hwl hw.1 (by omega)
  have hph : (changedL now want).length ≤ h := by
    unfold changedL
    refine Nat.le_trans (List.length_filter_le ..) ?_
    rw [List.length_range]
    omega
  have hsame := changed_same hnl hwl
  have hE : commitD d h g sq want = if (runD (d, 0) (logSteps h sq (changedL now want) ((changedL now want).map (blk want)))).2 ≠ 0 then ((runD (d, 0) (logSteps h sq (changedL now want) ((changedL now want).map (blk want)))).1, (runD (d, 0) (logSteps h sq (changedL now want) ((changedL now want).map (blk want)))).2, false)
      else ((runD (d, 0) (logSteps h sq (changedL now want) ((changedL now want).map (blk want)) ++ endSteps (1 + listsN h + g) (changedL now want) ((changedL now want).map (blk want)))).1, (runD (d, 0) (logSteps h sq (changedL now want) ((changedL now want).map (blk want)) ++ endSteps (1 + listsN h + g) (changedL now want) ((changedL now want).map (blk want)))).2, true) := by
    unfold commitD
    simp only [Int.toNat_natCast]
    rw [hhl, if_neg (by rw [h0]; exact fun h => h rfl), if_neg (fun h => h hw), if_neg (by rw [hcl]; exact fun h => h rfl), if_neg hgt, if_neg hnn]
  generalize changedL now want = pl at hgt hnn L hph hsame hE ⊢
  generalize pl.map (blk want) = bl at L hE ⊢
  have hW : Way h g sq pl bl now want := ⟨L, hh, hg, hsq, by omega, hph⟩
  obtain ⟨GL, _⟩ := log_run (sq := sq) L hh hg.2 (listB_sizes pl) (sealB_size sq pl bl) hsame d S.live S.left S.cs S.z
  rw [runD_app] at hE
  generalize runD (d, 0) (logSteps h sq pl bl) = x1 at GL hE
  obtain ⟨d1, q1⟩ := x1
  dsimp only at hE
  by_cases hq : q1 = 0
  · subst hq
    rw [if_neg (fun h => h rfl)] at hE
    obtain ⟨o1, o2, o3⟩ := GL.ok rfl
    obtain ⟨GE, _⟩ := end_run (sq := sq) L hh.2 d1 o3 GL.left o1 o2 (by omega)
    rw [hE]
    refine ⟨hW, fun ks => ?_, ?_, fun h => ⟨rfl, ?_⟩⟩
    · rcases GE.any ks with h | h
      · exact .inr (.inr h)
      · exact .inr (.inl h)
    · by_cases hz : (runD (d1, 0) (endSteps (1 + listsN h + g) pl bl)).2 = 0
      · exact .inl hz
      · exact .inr (GE.bad hz)
    · obtain ⟨p1, p2, p3⟩ := GE.ok h
      exact ⟨p2, p1, p3, GE.left⟩
  · rw [if_pos hq] at hE
    rw [hE]
    refine ⟨hW, fun ks => ?_, .inr (GL.bad hq), fun h => absurd h hq⟩
    rcases GL.any ks with h | h
    · exact .inl ⟨rfl, h⟩
    · exact .inr (.inr h)
/-- A recovery of what a crash left, broken off anywhere. -/
theorem recover_pend {h g sq : Nat} {pl : List Nat} {bl now want : List ByteArray} {done : Bool} (W : Way h g sq pl bl now want) {d : D} (hd : d.dead = false) (hc : d.cs = []) (hl : -1 ≤ d.left) (hp : Pend h g sq pl bl now want done d.bs) :
    PendD h g sq pl bl now want done (recoverD d h g).1 ∧ (d.left = -1 → (recoverD d h g).2 = 0 ∧ ∃ img, ((done = false ∧ img = now) ∨ img = want) ∧ SetD h g img (recoverD d h g).1) := by
  rcases hp with ⟨hdn, hz⟩ | hz | hz
  · rw [rec_Z W.hh W.hg hd hc hz]
    refine ⟨fun ks => ?_, fun _ => ⟨rfl, now, .inl ⟨hdn, rfl⟩, hz, hc, hd, hl⟩⟩
    rw [hc, settleL_nil]
    exact .inl ⟨hdn, hz⟩
  · rw [rec_Z W.hh W.hg hd hc hz]
    refine ⟨fun ks => ?_, fun _ => ⟨rfl, want, .inr rfl, hz, hc, hd, hl⟩⟩
    rw [hc, settleL_nil]
    exact .inr (.inl hz)
  · rw [rec_L W.L W.hh W.hg hd hc hz W.sq W.ne W.ph]
    obtain ⟨GE, hm⟩ := end_run (sq := sq) W.L W.hh.2 d hd hl hc hz (by have := W.ph; have := W.hh; omega)
    refine ⟨fun ks => ?_, fun h => ?_⟩
    · rcases GE.any ks with h | h
      · exact .inr (.inr h)
      · exact .inr (.inl h)
    · obtain ⟨p1, p2, p3⟩ := GE.ok (hm h)
      exact ⟨hm h, want, .inr rfl, p2, p1, p3, GE.left⟩
/-- A crash, with so much left for the recovery behind it. -/
theorem crash_pend {h g sq : Nat} {pl : List Nat} {bl now want : List ByteArray} {done : Bool} (W : Way h g sq pl bl now want) {d : D} (hp : PendD h g sq pl bl now want done d) (ks : List Bool) (n : Int) :
    PendD h g sq pl bl now want done (recoverD (armD (crashD d ks) n) h g).1 ∧ PendD h g sq pl bl now want done (recoverD (crashD d ks) h g).1 ∧
      (recoverD (crashD d ks) h g).2 = 0 ∧ ∃ img, ((done = false ∧ img = now) ∨ img = want) ∧ SetD h g img (recoverD (crashD d ks) h g).1 := by
  have e : armD (crashD d ks) n = ⟨settleL d.bs d.cs ks, [], max n (-1), false⟩ := by
    unfold armD crashD
    rw [if_neg Bool.false_ne_true]
  rw [e]
  obtain ⟨h1, h2⟩ := recover_pend W (d := crashD d ks) rfl rfl (show (-1 : Int) ≤ -1 by decide) (hp ks)
  obtain ⟨h3, h4⟩ := h2 rfl
  exact ⟨(recover_pend W (d := ⟨settleL d.bs d.cs ks, [], max n (-1), false⟩) rfl rfl (by dsimp only; omega) (hp ks)).1, h1, h3, h4⟩

/-! ### The same, whatever is logged -/

def Pn (h g : Nat) (now want : List ByteArray) (done : Bool) (bs : List ByteArray) : Prop :=
  (done = false ∧ ZB h g now bs) ∨ ZB h g want bs ∨ ∃ sq pl bl, Way h g sq pl bl now want ∧ LB h g sq pl bl want bs
def PnD (h g : Nat) (now want : List ByteArray) (done : Bool) (d : D) : Prop := ∀ ks, Pn h g now want done (settleL d.bs d.cs ks)
theorem pn_of {h g sq : Nat} {pl : List Nat} {bl now want : List ByteArray} {done : Bool} {bs : List ByteArray} (W : Way h g sq pl bl now want) (hp : Pend h g sq pl bl now want done bs) : Pn h g now want done bs := by
  rcases hp with h | h | h
  · exact .inl h
  · exact .inr (.inl h)
  · exact .inr (.inr ⟨_, _, _, W, h⟩)
theorem pnD_of {h g sq : Nat} {pl : List Nat} {bl now want : List ByteArray} {done : Bool} {d : D} (W : Way h g sq pl bl now want) (hp : PendD h g sq pl bl now want done d) : PnD h g now want done d := fun ks => pn_of W (hp ks)
theorem pnD_settled {h g : Nat} {now want : List ByteArray} {done : Bool} {d : D} (S : SetD h g want d) : PnD h g now want done d := fun ks => by
  rw [S.cs, settleL_nil]
  exact .inr (.inl S.z)
theorem recover_pn {h g : Nat} {now want : List ByteArray} {done : Bool} (hh : 1 ≤ h ∧ h ≤ 512) (hg : 1 ≤ g ∧ g ≤ 256) {d : D} (hd : d.dead = false) (hc : d.cs = []) (hl : -1 ≤ d.left) (hp : Pn h g now want done d.bs) :
    PnD h g now want done (recoverD d h g).1 ∧ (d.left = -1 → (recoverD d h g).2 = 0 ∧ ∃ img, ((done = false ∧ img = now) ∨ img = want) ∧ SetD h g img (recoverD d h g).1) := by
  rcases hp with ⟨hdn, hz⟩ | hz | ⟨sq, pl, bl, W, hz⟩
  · rw [rec_Z hh hg hd hc hz]
    refine ⟨fun ks => ?_, fun _ => ⟨rfl, now, .inl ⟨hdn, rfl⟩, hz, hc, hd, hl⟩⟩
    rw [hc, settleL_nil]
    exact .inl ⟨hdn, hz⟩
  · rw [rec_Z hh hg hd hc hz]
    refine ⟨fun ks => ?_, fun _ => ⟨rfl, want, .inr rfl, hz, hc, hd, hl⟩⟩
    rw [hc, settleL_nil]
    exact .inr (.inl hz)
  · obtain ⟨h1, h2⟩ := recover_pend W (done := done) hd hc hl (.inr (.inr hz))
    exact ⟨pnD_of W h1, h2⟩
/-- A crash, a recovery with so much left or with no end; the last one settles. -/
theorem crash_pn {h g : Nat} {now want : List ByteArray} {done : Bool} (hh : 1 ≤ h ∧ h ≤ 512) (hg : 1 ≤ g ∧ g ≤ 256) {d : D} (hp : PnD h g now want done d) (ks : List Bool) (n : Int) :
    PnD h g now want done (recoverD (armD (crashD d ks) n) h g).1 ∧ PnD h g now want done (recoverD (crashD d ks) h g).1 ∧
      (recoverD (crashD d ks) h g).2 = 0 ∧ ∃ img, ((done = false ∧ img = now) ∨ img = want) ∧ SetD h g img (recoverD (crashD d ks) h g).1 := by
  have e : armD (crashD d ks) n = ⟨settleL d.bs d.cs ks, [], max n (-1), false⟩ := by
    unfold armD crashD
    rw [if_neg Bool.false_ne_true]
  rw [e]
  obtain ⟨h1, h2⟩ := recover_pn (done := done) hh hg (d := crashD d ks) rfl rfl (show (-1 : Int) ≤ -1 by decide) (hp ks)
  obtain ⟨h3, h4⟩ := h2 rfl
  exact ⟨(recover_pn (done := done) hh hg (d := ⟨settleL d.bs d.cs ks, [], max n (-1), false⟩) rfl rfl (by dsimp only; omega) (hp ks)).1, h1, h3, h4⟩
/-- Settled stays settled: home is read, a recovery changes nothing, an arming neither. -/
theorem SetD.calm {h g : Nat} {img : List ByteArray} {d : D} (S : SetD h g img d) (hh : 1 ≤ h ∧ h ≤ 512) (hg : 1 ≤ g ∧ g ≤ 256) : recoverD d h g = (d, 0) ∧ homeD d h g = (img, 0) := ⟨rec_Z hh hg S.live S.cs S.z, home_Z hh hg S.live S.cs S.z⟩
theorem SetD.arm {h g : Nat} {img : List ByteArray} {d : D} (S : SetD h g img d) (n : Int) : SetD h g img (armD d n) := by
  have e : armD d n = { d with left := max n (-1) } := by
    unfold armD
    rw [if_neg (by rw [S.live]; exact Bool.false_ne_true)]
  rw [e]
  exact ⟨S.z, S.cs, S.live, by dsimp only; omega⟩

end Go.Proofs.Ytlpijikhbjkmfaa

/-
  A log's device as it is made; commits and recoveries leave fit devices.
-/
namespace Go.Proofs.Ytlpijikhbjkmfaa
open Go.RowKit

theorem blk_zeros {n i : Nat} (hi : i < n) : blk (List.replicate n zeroB) i = zeroB := by
  unfold blk
  rw [List.getD_eq_getElem?_getD, List.getElem?_replicate, if_pos hi]
  rfl
theorem make_settled {h g : Nat} (hh : 1 ≤ h ∧ h ≤ 512) (hg : 1 ≤ g ∧ g ≤ 256) : (makeD h g).2 = 0 ∧ SetD h g (List.replicate h zeroB) (makeD h g).1 ∧ FitP (makeD h g).1 ∧ (makeD h g).1.left = -1 := by
  have hb := blocksI_nat hh hg
  have hl : listsN h ≤ 8 := by unfold listsN; omega
  have e : makeD h g = (⟨List.replicate (1 + listsN h + g + h) zeroB, [], -1, false⟩, 0) := by
    unfold makeD
    rw [hb, if_neg (by omega)]
    unfold newD
    rw [if_neg (by omega)]
    rfl
  rw [e]
  refine ⟨rfl, ⟨⟨⟨by simp, fun b hb => ?_⟩, blk_zeros (by omega), ?_⟩, rfl, rfl, show (-1 : Int) ≤ -1 by decide⟩, ?_, rfl⟩
  · rw [(List.mem_replicate.1 hb).2]; exact zeroB_size
  · unfold homesB
    refine List.ext_getElem (by simp) fun i h1 h2 => ?_
    have hi : i < h := by simpa using h1
    rw [List.getElem_map, List.getElem_range, List.getElem_replicate]
    exact blk_zeros (by unfold homeAt; omega)
  · refine ⟨⟨?_, ?_, by simp, by simp, by simp⟩, fun b hb => ?_, by simp [CsP]⟩
    · simp; omega
    · simp; omega
    · rw [(List.mem_replicate.1 hb).2]; exact zeroB_size
theorem fit_commit {d : D} (hf : FitP d) (x y : Int) (sq : Nat) (img : List ByteArray) : FitP (commitD d x y sq img).1 := by
  unfold commitD
  split
  · exact hf
  split
  · exact hf
  split
  · exact hf
  split
  · exact hf
  split
  · exact hf
  split
  · exact fit_run _ hf
  · exact fit_run _ hf
theorem left_commit {d : D} (hl : d.left ≤ 9223372036854775807) (x y : Int) (sq : Nat) (img : List ByteArray) : (commitD d x y sq img).1.left ≤ 9223372036854775807 := by
  unfold commitD
  split
  · exact hl
  split
  · exact hl
  split
  · exact hl
  split
  · exact hl
  split
  · exact hl
  split
  · exact left_run _ hl
  · exact left_run _ hl
theorem fit_recover {d : D} (hf : FitP d) (x y : Int) : FitP (recoverD d x y).1 := by
  unfold recoverD
  split
  · exact hf
  split
  · exact hf
  split
  · exact hf
  · exact fit_run _ hf
theorem left_recover {d : D} (hl : d.left ≤ 9223372036854775807) (x y : Int) : (recoverD d x y).1.left ≤ 9223372036854775807 := by
  unfold recoverD
  split
  · exact hl
  split
  · exact hl
  split
  · exact hl
  · exact left_run _ hl

end Go.Proofs.Ytlpijikhbjkmfaa

/-
  The deeds that WalAll is handed, as plain lists.
-/
namespace Go.Proofs.Ytlpijikhbjkmfaa
open Go.ChangeShapes Go.WideShapes Go.ChangeAt Go.RowKit Go.ChangeMaps Go.Joins Go.Deep

/-- What one crash keeps: a slice, and its truth values. -/
structure KR where
  K : Option Addr
  k : Nat
  kc : Nat
  ks : List Bool
  deriving Inhabited
def encK (l : List KR) : List Value := l.map fun r => .slice r.K r.k r.kc
theorem encK_length (l : List KR) : (encK l).length = l.length := by simp [encK]
theorem encK_get {l : List KR} {i : Nat} {r : KR} (h : l[i]? = some r) : (encK l)[i]? = some (.slice r.K r.k r.kc) := by simp [encK, h]
structure KOk (w : World) (B : Nat) (r : KR) : Prop where
  rd : Reads w B 1 r.K r.k (encB r.ks)
  le : r.k ≤ r.kc
  cap : r.kc ≤ maxLen
/-- One deed. -/
structure DR where
  P : Option Addr
  m : Nat
  mc : Nat
  ats : List Int
  by_ : Nat
  left : Int
  KK : Option Addr
  nk : Nat
  ck : Nat
  rows : List KR
  Q : Option Addr
  nq : Nat
  cq : Nat
  lefts : List Int
  deriving Inhabited
def encD : List DR → List Value
  | [] => []
  | r :: l => .slice r.P r.m r.mc :: .int .u8 (r.by_ : Int) :: .int .i64 r.left :: .slice r.KK r.nk r.ck :: .slice r.Q r.nq r.cq :: encD l
theorem encD_length : ∀ l : List DR, (encD l).length = l.length * 5
  | [] => rfl
  | r :: l => by simp only [encD, List.length_cons, encD_length l]; omega
theorem encD_get : ∀ {l : List DR} {i : Nat} {r : DR}, l[i]? = some r → (encD l)[i * 5]? = some (.slice r.P r.m r.mc) ∧ (encD l)[i * 5 + 1]? = some (.int .u8 (r.by_ : Int)) ∧ (encD l)[i * 5 + 2]? = some (.int .i64 r.left) ∧ (encD l)[i * 5 + 3]? = some (.slice r.KK r.nk r.ck) ∧ (encD l)[i * 5 + 4]? = some (.slice r.Q r.nq r.cq)
  | q :: l, 0, r, h => by
    simp only [List.getElem?_cons_zero, Option.some.injEq] at h
    subst h
    exact ⟨rfl, rfl, rfl, rfl, rfl⟩
  | q :: l, i + 1, r, h => by
    have := encD_get (l := l) (i := i) (by simpa using h)
    rw [show (i + 1) * 5 = i * 5 + 1 + 1 + 1 + 1 + 1 by omega]
    exact this
structure DOk (w : World) (B : Nat) (r : DR) : Prop where
  at_ : Reads w B 1 r.P r.m (encZ r.ats)
  am : r.m ≤ maxLen
  by_ : r.by_ < 256
  left : r.left ≤ 9223372036854775807
  keeps : Reads w B 1 r.KK r.nk (encK r.rows)
  kn : r.nk ≤ maxLen
  rows : ∀ q ∈ r.rows, KOk w B q
  lefts : Reads w B 1 r.Q r.nq (encZ r.lefts)
  ln : r.nq ≤ maxLen
  small : ∀ x ∈ r.lefts, x ≤ 9223372036854775807
theorem KOk.step {w w' : World} {r : KR} (h : KOk w w.heap.size r) (hb : Below w.heap.size w w') : KOk w' w'.heap.size r := ⟨h.rd.step hb, h.le, h.cap⟩
theorem DOk.step {w w' : World} {r : DR} (h : DOk w w.heap.size r) (hb : Below w.heap.size w w') : DOk w' w'.heap.size r :=
  ⟨h.at_.step hb, h.am, h.by_, h.left, h.keeps.step hb, h.kn, fun q hq => (h.rows q hq).step hb, h.lefts.step hb, h.ln, h.small⟩
theorem Reads.deed {w : World} {B n : Nat} {A : Option Addr} {l : List DR} (h : Reads w B 5 A n (encD l)) {i : Nat} {r : DR} (hr : l[i]? = some r) :
    ∃ b o, A = some ⟨b, o, none⟩ ∧ b < B ∧ w.cell? ⟨b, o + i * 5, none⟩ = some (.slice r.P r.m r.mc) ∧ w.cell? ⟨b, o + i * 5 + 1, none⟩ = some (.int .u8 (r.by_ : Int)) ∧ w.cell? ⟨b, o + i * 5 + 2, none⟩ = some (.int .i64 r.left) ∧ w.cell? ⟨b, o + i * 5 + 3, none⟩ = some (.slice r.KK r.nk r.ck) ∧ w.cell? ⟨b, o + i * 5 + 4, none⟩ = some (.slice r.Q r.nq r.cq) := by
  have hi := (List.getElem?_eq_some_iff.1 hr).1
  have hl := h.1
  rw [encD_length] at hl
  obtain ⟨b, o, e, hb, hc⟩ := h.2 (by omega)
  obtain ⟨g0, g1, g2, g3, g4⟩ := encD_get hr
  exact ⟨b, o, e, hb, hc _ _ g0, hc _ _ g1, hc _ _ g2, hc _ _ g3, hc _ _ g4⟩
theorem Reads.krow {w : World} {B n : Nat} {A : Option Addr} {l : List KR} (h : Reads w B 1 A n (encK l)) {i : Nat} {r : KR} (hr : l[i]? = some r) : ∃ b o, A = some ⟨b, o, none⟩ ∧ b < B ∧ w.cell? ⟨b, o + i, none⟩ = some (.slice r.K r.k r.kc) := by
  have hi := (List.getElem?_eq_some_iff.1 hr).1
  have hl := h.1
  rw [encK_length] at hl
  obtain ⟨b, o, e, hb, hc⟩ := h.2 (by omega)
  exact ⟨b, o, e, hb, hc _ _ (encK_get hr)⟩
theorem Reads.lenK {w : World} {B n : Nat} {A : Option Addr} {l : List KR} (h : Reads w B 1 A n (encK l)) : l.length = n := by have := h.1; rw [encK_length] at this; omega
theorem Reads.lenZ {w : World} {B n : Nat} {A : Option Addr} {l : List Int} (h : Reads w B 1 A n (encZ l)) : l.length = n := by have := h.1; rw [encZ_length] at this; omega

section
variable {H : Type} {enc : TypeId × Value → H} {W : World} {base : Nat} {spare : Nat → Bool} {held : Bool} {fuel : Nat}
/-- A slice of numbers. -/
theorem open_zs {v : Value} {y : DataW H × List MemPlace} (h : DataW.trod enc Try.prog W base spare held fuel 41 [v] = some y) :
    ∃ A n c l, v = .slice A n c ∧ n ≤ c ∧ c ≤ maxLen ∧ Reads W W.heap.size 1 A n (encZ l) ∧ ∀ x ∈ l, x ≤ 9223372036854775807 := by
  rcases open_ints Try.underlying41 Try.underlying3 (by kernel_rfl) h with ⟨hcs, hx⟩ | ⟨a, len, cap, zs, hcs, _, hl, hm, hz, hx, hcell, hwf⟩
  · injection hcs with hcs _
    exact ⟨none, 0, 0, [], hcs, Nat.le_refl _, by simp only [maxLen]; omega, Reads.nil, fun x hx => by cases hx⟩
  · injection hcs with hcs _
    have hlen : len ≤ zs.length := by rw [hz]; split <;> omega
    refine ⟨some a, len, cap, zs.take len, hcs, hl, hm, ⟨by rw [encZ_length, List.length_take]; omega, fun hn => ?_⟩, fun x hx => ?_⟩
    · obtain ⟨b, o, rfl⟩ := slice_addr (hcell 0 (by omega))
      refine ⟨b, o, rfl, ?_, fun j u hu => ?_⟩
      · have := World.block_lt_of_cell? W _ (hcell 0 (by omega))
        rw [add_plain] at this
        exact this
      · have hj := (List.getElem?_eq_some_iff.1 hu).1
        rw [encZ_length, List.length_take] at hj
        rw [encZ_get (by rw [List.length_take]; omega)] at hu
        injection hu with hu
        rw [← hu, ← add_plain, hcell j (by omega)]
        have e : zs.getD j 0 = (zs.take len).getD j 0 := by
          rw [List.getD_eq_getElem?_getD, List.getD_eq_getElem?_getD, List.getElem?_take, if_pos (by omega)]
        rw [e]
    · have := hwf x (List.mem_of_mem_take hx)
      simp only [Lit.wf, Bool.and_eq_true, decide_eq_true_eq] at this
      have e : IntKind.i64.max = 9223372036854775807 := by decide
      omega
/-- A slice of slices of truth values. -/
theorem open_rows {v : Value} {y : DataW H × List MemPlace} (h : DataW.trod enc Try.prog W base spare held fuel 42 [v] = some y) :
    ∃ A n c l, v = .slice A n c ∧ n ≤ c ∧ c ≤ maxLen ∧ Reads W W.heap.size 1 A n (encK l) ∧ ∀ r ∈ l, KOk W W.heap.size r := by
  rcases open_slice1 Try.underlying42 (by kernel_rfl) h with ⟨hcs, hx⟩ | ⟨a, len, cap, m, n, V, D, Pl, hcs, _, hl, hm, hmm, hx, hi⟩
  · injection hcs with hcs _
    exact ⟨none, 0, 0, [], hcs, Nat.le_refl _, by simp only [maxLen]; omega, Reads.nil, fun r hr => by cases hr⟩
  · injection hcs with hcs _
    have hlm : len ≤ m := by rw [hmm]; split <;> omega
    have each : ∀ i, i < len → ∃ r : KR, KOk W W.heap.size r ∧ W.cell? (a.add i) = some (.slice r.K r.k r.kc) := fun i hi' => by
      obtain ⟨K, k, c, ks, e, h1, h2, h3⟩ := open_bools (hi i (by omega)).2
      have := (hi i (by omega)).1
      rw [e] at this
      exact ⟨⟨K, k, c, ks⟩, ⟨h3, h1, h2⟩, this⟩
    obtain ⟨f, hf⟩ := choose_lt each
    refine ⟨some a, len, cap, (List.range len).map f, hcs, hl, hm, ⟨by rw [encK_length]; simp, fun hn => ?_⟩, fun r hr => ?_⟩
    · have h0 := (hf 0 (by omega)).2
      obtain ⟨b, o, rfl⟩ := slice_addr h0
      refine ⟨b, o, rfl, ?_, fun j u hu => ?_⟩
      · have := World.block_lt_of_cell? W _ h0
        rw [add_plain] at this
        exact this
      · have hj := (List.getElem?_eq_some_iff.1 hu).1
        rw [encK_length] at hj
        simp only [List.length_map, List.length_range] at hj
        rw [encK_get (r := f j) (by simp [hj])] at hu
        injection hu with hu
        rw [← hu, ← add_plain]
        exact (hf j hj).2
    · obtain ⟨j, hj, rfl⟩ := List.mem_map.1 hr
      exact (hf j (List.mem_range.1 hj)).1
set_option maxRecDepth 100000 in
/-- A slice of deeds. -/
theorem open_deeds {v : Value} {y : DataW H × List MemPlace} (h : DataW.trod enc Try.prog W base spare held fuel 36 [v] = some y) :
    ∃ L n c l, v = .slice L n c ∧ n ≤ c ∧ c ≤ maxLen ∧ Reads W W.heap.size 5 L n (encD l) ∧ ∀ r ∈ l, DOk W W.heap.size r := by
  rcases open_slice Try.underlying36 h with ⟨hcs, hx⟩ | ⟨a, len, cap, m, n, D, Pl, hcs, _, hl, hm, hmm, hx, hi⟩
  · injection hcs with hcs _
    exact ⟨none, 0, 0, [], hcs, Nat.le_refl _, by simp only [maxLen]; omega, Reads.nil, fun r hr => by cases hr⟩
  · injection hcs with hcs _
    have hlm : len ≤ m := by rw [hmm]; split <;> omega
    have ce : Try.prog.cellsOf 44 = 5 := by kernel_rfl
    have c1 : Try.prog.cellsOf 41 = 1 := by kernel_rfl
    have c2 : Try.prog.cellsOf 5 = 1 := by kernel_rfl
    have c3 : Try.prog.cellsOf 3 = 1 := by kernel_rfl
    have c4 : Try.prog.cellsOf 42 = 1 := by kernel_rfl
    have each : ∀ i, i < len → ∃ r : DR, DOk W W.heap.size r ∧ W.cell? (a.add (i * 5)) = some (.slice r.P r.m r.mc) ∧ W.cell? (a.add (i * 5 + 1)) = some (.int .u8 (r.by_ : Int)) ∧ W.cell? (a.add (i * 5 + 2)) = some (.int .i64 r.left) ∧ W.cell? (a.add (i * 5 + 3)) = some (.slice r.KK r.nk r.ck) ∧ W.cell? (a.add (i * 5 + 4)) = some (.slice r.Q r.nq r.cq) := by
      intro i hil
      obtain ⟨cs', h1, h2⟩ := hi i (by omega)
      rw [ce] at h1
      obtain ⟨_, hlen, hcell⟩ := World.cells?_some h1
      obtain ⟨xs, q, _, hxy, _, hxl, hf⟩ := DataW.trod_struct Try.underlying44 h2
      match xs, hxl, cs', hlen with
      | [y0, y1, y2, y3, y4], _, [v0, v1, v2, v3, v4], _ =>
        have g0 := hf 0 _ rfl
        have g1 := hf 1 _ rfl
        have g2 := hf 2 _ rfl
        have g3 := hf 3 _ rfl
        have g4 := hf 4 _ rfl
        simp [c1, c2, c3, c4] at g0 g1 g2 g3 g4
        have e0 := hcell 0 (by omega)
        have e1 := hcell 1 (by omega)
        have e2 := hcell 2 (by omega)
        have e3 := hcell 3 (by omega)
        have e4 := hcell 4 (by omega)
        rw [Go.Deep.add_add] at e0 e1 e2 e3 e4
        obtain ⟨P, pm, pc, ats, f0, hp1, hp2, hp3, _⟩ := open_zs g0
        obtain ⟨x1, f1, _, hwf1⟩ := DataW.trod_int Try.underlying5 g1
        obtain ⟨x2, f2, _, hwf2⟩ := DataW.trod_int Try.underlying3 g2
        obtain ⟨KK, nk, ck, rows, f3, hk1, hk2, hk3, hk4⟩ := open_rows g3
        obtain ⟨Q, nq, cq, lefts, f4, hq1, hq2, hq3, hq4⟩ := open_zs g4
        injection f1 with f1 _
        injection f2 with f2 _
        subst f0; subst f1; subst f2; subst f3; subst f4
        simp only [Lit.wf, Bool.and_eq_true, decide_eq_true_eq] at hwf1 hwf2
        have m1 : IntKind.u8.max = 255 := by decide
        have m0 : IntKind.u8.min = 0 := by decide
        have m2 : IntKind.i64.max = 9223372036854775807 := by decide
        obtain ⟨b8, rfl⟩ : ∃ b8 : Nat, x1 = (b8 : Int) := ⟨x1.toNat, by omega⟩
        exact ⟨⟨P, pm, pc, ats, b8, x2, KK, nk, ck, rows, Q, nq, cq, lefts⟩, ⟨hp3, Nat.le_trans hp1 hp2, by dsimp only; omega, by dsimp only; omega, hk3, Nat.le_trans hk1 hk2, hk4, hq3, Nat.le_trans hq1 hq2, hq4⟩, by simpa using e0, by simpa using e1, by simpa using e2, by simpa using e3, by simpa using e4⟩
    obtain ⟨f, hf⟩ := choose_lt each
    refine ⟨some a, len, cap, (List.range len).map f, hcs, hl, hm, ⟨by rw [encD_length]; simp, fun hn => ?_⟩, fun r hr => ?_⟩
    · have h0 := (hf 0 (by omega)).2.1
      rw [Nat.zero_mul] at h0
      obtain ⟨b, o, rfl⟩ := slice_addr h0
      refine ⟨b, o, rfl, ?_, fun j u hu => ?_⟩
      · have := World.block_lt_of_cell? W _ h0
        rw [add_plain] at this
        exact this
      · have hj := (List.getElem?_eq_some_iff.1 hu).1
        rw [encD_length] at hj
        simp only [List.length_map, List.length_range] at hj
        have hk : j / 5 < len := by omega
        obtain ⟨_, c0, c1, c2, c3, c4⟩ := hf (j / 5) hk
        obtain ⟨g0, g1, g2, g3, g4⟩ := encD_get (l := (List.range len).map f) (i := j / 5) (r := f (j / 5)) (by simp [hk])
        rw [add_plain] at c0 c1 c2 c3 c4
        have hm5 : j % 5 = 0 ∨ j % 5 = 1 ∨ j % 5 = 2 ∨ j % 5 = 3 ∨ j % 5 = 4 := by omega
        rcases hm5 with e | e | e | e | e
        · rw [show j / 5 * 5 = j by omega] at g0 c0
          rw [g0] at hu; rw [c0, ← hu]
        · rw [show j / 5 * 5 + 1 = j by omega] at g1 c1
          rw [g1] at hu; rw [c1, ← hu]
        · rw [show j / 5 * 5 + 2 = j by omega] at g2 c2
          rw [g2] at hu; rw [c2, ← hu]
        · rw [show j / 5 * 5 + 3 = j by omega] at g3 c3
          rw [g3] at hu; rw [c3, ← hu]
        · rw [show j / 5 * 5 + 4 = j by omega] at g4 c4
          rw [g4] at hu; rw [c4, ← hu]
    · obtain ⟨j, hj, rfl⟩ := List.mem_map.1 hr
      exact (hf j (List.mem_range.1 hj)).1
end
end Go.Proofs.Ytlpijikhbjkmfaa

/-
  WalAll's state in memory: the device's variable, images, the deed's variable.
-/
namespace Go.Proofs.Ytlpijikhbjkmfaa
open Go.RowKit

theorem dv_img {w : World} {A : Option Addr} {n : Nat} {l : List ByteArray} (h : Reads w w.heap.size 1 A n (encS l)) (hn : n * 16 ≤ 140737488355328) : Dv w w.heap.size A n none 0 ⟨l, [], 0, false⟩ := ⟨h, Reads.nil, hn, by omega⟩
theorem DOk.below {w w' : World} {B : Nat} {r : DR} (h : DOk w B r) (hb : Below B w w') : DOk w' B r :=
  ⟨h.at_.below hb, h.am, h.by_, h.left, h.keeps.below hb, h.kn, fun q hq => ⟨(h.rows q hq).rd.below hb, (h.rows q hq).le, (h.rows q hq).cap⟩, h.lefts.below hb, h.ln, h.small⟩
/-- The deed's variable. -/
def deedO (r : DR) : Obj := .cells #[.slice r.P r.m r.mc, .int .u8 (r.by_ : Int), .int .i64 r.left, .slice r.KK r.nk r.ck, .slice r.Q r.nq r.cq] 44 (0, 0)
structure Wa (w wr : World) (g : Nat) (v : RV) (d : D) (T : List (Option Addr × Nat × List ByteArray)) (Bk : List (Nat × Obj)) : Prop where
  box : B4 wr g (.slice v.A v.n v.c) (.slice v.A' v.m v.c') (.int .i64 d.left) (.bool d.dead)
  dv : Dv wr wr.heap.size v.A v.n v.A' v.m d
  imgs : ∀ t ∈ T, Dv wr wr.heap.size t.1 t.2.1 none 0 ⟨t.2.2, [], 0, false⟩
  blks : ∀ p ∈ Bk, wr.heap[p.1]? = some p.2 ∧ p.1 ≠ g
  below : Below w.heap.size w wr
  lo : w.heap.size ≤ g
  fit : FitP d ∧ d.left ≤ 9223372036854775807
section
variable {w wr w' : World} {g : Nat} {v v2 : RV} {d d2 : D} {T : List (Option Addr × Nat × List ByteArray)} {Bk : List (Nat × Obj)}
theorem Wa.step (h : Wa w wr g v d T Bk) (hb : Below wr.heap.size wr w') : Wa w w' g v d T Bk :=
  ⟨h.box.step hb, h.dv.step hb, fun t ht => (h.imgs t ht).step hb, fun p hp => ⟨(hb.block _ (Array.getElem?_eq_some_iff.1 (h.blks p hp).1).1).trans (h.blks p hp).1, (h.blks p hp).2⟩, bstep h.below hb, h.lo, h.fit⟩
theorem Wa.drewN (h : Wa w wr g v d T Bk) (q : Nat) : Wa w (wr.drewN q) g v d T Bk := h.step (below_drewN (Below.refl _ _) q)
theorem Wa.add (h : Wa w wr g v d T Bk) {A : Option Addr} {n : Nat} {l : List ByteArray} (hr : Reads wr wr.heap.size 1 A n (encS l)) (hn : n ≤ 512) : Wa w wr g v d ((A, n, l) :: T) Bk :=
  ⟨h.box, h.dv, fun t ht => by
    rcases List.mem_cons.1 ht with rfl | ht
    · exact dv_img hr (by dsimp only; omega)
    · exact h.imgs t ht, h.blks, h.below, h.lo, h.fit⟩
theorem Wa.less (h : Wa w wr g v d T Bk) {T2 : List (Option Addr × Nat × List ByteArray)} (hs : ∀ t ∈ T2, t ∈ T) : Wa w wr g v d T2 [] := ⟨h.box, h.dv, fun t ht => h.imgs t (hs t ht), fun p hp => absurd hp (by simp), h.below, h.lo, h.fit⟩
theorem Wa.img (h : Wa w wr g v d T Bk) (A : Option Addr) (n : Nat) (l : List ByteArray) (hm : (A, n, l) ∈ T) : Reads wr wr.heap.size 1 A n (encS l) := (h.imgs _ hm).bs
theorem putD_block {q : Nat} {a b c d' : Value} {o : Obj} (h : wr.heap[q]? = some o) (hq : q ≠ g) : (putD wr g a b c d').heap[q]? = some o := by
  unfold putD
  rw [Below.heap_setCell _ ⟨g, 3, none⟩ d' q hq, Below.heap_setCell _ ⟨g, 2, none⟩ c q hq, Below.heap_setCell _ ⟨g, 1, none⟩ b q hq, Below.heap_setCell _ ⟨g, 0, none⟩ a q hq, h]
theorem Wa.put (h : Wa w wr g v d T Bk) (hd : Dv wr wr.heap.size v2.A v2.n v2.A' v2.m d2) (hf : FitP d2 ∧ d2.left ≤ 9223372036854775807) :
    Wa w (putD wr g (.slice v2.A v2.n v2.c) (.slice v2.A' v2.m v2.c') (.int .i64 d2.left) (.bool d2.dead)) g v2 d2 T Bk :=
  ⟨putD_b4 h.box, putD_dv h.box hd, fun t ht => putD_dv h.box (h.imgs t ht), fun p hp => ⟨putD_block (h.blks p hp).1 (h.blks p hp).2, (h.blks p hp).2⟩, putD_below h.below h.lo, h.lo, hf⟩
/-- A variable more. -/
theorem Wa.var (h : Wa w wr g v d T Bk) (_o : Obj) {q : Nat} {o2 : Obj} (hb : Below wr.heap.size wr w') (ho : w'.heap[q]? = some o2) (hq : q = wr.heap.size) : Wa w w' g v d T ((q, o2) :: Bk) :=
  ⟨h.box.step hb, h.dv.step hb, fun t ht => (h.imgs t ht).step hb, fun p hp => by
    rcases List.mem_cons.1 hp with rfl | hp
    · exact ⟨ho, by have := h.box.lt; dsimp only; omega⟩
    · exact ⟨(hb.block _ (Array.getElem?_eq_some_iff.1 (h.blks p hp).1).1).trans (h.blks p hp).1, (h.blks p hp).2⟩, bstep h.below hb, h.lo, h.fit⟩
theorem Wa.deed (h : Wa w wr g v d T Bk) {q : Nat} {r : DR} (hm : (q, deedO r) ∈ Bk) : wr.cell? ⟨q, 0, none⟩ = some (.slice r.P r.m r.mc) ∧ wr.cell? ⟨q, 1, none⟩ = some (.int .u8 (r.by_ : Int)) ∧ wr.cell? ⟨q, 2, none⟩ = some (.int .i64 r.left) ∧ wr.cell? ⟨q, 3, none⟩ = some (.slice r.KK r.nk r.ck) ∧ wr.cell? ⟨q, 4, none⟩ = some (.slice r.Q r.nq r.cq) ∧ ∀ o, wr.frozen? ⟨q, o, none⟩ = false := by
  have hb := (h.blks _ hm).1
  dsimp only [deedO] at hb
  refine ⟨?_, ?_, ?_, ?_, ?_, fun o => ?_⟩ <;> simp [World.cell?, World.frozen?, hb]
end
end Go.Proofs.Ytlpijikhbjkmfaa
