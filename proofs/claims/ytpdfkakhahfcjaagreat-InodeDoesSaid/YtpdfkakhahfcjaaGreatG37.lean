/-
  The document's own answer: Write, where it writes nothing.
-/
import Derived.Test.YtpdfkakhahfcjaaGreatG35
import Derived.Test.YtpdfkakhahfcjaaGreatG36
import Derived.Test.YtpdfkakhahfcjaaGreatG21
import Derived.Test.YtpdfkakhahfcjaaGreatG28
import Derived.Test.YtpdfkakhahfcjaaGreatG29
import Derived.Test.YtpdfkakhahfcjaaGreatG15
import Derived.Test.YtpdfkakhahfcjaaGreatG02
import Derived.Deep.QuietTactic
import Derived.BigQuiet
import Derived.Test.YtpdfkakhahfcjaaGreatG06
import Derived.Test.YtpdfkakhahfcjaaGreatG14
import Derived.Test.YtpdfkakhahfcjaaGreatG32
import Derived.Test.YtpdfkakhahfcjaaGreatG27
namespace Go.Proofs.YtpdfkakhahfcjaaGreat
open Go.RowKit

set_option maxRecDepth 100000 in
set_option maxHeartbeats 8000000 in
theorem refWrite_bad (A : Option Addr) (n c : Nat) (img : List ByteArray) (i x : Int) (data : ByteArray) (w : World) (h : Reads w w.heap.size 1 A n (encS img)) (hs : SoundP img) (hx0 : -9223372036854775808 ≤ x) (hx1 : x ≤ 9223372036854775807) (_hdl : data.size ≤ 140737488351232) (ec : Int)
    (hb : ((heldI img i).2 ≠ 0 ∧ ec = (heldI img i).2) ∨ ((heldI img i).2 = 0 ∧ x < 0 ∧ ec = 13) ∨ ((heldI img i).2 = 0 ∧ ¬ x < 0 ∧ 8704 < x ∧ ec = 12) ∨ ((heldI img i).2 = 0 ∧ ¬ x < 0 ∧ ¬ 8704 < x ∧ 8704 - x < (data.size : Int) ∧ ec = 12)) :
    Calls Tryz.prog 13 #[.slice A n c, .int .i64 i, .int .i64 x, .string data] w fun e w' => ImgsO w w' img ec e := by
  have hz7 := (zero_of_info info7).1
  have hl := h.lenS
  have h8 : 8 ≤ n := by have := hs.fit.1; omega
  have h5 : n ≤ 512 := by have := hs.fit.1; omega
  have cH := refHeld_any A n c img i w h hs.fit
  have cO := fun W hW => refOwn_any A n c img W hW (by omega)
  unfold GetP valI at cH
  have hok := heldS_ok img i (by omega)
  have h2 := heldS_two img i
  have H := Lib.hid h
  rw [h2] at cH
  clear h2 hs h
  generalize (heldI img i).2 = eh at *
  generalize (heldS img i).1 = r at *
  have HR := Lib.hid hok
  clear hok
  have hw1 : ¬ x < 0 → IntKind.i64.wrap ((8704 : Int) - x) = (8704 : Int) - x := fun h => by rw [IntKind.wrap_i64]; omega
  have hbb : (eh != 0) = true ∧ eh ≠ 0 ∧ ec = eh ∨ (eh != 0) = false ∧ eh = 0 ∧ decide (x < 0) = true ∧ x < 0 ∧ ec = 13 ∨ (eh != 0) = false ∧ eh = 0 ∧ decide (x < 0) = false ∧ ¬ x < 0 ∧ decide (8704 < x) = true ∧ 8704 < x ∧ ec = 12 ∨
      (eh != 0) = false ∧ eh = 0 ∧ decide (x < 0) = false ∧ ¬ x < 0 ∧ decide (8704 < x) = false ∧ ¬ 8704 < x ∧ decide ((8704 : Int) - x < (data.size : Int)) = true ∧ (8704 : Int) - x < (data.size : Int) ∧ ec = 12 := by
    rcases hb with ⟨a, b⟩ | ⟨a, b, d⟩ | ⟨a, b, d, e⟩ | ⟨a, b, d, f, e⟩
    · exact .inl ⟨by rw [bne_iff_ne]; exact a, a, b⟩
    · exact .inr (.inl ⟨by simp [a], a, decide_eq_true b, b, d⟩)
    · exact .inr (.inr (.inl ⟨by simp [a], a, decide_eq_false b, b, decide_eq_true d, d, e⟩))
    · exact .inr (.inr (.inr ⟨by simp [a], a, decide_eq_false b, b, decide_eq_false d, d, decide_eq_true f, f, e⟩))
  clear hb
  go_enter Tryz.func13, Tryz.ntmps13
  go_wp2_with fail
  refine cH.mono ?_
  rintro e w1 ⟨rfl, hb1⟩
  have hh1 := heap_alloc_new w1 (.cells (cellsI (zeroR 0)).toArray 47)
  have K2 := Lib.hid (bstep hb1 (((Below.refl w1.heap.size w1).alloc (Nat.le_refl _) (.cells (cellsI (zeroR 0)).toArray 47)).trans (below_setRow _ (Nat.le_refl _) (cellsI r).toArray)))
  clear hb1 cH
  go_upto_region 2 with (refine wpList_store_row rfl _ _ _ rfl w1.heap.size (cellsI r).toArray rfl rfl _ (cellsI (zeroR 0)).toArray hh1 (sizeI HR.out) (holdI okz HR.out) (all_oneCell_toArray (cellsI_one _)) ?_)
  clear hh1
  generalize (w1.alloc (.cells (cellsI (zeroR 0)).toArray 47)).setRow w1.heap.size (cellsI r).toArray = w2 at K2 ⊢
  rcases hbb with ⟨a1, a2, rfl⟩ | ⟨a1, rfl, a3, a4, rfl⟩ | ⟨a1, rfl, a3, a4, a5, a6, rfl⟩ | ⟨a1, rfl, a3, a4, a5, a6, a7, a8, rfl⟩
  all_goals try replace hw1 := hw1 a4
  all_goals
    go_wp2_with fail
    refine (cO _ (H.out.step K2.out)).mono ?_
    rintro e w3 ⟨A3, c3, rfl, ho3, hb3⟩
    obtain ⟨g3, rfl, hO3⟩ := OwI.of ho3 (by omega)
    have K3 := Lib.hid (And.intro (hO3.low K2.out.size) (bstep K2.out hb3))
    clear ho3 hb3 hO3 K2
    go_wp2
    go_ret2
    exact ⟨g3, n, c3, rfl, K3.out.1, h5, K3.out.2⟩

set_option maxRecDepth 100000 in
set_option maxHeartbeats 8000000 in
/-- Where no blocks are left. -/
theorem refWrite_full (A : Option Addr) (n c : Nat) (img : List ByteArray) (k at_ : Nat) (data : ByteArray) (w : World) (h : Reads w w.heap.size 1 A n (encS img)) (hs : SoundP img) (hk : k < cntA img.length) (hkd : (recI img k).kind ≠ 0) (hen : at_ + data.size ≤ 8704)
    (hT : (recI img k).size < at_ + data.size) (hTe : truncI img (k : Int) ((at_ + data.size : Nat) : Int) = (img, 18)) :
    Calls Tryz.prog 13 #[.slice A n c, .int .i64 (k : Int), .int .i64 (at_ : Int), .string data] w fun e w' => ImgsO w w' img 18 e := by
  have hz7 := (zero_of_info info7).1
  have hl := h.lenS
  have h8 : 8 ≤ n := by have := hs.fit.1; omega
  have h5 : n ≤ 512 := by have := hs.fit.1; omega
  have hg : getI img (k : Int) = (recI img k, 0) := by unfold getI; rw [if_neg (by omega), Int.toNat_natCast]
  have cH := refHeld_any A n c img (k : Int) w h hs.fit
  rw [show heldS img (k : Int) = (recI img k, 0) by unfold heldS; rw [hg]; simp [hkd]] at cH
  unfold GetP valI at cH
  have hok := recI_ok img k (by have := (first_le hs.fit.1.1 hs.fit.1.2).2.2.2.1; omega)
  have cO := fun W hW => refOwn_any A n c img W hW (by omega)
  have cT := fun W hW => refTrunc_any A n c img (k : Int) ((at_ : Int) + (data.size : Int)) W hW hs
  rw [show ((at_ : Int) + (data.size : Int)) = ((at_ + data.size : Nat) : Int) by omega, hTe] at cT
  rw [show ((at_ + data.size : Nat) : Int) = ((at_ : Int) + (data.size : Int)) by omega] at cT
  clear hg hkd hs hTe
  generalize recI img k = r at *
  have H := Lib.hid h
  have HR := Lib.hid hok
  clear h hok
  have hx0 : decide ((at_ : Int) < 0) = false := decide_eq_false (by omega)
  have hx1 : decide ((8704 : Int) < (at_ : Int)) = false := decide_eq_false (by omega)
  have hx1n : decide (8704 < at_) = false := decide_eq_false (by omega)
  have hx2 : decide ((8704 : Int) - (at_ : Int) < (data.size : Int)) = false := decide_eq_false (by omega)
  have hx3 : ¬ (8704 : Int) - (at_ : Int) < (data.size : Int) := by omega
  have hw1 : IntKind.i64.wrap ((8704 : Int) - (at_ : Int)) = (8704 : Int) - (at_ : Int) := by rw [IntKind.wrap_i64]; omega
  have hw2 : IntKind.i64.wrap ((at_ : Int) + (data.size : Int)) = (at_ : Int) + (data.size : Int) := by rw [IntKind.wrap_i64]; omega
  go_enter Tryz.func13, Tryz.ntmps13
  go_wp2_with fail
  refine cH.mono ?_
  rintro e w1 ⟨rfl, hb1⟩
  have hh1 := heap_alloc_new w1 (.cells (cellsI (zeroR 0)).toArray 47)
  obtain ⟨gx, hgx⟩ : ∃ gx, gx = w1.heap.size := ⟨_, rfl⟩
  have K2 := bstep hb1 (((Below.refl w1.heap.size w1).alloc (Nat.le_refl _) (.cells (cellsI (zeroR 0)).toArray 47)).trans (below_setRow _ (Nat.le_refl _) (cellsI r).toArray))
  have B2 := (BI.new w1 (zeroR 0)).setRow r
  have K2 := Lib.hid (And.intro K2 B2)
  clear hb1 cH B2
  go_upto_region 8 with (refine wpList_store_row rfl _ _ _ rfl w1.heap.size (cellsI r).toArray rfl rfl _ (cellsI (zeroR 0)).toArray hh1 (sizeI HR.out) (holdI okz HR.out) (all_oneCell_toArray (cellsI_one _)) ?_)
  clear hh1
  rw [← hgx] at K2 ⊢
  generalize (w1.alloc (.cells (cellsI (zeroR 0)).toArray 47)).setRow gx (cellsI r).toArray = w2 at K2 ⊢
  clear hgx
  go_wp2_with fail
  refine (cO w2 (H.out.step K2.out.1)).mono ?_
  rintro e w3 ⟨A3, c3, rfl, ho3, hb3⟩
  have K3 := Lib.hid (bstep K2.out.1 hb3)
  have hc1 := (K2.out.2.step hb3).size
  clear ho3 hb3 K2
  have ht1 : decide ((r.size : Int) < (at_ : Int) + (data.size : Int)) = true := decide_eq_true (by omega)
  have ht2 : decide (r.size < at_ + data.size) = true := decide_eq_true hT
  have ht3 : (r.size : Int) < (at_ : Int) + (data.size : Int) := by omega
  go_wp2_with fail
  refine (cT w3 (H.out.step K3.out)).mono ?_
  rintro e w5 ⟨g5, n5, c5, rfl, hO5, hn5, hb5⟩
  have K5 := Lib.hid (bstep K3.out hb5)
  clear hO5 hb5 K3 hn5
  go_wp2_with fail
  refine (cO w5 (H.out.step K5.out)).mono ?_
  rintro e w7 ⟨A7, c7, rfl, ho7, hb7⟩
  obtain ⟨g7, rfl, hO7⟩ := OwI.of ho7 (by omega)
  have K7 := Lib.hid (And.intro (hO7.low K5.out.size) (bstep K5.out hb7))
  clear ho7 hb7 hO7 K5
  go_wp2
  go_ret2
  exact ⟨g7, n, c7, rfl, K7.out.1, h5, K7.out.2⟩

end Go.Proofs.YtpdfkakhahfcjaaGreat

/-
  The document's own answer: Write.
-/
namespace Go.Proofs.YtpdfkakhahfcjaaGreat
open Go.RowKit

theorem refWriteA_any (A : Option Addr) (n c : Nat) (img : List ByteArray) (i x : Int) (data : ByteArray) (w : World) (h : Reads w w.heap.size 1 A n (encS img)) (hs : SoundP img) (hx0 : -9223372036854775808 ≤ x) (hx1 : x ≤ 9223372036854775807) (hdl : data.size ≤ 140737488351232) :
    Calls Tryz.prog 13 #[.slice A n c, .int .i64 i, .int .i64 x, .string data] w fun e w' => ImgsO w w' (writeI img i x data).1 (writeI img i x data).2 e := by
  by_cases h0 : (heldI img i).2 ≠ 0
  · rw [show writeI img i x data = (img, (heldI img i).2) by unfold writeI; rw [if_pos h0]]
    exact refWrite_bad A n c img i x data w h hs hx0 hx1 hdl _ (.inl ⟨h0, rfl⟩)
  · have h0' : (heldI img i).2 = 0 := Decidable.not_not.1 h0
    by_cases h1 : x < 0
    · rw [show writeI img i x data = (img, 13) by unfold writeI; rw [if_neg h0, if_pos h1]]
      exact refWrite_bad A n c img i x data w h hs hx0 hx1 hdl _ (.inr (.inl ⟨h0', h1, rfl⟩))
    · by_cases h2 : 8704 < x
      · rw [show writeI img i x data = (img, 12) by unfold writeI; rw [if_neg h0, if_neg h1, if_pos (.inl h2)]]
        exact refWrite_bad A n c img i x data w h hs hx0 hx1 hdl _ (.inr (.inr (.inl ⟨h0', h1, h2, rfl⟩)))
      · by_cases h3 : 8704 - x < (data.size : Int)
        · rw [show writeI img i x data = (img, 12) by unfold writeI; rw [if_neg h0, if_neg h1, if_pos (.inr h3)]]
          exact refWrite_bad A n c img i x data w h hs hx0 hx1 hdl _ (.inr (.inr (.inr ⟨h0', h1, h2, h3, rfl⟩)))
        · rcases getI_cases img i with hg | ⟨k, rfl, hk, hg⟩
          · rw [heldI_of hg] at h0'; cases h0'
          have hkd : (recI img k).kind ≠ 0 := fun he => by rw [heldI_at hg, if_pos he] at h0'; cases h0'
          have hH : heldI img (k : Int) = (recI img k, 0) := by rw [heldI_at hg, if_neg hkd]
          obtain ⟨at_, rfl⟩ : ∃ s : Nat, x = (s : Int) := ⟨x.toNat, by omega⟩
          have hen : at_ + data.size ≤ 8704 := by omega
          have hcast : ((at_ : Int) + (data.size : Int)) = ((at_ + data.size : Nat) : Int) := by omega
          by_cases hT : (recI img k).size < at_ + data.size
          · rcases trunc_sound ((soundQ_iff img).1 hs) hk hkd hen with ⟨h4, _⟩ | ⟨C, d, ind, h4, _⟩
            · rw [show writeI img (k : Int) (at_ : Int) data = (img, 18) by
                unfold writeI
                rw [if_neg h0, if_neg h1, if_neg (by omega), hH, if_pos (by show ((recI img k).size : Int) < _; omega), hcast, h4, if_pos (by simp)]]
              exact refWrite_full A n c img k at_ data w h hs hk hkd hen hT h4
            · rw [show writeI img (k : Int) (at_ : Int) data = (laidW at_ data C (recI C k), 0) by
                unfold writeI
                rw [if_neg h0, if_neg h1, if_neg (by omega), hH, if_pos (by show ((recI img k).size : Int) < _; omega), hcast, h4, if_neg (by simp)]
                rfl]
              exact refWriteOk_any A n c img k at_ data w h hs hk hkd hen C (.inl ⟨hT, h4⟩)
          · rw [show writeI img (k : Int) (at_ : Int) data = (laidW at_ data img (recI img k), 0) by
              unfold writeI
              rw [if_neg h0, if_neg h1, if_neg (by omega), hH, if_neg (by show ¬ ((recI img k).size : Int) < _; omega)]
              rfl]
            exact refWriteOk_any A n c img k at_ data w h hs hk hkd hen img (.inr ⟨hT, rfl⟩)

end Go.Proofs.YtpdfkakhahfcjaaGreat

/-
  The chapter's example, reckoned.
-/
namespace Go.Proofs.YtpdfkakhahfcjaaGreat
open Go.RowKit

def exM : List ByteArray := (makeA 16).1
def exN : List ByteArray := (newI exM 1).1
def exW : List ByteArray := (writeI exN 0 130 ⟨#[120]⟩).1
def exR : ByteArray := (readI exW 0).1
def exT : List ByteArray := (truncI exW 0 0).1
theorem ex5_1 : makeA 16 = (exM, 0) := by
  refine Prod.ext rfl ?_
  decide +kernel
theorem ex5_2 : (newI exM 1).2 = (0, 0) := by decide +kernel
theorem ex5_3 : (writeI exN 0 130 ⟨#[120]⟩).2 = 0 := by decide +kernel
theorem ex5_4 : (readI exW 0).2 = 0 := by decide +kernel
theorem ex5_5 : exR.data.toList = List.replicate 130 0 ++ [120] := by decide +kernel
theorem ex5_6 : (truncI exW 0 0).2 = 0 := by decide +kernel
theorem ex5_7 : exT.length = 16 ∧ exM.length = 16 ∧ exN.length = 16 ∧ exW.length = 16 := by decide +kernel
theorem ex5_8 : (freeA exT).length = 13 := by decide +kernel
theorem ex5_9 : blksN exW 0 = [3, 4] := by decide +kernel
theorem ex5_10 : soundI exW = true := by decide +kernel
theorem ex5_11 : soundI [] = false := by decide +kernel
theorem ex5_m0 : MapP exM := by unfold MapP; decide +kernel
theorem ex5_m1 : MapP exN := by unfold MapP; decide +kernel
theorem ex5_m2 : MapP exW := by unfold MapP; decide +kernel
theorem ex5_m3 : MapP exT := by unfold MapP; decide +kernel
end Go.Proofs.YtpdfkakhahfcjaaGreat

/-
  Where two images differ: the document's function and the program's.
-/
namespace Go.Proofs.YtpdfkakhahfcjaaGreat
open Go.RowKit

def cutL (a b : List ByteArray) (i : Nat) : List Nat := (List.range i).filter fun i => decide (a[i]? ≠ b[i]?)
theorem cutL_no {a b : List ByteArray} {i : Nat} (h : a[i]? = b[i]?) : cutL a b (i + 1) = cutL a b i := by simp [cutL, List.range_succ, h]
theorem cutL_yes {a b : List ByteArray} {i : Nat} (h : a[i]? ≠ b[i]?) : cutL a b (i + 1) = cutL a b i ++ [i] := by simp [cutL, List.range_succ, h]

set_option maxRecDepth 100000 in
set_option maxHeartbeats 2000000 in
theorem refChanged_any (A A' : Option Addr) (n c m c' : Nat) (a b : List ByteArray) (w : World) (ha : Reads w w.heap.size 1 A n (encS a)) (hb : Reads w w.heap.size 1 A' m (encS b)) (hn : n * 16 ≤ 140737488355328) (hm : m * 16 ≤ 140737488355328) :
    Calls Tryz.prog 37 #[.slice A n c, .slice A' m c'] w fun e w' => ∃ A2 c2, e = .returned (.slice A2 (changedL a b).length c2) ∧ w'.ownsRow w.heap.size 3 1 (.slice A2 (changedL a b).length c2) (changedL a b).length (encN (changedL a b)) ∧ Below w.heap.size w w' := by
  obtain ⟨i0, hi0, hz0, hz1, hz2⟩ := info_parts infoI
  have H1 := Lib.hid ha
  have H2 := Lib.hid hb
  have HL := Lib.hid (And.intro ha.lenS hb.lenS)
  clear ha hb
  have HM : Hid (changedL a b = cutL a b (max n m)) := Lib.hid (by rw [← HL.out.1, ← HL.out.2]; rfl)
  rw [HM.out]
  obtain ⟨M, hM⟩ : ∃ M, M = max n m := ⟨_, rfl⟩
  rw [← hM]
  have hnM : n ≤ M := by omega
  have hmM : m ≤ M := by omega
  have hMM : M = n ∨ M = m := by omega
  have hmx : max (n : Int) (m : Int) = (M : Int) := by omega
  have HMM := Lib.hid hM
  clear hM HM
  go_enter Tryz.func37, Tryz.ntmps37
  go_wp2
  go_loopg [5, 6] M (fun g s5 s6 wr => ∃ (i k : Nat) (A2 : Option Addr) (c2 : Nat), i ≤ M ∧ M - i ≤ g ∧ s6 = .int .i64 i ∧ s5 = .slice A2 k c2 ∧ k ≤ i ∧ Hid (k = (cutL a b i).length ∧ wr.ownsRow w.heap.size 3 1 (.slice A2 k c2) k (encN (cutL a b i)) ∧ Below w.heap.size w wr))
  case atStart => exact ⟨0, 0, none, 0, Nat.zero_le _, by omega, rfl, rfl, Nat.le_refl _, Lib.hid ⟨rfl, own_nil, Below.refl _ _⟩⟩
  case round =>
    obtain ⟨i, k, A2, c2, hi, hg, rfl, rfl, hki, J⟩ := hrel
    by_cases hlt : i < M
    · have hiM : (i : Int) < (M : Int) := by omega
      by_cases hin : i < n
      · have hin' : (i : Int) < (n : Int) := by omega
        have hin2 : ¬ (n : Int) ≤ (i : Int) := by omega
        by_cases him : i < m
        · have him' : (i : Int) < (m : Int) := by omega
          have him2 : ¬ (m : Int) ≤ (i : Int) := by omega
          obtain ⟨b1, o1, rfl, _, g1⟩ := (H1.out.below J.out.2.2).str hin
          obtain ⟨b2, o2, rfl, _, g2⟩ := (H2.out.below J.out.2.2).str him
          have e1 := blk_get (bs := a) (k := i) (by rw [HL.out.1]; exact hin)
          have e2 := blk_get (bs := b) (k := i) (by rw [HL.out.2]; exact him)
          generalize blk a i = x at g1 e1
          generalize blk b i = y at g2 e2
          by_cases hxy : x = y
          · have HN : Hid (cutL a b (i + 1) = cutL a b i) := Lib.hid (cutL_no (by rw [e1, e2, hxy]))
            have ht := bytes_same hxy
            clear hxy e1 e2
            go_wp2_with fail
            go_quiet (fail)
            go_wp2
            go_roundg (M - (i + 1))
            case measure => omega
            case rel => exact ⟨i + 1, k, A2, c2, by omega, by omega, by go_num, rfl, by omega, Lib.hid (by rw [HN.out]; exact ⟨J.out.1, J.out.2.1, below_drewN J.out.2.2 nq⟩)⟩
          · have HN : Hid (cutL a b (i + 1) = cutL a b i ++ [i]) := Lib.hid (cutL_yes (by rw [e1, e2]; exact fun h => hxy (Option.some.inj h)))
            have ht := bytes_other hxy
            clear hxy e1 e2
            go_wp2_with fail
            go_quiet (fail)
            go_wp2_with (at_builtin; refine wpList_append_reads _ rfl (.tmp 40) (.tmp 42) 49 rfl w.heap.size 3 i0 _ 1 8 Tryz.underlying49 hi0 hz0 hz1 hz2 rfl (by omega) (.slice A2 k c2) k (encN (cutL a b i)) rfl (own_alloc (w := (wr.drewN nq)) J.out.2.1 _) _ (some ⟨wr.heap.size, 0, none⟩) 1 1 [.int .i64 (i : Int)] rfl (reads_new (wr.drewN nq) #[.int .i64 (i : Int)] 3 1 1 rfl) (by simp [Value.oneCell']) (by simp only [maxLen]; omega) (by omega) (by have := J.out.2.2.size; simp; omega) ?_; intro A6 c6 w6 ho6 hg6 _)
            have JN : Hid (k + 1 = (cutL a b (i + 1)).length ∧ w6.ownsRow w.heap.size 3 1 (.slice A6 (k + 1) c6) (k + 1) (encN (cutL a b (i + 1))) ∧ Below w.heap.size w w6) :=
              Lib.hid ⟨by rw [HN.out, List.length_append, ← J.out.1]; rfl, by rw [HN.out, encN_app]; exact ho6, ((below_drewN J.out.2.2 nq).alloc J.out.2.2.size _).grown hg6 (by have := J.out.2.2.size; simp; omega) (fun q hq => by have := own_row_ge J.out.2.1 _ hq; omega)⟩
            go_roundg (M - (i + 1))
            case measure => omega
            case rel => exact ⟨i + 1, k + 1, A6, c6, by omega, by omega, by go_num, rfl, by omega, JN⟩
        · have him2 : m ≤ i := by omega
          have hd1 : decide (m ≤ i) = true := decide_eq_true him2
          have hd2 : decide (n ≤ i) = false := decide_eq_false (by omega)
          have HN : Hid (cutL a b (i + 1) = cutL a b i ++ [i]) := Lib.hid (cutL_yes (by rw [List.getElem?_eq_none (l := b) (by rw [HL.out.2]; omega), List.getElem?_eq_getElem (l := a) (by rw [HL.out.1]; omega)]; simp))
          go_wp2_with fail
          go_quiet (fail)
          go_wp2_with (at_builtin; refine wpList_append_reads _ rfl (.tmp 40) (.tmp 42) 49 rfl w.heap.size 3 i0 _ 1 8 Tryz.underlying49 hi0 hz0 hz1 hz2 rfl (by omega) (.slice A2 k c2) k (encN (cutL a b i)) rfl (own_alloc (w := (wr.drewN nq)) J.out.2.1 _) _ (some ⟨wr.heap.size, 0, none⟩) 1 1 [.int .i64 (i : Int)] rfl (reads_new (wr.drewN nq) #[.int .i64 (i : Int)] 3 1 1 rfl) (by simp [Value.oneCell']) (by simp only [maxLen]; omega) (by omega) (by have := J.out.2.2.size; simp; omega) ?_; intro A6 c6 w6 ho6 hg6 _)
          have JN : Hid (k + 1 = (cutL a b (i + 1)).length ∧ w6.ownsRow w.heap.size 3 1 (.slice A6 (k + 1) c6) (k + 1) (encN (cutL a b (i + 1))) ∧ Below w.heap.size w w6) :=
            Lib.hid ⟨by rw [HN.out, List.length_append, ← J.out.1]; rfl, by rw [HN.out, encN_app]; exact ho6, ((below_drewN J.out.2.2 nq).alloc J.out.2.2.size _).grown hg6 (by have := J.out.2.2.size; simp; omega) (fun q hq => by have := own_row_ge J.out.2.1 _ hq; omega)⟩
          go_roundg (M - (i + 1))
          case measure => omega
          case rel => exact ⟨i + 1, k + 1, A6, c6, by omega, by omega, by go_num, rfl, by omega, JN⟩
      · have hin2 : n ≤ i := by omega
        have hd1 : decide (n ≤ i) = true := decide_eq_true hin2
        have him : i < m := by omega
        have him' : (i : Int) < (m : Int) := by omega
        have HN : Hid (cutL a b (i + 1) = cutL a b i ++ [i]) := Lib.hid (cutL_yes (by rw [List.getElem?_eq_none (l := a) (by rw [HL.out.1]; omega), List.getElem?_eq_getElem (l := b) (by rw [HL.out.2]; omega)]; simp))
        go_wp2_with fail
        go_quiet (fail)
        go_wp2_with (at_builtin; refine wpList_append_reads _ rfl (.tmp 40) (.tmp 42) 49 rfl w.heap.size 3 i0 _ 1 8 Tryz.underlying49 hi0 hz0 hz1 hz2 rfl (by omega) (.slice A2 k c2) k (encN (cutL a b i)) rfl (own_alloc (w := (wr.drewN nq)) J.out.2.1 _) _ (some ⟨wr.heap.size, 0, none⟩) 1 1 [.int .i64 (i : Int)] rfl (reads_new (wr.drewN nq) #[.int .i64 (i : Int)] 3 1 1 rfl) (by simp [Value.oneCell']) (by simp only [maxLen]; omega) (by omega) (by have := J.out.2.2.size; simp; omega) ?_; intro A6 c6 w6 ho6 hg6 _)
        have JN : Hid (k + 1 = (cutL a b (i + 1)).length ∧ w6.ownsRow w.heap.size 3 1 (.slice A6 (k + 1) c6) (k + 1) (encN (cutL a b (i + 1))) ∧ Below w.heap.size w w6) :=
          Lib.hid ⟨by rw [HN.out, List.length_append, ← J.out.1]; rfl, by rw [HN.out, encN_app]; exact ho6, ((below_drewN J.out.2.2 nq).alloc J.out.2.2.size _).grown hg6 (by have := J.out.2.2.size; simp; omega) (fun q hq => by have := own_row_ge J.out.2.1 _ hq; omega)⟩
        go_roundg (M - (i + 1))
        case measure => omega
        case rel => exact ⟨i + 1, k + 1, A6, c6, by omega, by omega, by go_num, rfl, by omega, JN⟩
    · have : i = M := by omega
      subst this
      have hnot : ¬ (i : Int) < (n : Int) := by omega
      have hnot2 : ¬ (i : Int) < (m : Int) := by omega
      go_wp2
      go_ret
      obtain ⟨j1, j2, j3⟩ := J.out
      rw [← j1]
      exact ⟨A2, c2, rfl, j2, j3⟩


end Go.Proofs.YtpdfkakhahfcjaaGreat

/-
  The reference's comparisons of texts and of numbers.
-/
namespace Go.Proofs.YtpdfkakhahfcjaaGreat
open Go.RowKit

theorem changedL_zero {a b : List ByteArray} (h : a.length = b.length) : (changedL a b).length = 0 ↔ a = b := by
  unfold changedL
  rw [List.length_eq_zero_iff, List.filter_eq_nil_iff]
  constructor
  · intro hall
    refine List.ext_getElem? fun i => ?_
    by_cases hi : i < a.length
    · have := hall i (List.mem_range.2 (by omega))
      simpa using this
    · rw [List.getElem?_eq_none (by omega), List.getElem?_eq_none (by omega)]
  · rintro rfl i _
    simp

set_option maxRecDepth 100000 in
set_option maxHeartbeats 1000000 in
theorem refTexts_any (A A' : Option Addr) (n c m c' : Nat) (a b : List ByteArray) (w : World) (ha : Reads w w.heap.size 1 A n (encS a)) (hb : Reads w w.heap.size 1 A' m (encS b)) (hn : n * 16 ≤ 140737488355328) (hm : m * 16 ≤ 140737488355328) :
    Calls Tryz.prog 9 #[.slice A n c, .slice A' m c'] w fun e w' => e = .returned (.bool (decide (a = b))) ∧ Below w.heap.size w w' := by
  have hla := ha.lenS
  have hlb := hb.lenS
  by_cases hnm : n = m
  · have ht : ((n : Int) == (m : Int)) = true := by rw [hnm]; exact beq_self_eq_true _
    have cc := refChanged_any A A' n c m c' a b w ha hb hn hm
    have HZ := Lib.hid (changedL_zero (a := a) (b := b) (by omega))
    obtain ⟨k, hk⟩ : ∃ k, k = (changedL a b).length := ⟨_, rfl⟩
    rw [← hk] at cc HZ
    by_cases hk0 : k = 0
    · have HD : Hid (decide (a = b) = true) := Lib.hid (decide_eq_true (HZ.out.1 hk0))
      rw [HD.out]
      have hk1 : ((k : Int) == 0) = true := by rw [hk0]; rfl
      clear ha hb hla hlb hnm hk hk0
      go_enter Tryz.func9, Tryz.ntmps9
      go_wp2_with (go_at_call 37; refine cc.mono ?_; rintro e w1 ⟨A2, c2, rfl, ho1, hb1⟩)
      go_ret
      exact ⟨rfl, hb1⟩
    · have HD : Hid (decide (a = b) = false) := Lib.hid (decide_eq_false (fun e => hk0 (HZ.out.2 e)))
      rw [HD.out]
      have hk1 : ((k : Int) == 0) = false := by rw [beq_eq_false_iff_ne]; omega
      clear ha hb hla hlb hnm hk
      go_enter Tryz.func9, Tryz.ntmps9
      go_wp2_with (go_at_call 37; refine cc.mono ?_; rintro e w1 ⟨A2, c2, rfl, ho1, hb1⟩)
      go_ret
      exact ⟨rfl, hb1⟩
  · have ht : ((n : Int) == (m : Int)) = false := by rw [beq_eq_false_iff_ne]; omega
    have HD : Hid (decide (a = b) = false) := Lib.hid (decide_eq_false (fun e => hnm (by rw [← hla, ← hlb, e])))
    rw [HD.out]
    clear ha hb hla hlb
    go_enter Tryz.func9, Tryz.ntmps9
    go_wp2
    go_ret
    exact ⟨rfl, Below.refl _ _⟩

set_option maxRecDepth 100000 in
set_option maxHeartbeats 1000000 in
theorem refInts_any (A A' : Option Addr) (n c m c' : Nat) (a b : List Nat) (w : World) (ha : Reads w w.heap.size 1 A n (encN a)) (hb : Reads w w.heap.size 1 A' m (encN b)) (hn : n ≤ 17592186044416) (hm : m ≤ 17592186044416) :
    Calls Tryz.prog 27 #[.slice A n c, .slice A' m c'] w fun e w' => e = .returned (.bool (decide (a = b))) ∧ ∃ q, w' = w.drewN q := by
  have HA := Lib.hid ha
  have HB := Lib.hid hb
  have HL := Lib.hid (And.intro ha.lenN hb.lenN)
  clear ha hb
  by_cases hnm : n = m
  · subst hnm
    have ht : ((n : Int) != (n : Int)) = false := by simp
    obtain ⟨r, hr⟩ : ∃ r, r = decide (a = b) := ⟨_, rfl⟩
    rw [← hr]
    have HR := Lib.hid hr
    clear hr
    go_enter Tryz.func27, Tryz.ntmps27
    go_wp2
    go_loopg [5] n (fun g s5 wr => ∃ i q : Nat, i ≤ n ∧ n - i ≤ g ∧ s5 = .int .i64 i ∧ w.drewN q = wr ∧ Hid (∀ k, k < i → a.getD k 0 = b.getD k 0))
    case atStart => exact ⟨0, 0, Nat.zero_le _, by omega, rfl, rfl, Lib.hid fun k hk => absurd hk (Nat.not_lt_zero _)⟩
    case round =>
      obtain ⟨i, q, hi, hg, rfl, rfl, J⟩ := hrel
      by_cases hlt : i < n
      · have hin : (i : Int) < (n : Int) := by omega
        obtain ⟨b1, o1, rfl, _, g1⟩ := HA.out.nat hlt
        obtain ⟨b2, o2, rfl, _, g2⟩ := HB.out.nat hlt
        by_cases hxy : a.getD i 0 = b.getD i 0
        · have JN : Hid (∀ k, k < i + 1 → a.getD k 0 = b.getD k 0) := Lib.hid fun k hk => by
            by_cases e : k = i
            · rw [e]; exact hxy
            · exact J.out k (by omega)
          rw [← hxy] at g2
          generalize a.getD i 0 = x at g1 g2
          have hx : ((x : Int) != (x : Int)) = false := by simp
          clear hxy
          go_wp2_with fail
          go_quiet (fail)
          go_wp2
          go_roundg (n - (i + 1))
          case measure => omega
          case rel => exact ⟨i + 1, q + nq, by omega, by omega, by go_num, rfl, JN⟩
        · have HE : Hid (r = false) := Lib.hid (HR.out.trans (decide_eq_false (fun e => hxy (by rw [e]))))
          have hx : (((a.getD i 0 : Nat) : Int) != ((b.getD i 0 : Nat) : Int)) = true := by simp only [bne_iff_ne, ne_eq]; omega
          generalize a.getD i 0 = x at g1 hx
          generalize b.getD i 0 = y at g2 hx
          clear hxy
          go_wp2_with fail
          go_quiet (fail)
          go_wp2
          go_ret
          rw [HE.out]
          exact ⟨rfl, q + nq, World.drewN_drewN _ _ _⟩
      · have : i = n := by omega
        subst this
        have HE : Hid (r = true) := Lib.hid (HR.out.trans (decide_eq_true (by
          refine List.ext_getElem? fun k => ?_
          by_cases hk : k < i
          · have := J.out k hk
            rw [List.getD_eq_getElem?_getD, List.getD_eq_getElem?_getD] at this
            rw [List.getElem?_eq_getElem (by rw [HL.out.1]; exact hk), List.getElem?_eq_getElem (by rw [HL.out.2]; exact hk)] at this ⊢
            simpa using this
          · rw [List.getElem?_eq_none (by rw [HL.out.1]; omega), List.getElem?_eq_none (by rw [HL.out.2]; omega)])))
        go_wp2
        go_ret
        rw [HE.out]
        exact ⟨rfl, q, rfl⟩
  · have ht : ((n : Int) != (m : Int)) = true := by simp only [bne_iff_ne, ne_eq]; omega
    have HD : Hid (decide (a = b) = false) := Lib.hid (decide_eq_false (fun e => hnm (by rw [← HL.out.1, ← HL.out.2, e])))
    rw [HD.out]
    go_enter Tryz.func27, Tryz.ntmps27
    go_wp2
    go_ret
    exact ⟨rfl, 0, rfl⟩

end Go.Proofs.YtpdfkakhahfcjaaGreat

/-
  What is read from step to step.
-/
namespace Go.Proofs.YtpdfkakhahfcjaaGreat
open Go.RowKit

/-- What is read from step to step: slices that read as lists of cells. -/
structure Bag (w0 w : World) (T : List (Option Addr × Nat × List Value)) : Prop where
  reads : ∀ t ∈ T, Reads w w.heap.size 1 t.1 t.2.1 t.2.2
  below : Below w0.heap.size w0 w
section
variable {w0 w w' : World} {T : List (Option Addr × Nat × List Value)} {A : Option Addr} {n : Nat} {xs : List Value}
theorem Bag.nil (w : World) : Bag w w [] := ⟨fun _ h => absurd h (by simp), Below.refl _ _⟩
theorem Bag.step (h : Bag w0 w T) (hb : Below w.heap.size w w') : Bag w0 w' T := ⟨fun t ht => (h.reads t ht).step hb, bstep h.below hb⟩
theorem Bag.add (h : Bag w0 w T) (hr : Reads w w.heap.size 1 A n xs) : Bag w0 w ((A, n, xs) :: T) := ⟨fun t ht => by
  rcases List.mem_cons.1 ht with rfl | ht
  · exact hr
  · exact h.reads t ht, h.below⟩
theorem Bag.drewN (h : Bag w0 w T) (q : Nat) : Bag w0 (w.drewN q) T := ⟨fun t ht => h.reads t ht, below_drewN h.below q⟩
theorem Bag.get (h : Bag w0 w T) (A : Option Addr) (n : Nat) (xs : List Value) (hm : (A, n, xs) ∈ T) : Reads w w.heap.size 1 A n xs := h.reads _ hm
end
theorem reads_lit {w : World} {e : TypeId} (l : List Int) (cs : Array Value) (n : Nat) (h : cs.toList = encI l) (hn : cs.size = n) : Reads (w.alloc (.cells cs e)) (w.alloc (.cells cs e)).heap.size 1 (some ⟨w.heap.size, 0, none⟩) n (encI l) := by
  have := reads_new w cs e n 1 (by omega)
  rwa [h] at this
theorem below_all {w w1 : World} (h : Below w.heap.size w w1) (o : Obj) : Below w.heap.size w (w1.alloc o) := h.alloc h.size o
theorem Bag.alloc {w0 w : World} {T : List (Option Addr × Nat × List Value)} (h : Bag w0 w T) (o : Obj) : Bag w0 (w.alloc o) T := h.step ((Below.refl _ w).alloc (Nat.le_refl _) o)
end Go.Proofs.YtpdfkakhahfcjaaGreat

/-
  The chapter's example: the law's function.
-/
namespace Go.Proofs.YtpdfkakhahfcjaaGreat
open Go.RowKit

set_option maxRecDepth 100000 in
set_option maxHeartbeats 8000000 in
theorem awake5_any (w : World) : Calls Tryz.prog 5 #[] w fun e w' => e = .returned (.bool true) ∧ Below w.heap.size w w' := by
  have cmk := makeA_any 16 w
  rw [ex5_1] at cmk
  have cn := fun A c W hW => newI_any A 16 c exM 1 W hW (by omega) (by omega)
  rw [show newI exM 1 = (exN, 0, 0) from Prod.ext rfl ex5_2] at cn
  have cw := fun A c W hW => writeI_any A 16 c exN 0 130 ⟨#[120]⟩ W hW ex5_m1 (by omega) (by omega) (by decide)
  rw [show writeI exN 0 130 ⟨#[120]⟩ = (exW, 0) from Prod.ext rfl ex5_3] at cw
  have cr := fun A c W hW => readI_any A 16 c exW 0 W hW (by omega)
  unfold ReadP at cr
  rw [show readI exW 0 = (exR, 0) from Prod.ext rfl ex5_4] at cr
  have ct := fun A c W hW => truncI_any A 16 c exW 0 0 W hW ex5_m2 (by omega) (by omega)
  rw [show truncI exW 0 0 = (exT, 0) from Prod.ext rfl ex5_6] at ct
  have cb := fun A c W hW => blocks_any A 16 c exW 0 W hW (by omega)
  unfold RowP at cb
  rw [ex5_9] at cb
  have cf := fun A c W hW => freeA_any A 16 c exT W hW ex5_m3
  rw [ex5_8] at cf
  have cs := fun A c W hW => soundI_any A 16 c exW W hW (by omega)
  rw [ex5_10] at cs
  have cs0 := fun W => soundI_any none 0 0 [] W Reads.nil (by omega)
  rw [ex5_11] at cs0
  have HL := Lib.hid ex5_7
  have hs : exR.size = 131 := by have := congrArg List.length ex5_5; simpa using this
  have h130 : 130 < exR.size := by omega
  have h0 : 0 < exR.size := by omega
  have e130 : (((exR[130]'h130).toNat : Int) == 120) = true := by
    have h := congrArg (fun l : List UInt8 => l[130]?) ex5_5
    have : (exR[130]'h130) = 120 := by
      have h2 : exR.data.toList[130]? = some (exR[130]'h130) := by
        rw [List.getElem?_eq_getElem (by simpa using h130)]; rfl
      rw [h2] at h
      simpa using h
    rw [this]; rfl
  have e0 : (((exR[0]'h0).toNat : Int) == 0) = true := by
    have h := congrArg (fun l : List UInt8 => l[0]?) ex5_5
    have : (exR[0]'h0) = 0 := by
      have h2 : exR.data.toList[0]? = some (exR[0]'h0) := by
        rw [List.getElem?_eq_getElem (by simpa using h0)]; rfl
      rw [h2] at h
      simpa using h
    rw [this]; rfl
  dsimp only at cmk cn cw cr ct
  generalize exM = eM at *
  generalize exN = eN at *
  generalize exW = eW at *
  generalize exR = s at *
  generalize exT = eT at *
  have hsi : ((s.size : Int) == 131) = true := by rw [hs]; rfl
  have t34 : decide (([3, 4] : List Nat) = [3, 4]) = true := rfl
  go_enter Tryz.func5, Tryz.ntmps5
  go_wp2_with fail
  refine cmk.mono ?_
  rintro e w1 ⟨A1, n1, c1, rfl, ho1, _, hb1⟩
  obtain rfl : n1 = 16 := by rw [← (Reads.of_own ho1).lenS, HL.out.2.1]
  have R1 := Lib.hid (And.intro (Reads.of_own ho1) hb1)
  clear ho1 hb1 cmk
  go_wp2_with fail
  refine (cn _ _ _ R1.out.1).mono ?_
  rintro e w2 ⟨g2, n2, c2, rfl, hO2, _, hb2⟩
  obtain rfl : n2 = 16 := by rw [← hO2.reads.lenS, HL.out.2.2.1]
  have R2 := Lib.hid (And.intro hO2.reads (bstep R1.out.2 hb2))
  clear R1 hO2 hb2 cn
  go_wp2_with fail
  refine (cw _ _ _ R2.out.1).mono ?_
  rintro e w3 ⟨g3, n3, c3, rfl, hO3, _, hb3⟩
  obtain rfl : n3 = 16 := by rw [← hO3.reads.lenS, HL.out.2.2.2]
  have G3 := Lib.hid (Bag.add (T := []) (w0 := w) ⟨fun _ h => absurd h (by simp), bstep R2.out.2 hb3⟩ hO3.reads)
  clear R2 hO3 hb3 cw
  go_wp2_with fail
  refine (cr _ _ _ (G3.out.get _ _ (encS eW) (by simp))).mono ?_
  rintro e w4 ⟨rfl, hb⟩
  have G4 := Lib.hid (G3.out.step hb)
  clear G3 hb cr
  go_wp2_with fail
  refine (ct _ _ _ (G4.out.get _ _ (encS eW) (by simp))).mono ?_
  rintro e w5 ⟨g5, n5, c5, rfl, hO5, _, hb⟩
  obtain rfl : n5 = 16 := by rw [← hO5.reads.lenS, HL.out.1]
  have G5 := Lib.hid ((G4.out.step hb).add hO5.reads)
  clear G4 hb hO5 ct
  go_wp2_with fail
  refine (cb _ _ _ (G5.out.get _ _ (encS eW) (by simp))).mono ?_
  rintro e w6 ⟨A6, c6, rfl, ho6, hb⟩
  have G6 := Lib.hid (((G5.out.step hb).add (Reads.of_own ho6)).alloc (.cells #[.int .i64 3, .int .i64 4] 3))
  have L6 := Lib.hid (show Reads _ _ _ _ _ (encN [3, 4]) from reads_lit (w := w6) (e := 3) [3, 4] #[.int .i64 3, .int .i64 4] 2 rfl rfl)
  clear G5 hb ho6 cb
  go_wp2_with fail
  generalize w6.alloc (.cells #[.int .i64 3, .int .i64 4] 3) = w7 at G6 L6 ⊢
  refine (refInts_any _ _ _ _ _ _ [3, 4] [3, 4] _ (G6.out.get A6 _ _ (by simp)) L6.out (by simp) (by omega)).mono ?_
  rintro e w8 ⟨rfl, q, rfl⟩
  have G8 := Lib.hid (G6.out.drewN q)
  clear G6 L6
  generalize w7.drewN q = w8 at G8 ⊢
  go_wp2_with fail
  refine (cf _ _ _ (G8.out.get _ _ (encS eT) (by simp))).mono ?_
  rintro e w9 ⟨rfl, hb⟩
  have G9 := Lib.hid (G8.out.step hb)
  clear G8 hb cf
  go_wp2_with fail
  refine (cs _ _ _ (G9.out.get _ _ (encS eW) (by simp))).mono ?_
  rintro e w10 ⟨rfl, hb⟩
  have G10 := Lib.hid (G9.out.step hb)
  clear G9 hb cs
  go_wp2_with fail
  refine (cs0 _).mono ?_
  rintro e w11 ⟨rfl, hb⟩
  have G11 := Lib.hid (G10.out.step hb)
  clear G10 hb cs0
  go_wp2
  go_ret
  exact ⟨rfl, G11.out.below⟩

end Go.Proofs.YtpdfkakhahfcjaaGreat

/-
  InodeDoes is true of every list of texts, every three numbers and every text.
-/
namespace Go.Proofs.YtpdfkakhahfcjaaGreat
open Go.RowKit

theorem texts_same (A A' : Option Addr) (n c m c' : Nat) (a : List ByteArray) (w : World) (ha : Reads w w.heap.size 1 A n (encS a)) (hb : Reads w w.heap.size 1 A' m (encS a)) (hn : n ≤ 512) (hm : m ≤ 512) :
    Calls Tryz.prog 9 #[.slice A n c, .slice A' m c'] w fun e w' => e = .returned (.bool true) ∧ Below w.heap.size w w' :=
  (refTexts_any A A' n c m c' a a w ha hb (by omega) (by omega)).mono fun e w' h => ⟨by rw [h.1, show ∀ i : Decidable (a = a), @decide (a = a) i = true from fun i => @decide_eq_true _ i rfl], h.2⟩

set_option maxRecDepth 100000 in
set_option maxHeartbeats 8000000 in
theorem inodeDoes_any (P : Option Addr) (p pc : Nat) (a : List ByteArray) (i x : Int) (data : ByteArray) (kd : Int) (w : World) (hP : Reads w w.heap.size 1 P p (encS a)) (hp : p * 16 ≤ 140737488355328) (hx0 : -9223372036854775808 ≤ x) (hx1 : x ≤ 9223372036854775807) (hdl : data.size ≤ 140737488351232) :
    Calls Tryz.prog 3 #[.slice P p pc, .int .i64 i, .int .i64 x, .string data, .int .i64 kd] w fun e w' => e = .returned (.bool true) ∧ Below w.heap.size w w' := by
  have hl := hP.lenS
  have c1 := refSound_any P p pc a w hP hp
  by_cases hs : SoundP a
  rotate_left
  · have hf : soundR a = false := by
      cases h : soundR a with
      | false => rfl
      | true => exact absurd ((soundR_iff a).1 h) hs
    rw [hf] at c1
    clear hP hf hs
    go_enter Tryz.func3, Tryz.ntmps3
    go_wp2_with fail
    refine c1.mono ?_
    rintro e w1 ⟨rfl, hb1⟩
    have R1 := Lib.hid hb1
    clear hb1 c1
    go_wp2_with fail
    refine (awake5_any _).mono ?_
    rintro e w3 ⟨rfl, hb3⟩
    have R3 := Lib.hid (bstep R1.out hb3)
    clear R1 hb3
    go_wp2
    go_ret
    exact ⟨rfl, R3.out⟩
  · rw [(soundR_iff a).2 hs] at c1
    have h5 : p ≤ 512 := by have := hs.fit.1; omega
    have h8 : 8 ≤ p := by have := hs.fit.1; omega
    have cO := fun W hW => refOwn_any P p pc a W hW (by omega)
    have cN := fun A c W hW => newI_any A p c a kd W hW h8 h5
    have dN := fun W hW => refNew_any P p pc a kd W hW hs
    have cD := fun A c W hW => dropI_any A p c a i W hW hs.fit.map
    have dD := fun W hW => refDrop_any P p pc a i W hW hs
    have cW := fun A c W hW => writeI_any A p c a i x data W hW hs.fit.map hx0 hx1 (by omega)
    have dW := fun W hW => refWriteA_any P p pc a i x data W hW hs hx0 hx1 hdl
    have cT := fun A c W hW => truncI_any A p c a i x W hW hs.fit.map hx0 hx1
    have dT := fun W hW => refTrunc_any P p pc a i x W hW hs
    generalize newI a kd = y1 at *
    generalize dropI a i = y2 at *
    generalize writeI a i x data = y3 at *
    generalize truncI a i x = y4 at *
    obtain ⟨m1, k1, e1⟩ := y1
    obtain ⟨m2, e2⟩ := y2
    obtain ⟨m3, e3⟩ := y3
    obtain ⟨m4, e4⟩ := y4
    dsimp only at cN dN cD dD cW dW cT dT
    have t1 : ((k1 : Int) != (k1 : Int)) = false := by simp
    have t2 : (e1 != e1) = false := by simp
    have t3 : (e2 != e2) = false := by simp
    have t4 : (e3 != e3) = false := by simp
    have t5 : (e4 == e4) = true := by simp
    have H := Lib.hid hP
    clear hP hs hp hdl hl
    go_enter Tryz.func3, Tryz.ntmps3
    go_wp2_with fail
    refine c1.mono ?_
    rintro e w1 ⟨rfl, hb1⟩
    have K := Lib.hid hb1
    clear hb1 c1
    go_wp2_with fail
    refine (cO w1 (H.out.step K.out)).mono ?_
    rintro e w2 ⟨A0, c0, rfl, ho0, hb⟩
    have O := Lib.hid (Reads.of_own ho0)
    replace K := Lib.hid (bstep K.out hb)
    clear ho0 hb cO
    go_wp2_with fail
    refine (cN A0 c0 w2 O.out).mono ?_
    rintro e w3 ⟨g1a, n1a, c1a, rfl, hO, hn1a, hb⟩
    have RA := Lib.hid hO.reads
    replace O := Lib.hid (O.out.step hb)
    replace K := Lib.hid (bstep K.out hb)
    clear hO hb cN
    go_wp2_with fail
    refine (dN w3 (H.out.step K.out)).mono ?_
    rintro e w4 ⟨g1b, n1b, c1b, rfl, hO, hn1b, hb⟩
    have RB := Lib.hid hO.reads
    replace RA := Lib.hid (RA.out.step hb)
    replace O := Lib.hid (O.out.step hb)
    replace K := Lib.hid (bstep K.out hb)
    clear hO hb dN
    go_wp2_with fail
    refine (texts_same (some ⟨g1a, 0, none⟩) (some ⟨g1b, 0, none⟩) n1a c1a n1b c1b m1 w4 RA.out RB.out hn1a hn1b).mono ?_
    rintro e w5 ⟨rfl, hb⟩
    replace O := Lib.hid (O.out.step hb)
    replace K := Lib.hid (bstep K.out hb)
    clear hb RA RB
    go_wp2_with fail
    refine (cD A0 c0 w5 O.out).mono ?_
    rintro e w6 ⟨g2a, n2a, c2a, rfl, hO, hn2a, hb⟩
    have RA := Lib.hid hO.reads
    replace O := Lib.hid (O.out.step hb)
    replace K := Lib.hid (bstep K.out hb)
    clear hO hb cD
    go_wp2_with fail
    refine (dD w6 (H.out.step K.out)).mono ?_
    rintro e w7 ⟨g2b, n2b, c2b, rfl, hO, hn2b, hb⟩
    have RB := Lib.hid hO.reads
    replace RA := Lib.hid (RA.out.step hb)
    replace O := Lib.hid (O.out.step hb)
    replace K := Lib.hid (bstep K.out hb)
    clear hO hb dD
    go_wp2_with fail
    refine (texts_same (some ⟨g2a, 0, none⟩) (some ⟨g2b, 0, none⟩) n2a c2a n2b c2b m2 w7 RA.out RB.out hn2a hn2b).mono ?_
    rintro e w8 ⟨rfl, hb⟩
    replace O := Lib.hid (O.out.step hb)
    replace K := Lib.hid (bstep K.out hb)
    clear hb RA RB
    go_wp2_with fail
    refine (cW A0 c0 w8 O.out).mono ?_
    rintro e w9 ⟨g3a, n3a, c3a, rfl, hO, hn3a, hb⟩
    have RA := Lib.hid hO.reads
    replace O := Lib.hid (O.out.step hb)
    replace K := Lib.hid (bstep K.out hb)
    clear hO hb cW
    go_wp2_with fail
    refine (dW w9 (H.out.step K.out)).mono ?_
    rintro e w10 ⟨g3b, n3b, c3b, rfl, hO, hn3b, hb⟩
    have RB := Lib.hid hO.reads
    replace RA := Lib.hid (RA.out.step hb)
    replace O := Lib.hid (O.out.step hb)
    replace K := Lib.hid (bstep K.out hb)
    clear hO hb dW
    go_wp2_with fail
    refine (texts_same (some ⟨g3a, 0, none⟩) (some ⟨g3b, 0, none⟩) n3a c3a n3b c3b m3 w10 RA.out RB.out hn3a hn3b).mono ?_
    rintro e w11 ⟨rfl, hb⟩
    replace O := Lib.hid (O.out.step hb)
    replace K := Lib.hid (bstep K.out hb)
    clear hb RA RB
    go_wp2_with fail
    refine (cT A0 c0 w11 O.out).mono ?_
    rintro e w12 ⟨g4a, n4a, c4a, rfl, hO, hn4a, hb⟩
    have RA := Lib.hid hO.reads
    replace O := Lib.hid (O.out.step hb)
    replace K := Lib.hid (bstep K.out hb)
    clear hO hb cT
    go_wp2_with fail
    refine (dT w12 (H.out.step K.out)).mono ?_
    rintro e w13 ⟨g4b, n4b, c4b, rfl, hO, hn4b, hb⟩
    have RB := Lib.hid hO.reads
    replace RA := Lib.hid (RA.out.step hb)
    replace O := Lib.hid (O.out.step hb)
    replace K := Lib.hid (bstep K.out hb)
    clear hO hb dT
    go_wp2_with fail
    refine (texts_same (some ⟨g4a, 0, none⟩) (some ⟨g4b, 0, none⟩) n4a c4a n4b c4b m4 w13 RA.out RB.out hn4a hn4b).mono ?_
    rintro e w14 ⟨rfl, hb⟩
    replace O := Lib.hid (O.out.step hb)
    replace K := Lib.hid (bstep K.out hb)
    clear hb RA RB
    go_wp2_with fail
    refine (texts_same A0 P p c0 p pc a w14 O.out (H.out.step K.out) h5 h5).mono ?_
    rintro e w15 ⟨rfl, hb⟩
    replace K := Lib.hid (bstep K.out hb)
    clear hb O
    go_wp2_with fail
    refine (awake5_any _).mono ?_
    rintro e w16 ⟨rfl, hb⟩
    replace K := Lib.hid (bstep K.out hb)
    clear hb
    go_wp2
    go_ret
    exact ⟨rfl, K.out⟩

end Go.Proofs.YtpdfkakhahfcjaaGreat
