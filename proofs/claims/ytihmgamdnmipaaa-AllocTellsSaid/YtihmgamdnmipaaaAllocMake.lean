/-
  An image of the call's own; an empty image as the program makes it.
-/
import Derived.Test.YtihmgamdnmipaaaAllocHead
import Derived.Deep.LoopGhost
namespace Go.Proofs.Ytihmgamdnmipaaa
open Go.RowKit

/-- An image of the call's own: block g holds its blocks. -/
structure OwI (w : World) (base g n c : Nat) (img : List ByteArray) : Prop where
  own : w.ownsRow base 9 1 (.slice (some ⟨g, 0, none⟩) n c) n (encS img)
  pos : 0 < n
section
variable {w w' : World} {base g n c : Nat} {img : List ByteArray}
theorem OwI.of {A : Option Addr} (h : w.ownsRow base 9 1 (.slice A n c) n (encS img)) (hn : 0 < n) : ∃ g, A = some ⟨g, 0, none⟩ ∧ OwI w base g n c img := by
  obtain ⟨g, rfl, _⟩ := own_cells h hn
  exact ⟨g, rfl, h, hn⟩
theorem OwI.reads (h : OwI w base g n c img) : Reads w w.heap.size 1 (some ⟨g, 0, none⟩) n (encS img) := .of_own h.own
theorem OwI.len (h : OwI w base g n c img) : img.length = n := h.reads.lenS
theorem OwI.ge (h : OwI w base g n c img) : base ≤ g := own_row_ge h.own g rfl
theorem OwI.lt (h : OwI w base g n c img) : g < w.heap.size := by
  obtain ⟨g', e, _, hlt, _⟩ := own_cells h.own h.pos
  injection e with e
  injection e with e
  rw [e]; exact hlt
theorem OwI.cell (h : OwI w base g n c img) (j : Nat) (hj : j < n) : w.cell? ⟨g, j, none⟩ = some (.string (blk img j)) := by
  obtain ⟨b, o, e, _, hc⟩ := h.reads.str hj
  injection e with e
  injection e with e1 e2
  subst e1; subst e2
  rwa [Nat.zero_add] at hc
theorem OwI.free (h : OwI w base g n c img) (j : Nat) : w.frozen? ⟨g, j, none⟩ = false := by
  obtain ⟨g', e, _, _, ⟨cur, hg⟩, _⟩ := own_cells h.own h.pos
  injection e with e
  injection e with e
  subst e
  simp [World.frozen?, hg]
theorem OwI.set (h : OwI w base g n c img) (j : Nat) (s : ByteArray) : OwI (w.setCell ⟨g, j, none⟩ (.string s)) base g n c (img.set j s) := by
  refine ⟨?_, h.pos⟩
  have := (h.own.stored j (.string s)).1
  have e : encS (img.set j s) = (encS img).set j (.string s) := by simp [encS, List.map_set]
  rw [e]; exact this
theorem OwI.step (h : OwI w base g n c img) (hb : Below w.heap.size w w') : OwI w' base g n c img := ⟨own_below h.own hb, h.pos⟩
theorem OwI.below_set (h : OwI w base g n c img) (j : Nat) (u : Value) {w0 : World} {B : Nat} (hB : B ≤ base) (hb : Below B w0 w) : Below B w0 (w.setCell ⟨g, j, none⟩ u) := hb.setCell (Nat.le_trans hB h.ge) _
end

def mapL : Nat → ByteArray
  | 0 => zeroB
  | k + 1 => flipA (mapL k) k
theorem mapL_size : ∀ k, (mapL k).size = 128
  | 0 => zeroB_size
  | k + 1 => by rw [mapL, flipA_size, mapL_size k]
theorem zero_bit (j : Nat) : bitA zeroB j = false := by
  unfold bitA byA
  have : zeroB.data.toList = List.replicate 128 0 := by decide +kernel
  rw [this, List.getD_eq_getElem?_getD, List.getElem?_replicate]
  by_cases h : j / 8 < 128
  · rw [if_pos h]; simp
  · rw [if_neg h]; simp
theorem mapL_bit : ∀ (k : Nat), k ≤ 1024 → ∀ j, bitA (mapL k) j = decide (j < k)
  | 0, _, j => by rw [mapL, zero_bit]; simp
  | k + 1, h, j => by
    rw [mapL, bit_flip _ _ _ (by rw [mapL_size]; omega), mapL_bit k (by omega)]
    by_cases e : j = k
    · subst e; simp
    · rw [if_neg e, decide_eq_decide]; omega
def makeL (n k : Nat) : List ByteArray := ((List.replicate n zeroB).set 0 (superB n)).set 1 (mapL k)
def makeA (x : Int) : List ByteArray × Int := if x < 8 ∨ 512 < x then ([], 13) else (makeL x.toNat (firstA x.toNat), 0)
theorem makeL_length (n k : Nat) : (makeL n k).length = n := by simp [makeL]
theorem makeL_map {n k : Nat} (hn : 2 ≤ n) : blk (makeL n k) 1 = mapL k := by
  unfold blk makeL
  rw [List.getD_eq_getElem?_getD, List.getElem?_set, if_pos rfl, if_pos (by simp; omega)]
  rfl
theorem makeL_head {n k : Nat} (hn : 2 ≤ n) : blk (makeL n k) 0 = superB n := by
  unfold blk makeL
  rw [List.getD_eq_getElem?_getD, List.getElem?_set, if_neg (by decide), List.getElem?_set, if_pos rfl, if_pos (by simp; omega)]
  rfl
theorem makeL_turn {n k : Nat} (hn : 2 ≤ n) : turn1A (makeL n k) k = makeL n (k + 1) := by
  unfold turn1A
  rw [makeL_map hn]
  unfold makeL
  rw [List.set_set]
  rfl
theorem makeL_zero {n : Nat} (hn : 2 ≤ n) : makeL n 0 = (List.replicate n zeroB).set 0 (superB n) := by
  unfold makeL
  refine List.ext_getElem? fun j => ?_
  rw [List.getElem?_set]
  by_cases h : 1 = j
  · subst h
    rw [if_pos rfl, if_pos (by simp; omega), List.getElem?_set, if_neg (by decide), List.getElem?_replicate, if_pos (by omega)]
    rfl
  · rw [if_neg h]
theorem encS_rep (n : Nat) (s : ByteArray) : List.replicate n (Value.string s) = encS (List.replicate n s) := by simp [encS]

set_option maxRecDepth 100000 in
set_option maxHeartbeats 1000000 in
theorem makeA_any (x : Int) (w : World) : Calls Try.prog 10 #[.int .i64 x] w fun e w' => ∃ A n c, e = .returned (.tuple #[.slice A n c, .int .i64 (makeA x).2]) ∧ w'.ownsRow w.heap.size 9 1 (.slice A n c) n (encS (makeA x).1) ∧ n ≤ 512 ∧ Below w.heap.size w w' := by
  have ck := fun W => isCount_any x W
  by_cases hx : 8 ≤ x ∧ x ≤ 512
  · have HE : Hid (makeA x = (makeL x.toNat (firstA x.toNat), 0)) := Lib.hid (by unfold makeA; rw [if_neg (by omega)])
    rw [decide_eq_true hx] at ck
    obtain ⟨N, rfl⟩ : ∃ N : Nat, x = N := ⟨x.toNat, by omega⟩
    have hN : 8 ≤ N ∧ N ≤ 512 := by omega
    rw [Int.toNat_natCast] at HE
    obtain ⟨F, hF⟩ : ∃ F, F = firstA N := ⟨_, rfl⟩
    have hF2 : F ≤ 34 := by have := first_le hN.1 hN.2; omega
    have cf := fun A c W => first_any A N c (by unfold maxLen; omega) W
    rw [← hF] at HE cf
    have HN := Lib.hid hN
    clear hx hF
    go_enter Try.func10, Try.ntmps10
    go_wp2_with (go_at_call 43; refine (ck _).mono ?_; rintro e w1 ⟨rfl, rfl⟩)
    refine (padded0_any _).mono ?_
    rintro e w1 ⟨rfl, hb1⟩
    have hr := repeatS_any w1.heap.size (.string zeroB) N (w1.alloc (.cells #[.string zeroB] 9)) (by simp) (by go_simp) rfl (by omega)
    have B1 := Lib.hid (hb1.alloc hb1.size (.cells #[.string zeroB] 9))
    clear hb1
    go_wp2_with fail
    refine hr.mono ?_
    rintro e w2 ⟨A, c, rfl, ho, hb2⟩
    have B2 := Lib.hid (B1.out.trans (hb2.mono B1.out.size))
    obtain ⟨g, rfl, hO⟩ := OwI.of (by rw [← encS_rep]; exact ho) (by omega)
    have hbs : w.heap.size ≤ (w1.alloc (.cells #[.string zeroB] 9)).heap.size := B1.out.size
    have O2 := Lib.hid (show OwI w2 w.heap.size g N c (List.replicate N zeroB) from ⟨own_base hO.own hbs, hO.pos⟩)
    clear hO ho hb2 hbs hr B1
    go_wp2_with fail
    refine (head_any _ N c _ (by omega)).mono ?_
    rintro e w3 ⟨rfl, hb3⟩
    have B3 := Lib.hid (B2.out.trans (hb3.mono B2.out.size))
    have O3 := Lib.hid (O2.out.step hb3)
    clear hb3 B2 O2
    have f0 := O3.out.free 0
    have h0N : 0 < N := by omega
    have c0 := O3.out.cell 0 h0N
    go_wp2_with fail
    refine (cf _ _ _).mono ?_
    rintro e w4 ⟨rfl, rfl⟩
    have O4 := Lib.hid (O3.out.set 0 (superB N))
    have B4 := Lib.hid (O3.out.below_set 0 (.string (superB N)) (Nat.le_refl _) B3.out)
    generalize w3.setCell ⟨g, 0, none⟩ (.string (superB N)) = w5 at O4 B4 ⊢
    rw [← makeL_zero (by omega)] at O4
    clear f0 c0 B3 O3
    go_wp2
    go_loopg [19] F (fun gk s19 wr => ∃ i : Nat, i ≤ F ∧ F - i ≤ gk ∧ s19 = .int .i64 i ∧ Hid (OwI wr w.heap.size g N c (makeL N i) ∧ Below w.heap.size w wr))
    case atStart => exact ⟨0, Nat.zero_le _, by omega, rfl, Lib.hid ⟨O4.out, B4.out⟩⟩
    case round =>
      obtain ⟨i, hi, hgk, rfl, J⟩ := hrel
      by_cases hlt : i < F
      · have hil : (i : Int) < (F : Int) := by omega
        have h1N : 1 < N := by omega
        have c1 := J.out.1.cell 1 h1N
        have f1 := J.out.1.free 1
        rw [makeL_map (by omega)] at c1
        have ct := turned_any (mapL i) i (by rw [mapL_size]; omega) (by rw [mapL_size]; omega) (by omega)
        rw [show flipA (mapL i) i = mapL (i + 1) from rfl] at ct
        generalize mapL i = m at c1 ct
        go_wp2_with fail
        refine (ct _).mono ?_
        rintro e w6 ⟨rfl, hb6⟩
        have O6 := Lib.hid (J.out.1.step hb6)
        have B6 := Lib.hid (J.out.2.trans (hb6.mono J.out.2.size))
        clear J c1 f1 ct hb6
        have c1 := O6.out.cell 1 h1N
        have f1 := O6.out.free 1
        have JN : Hid (OwI (w6.setCell ⟨g, 1, none⟩ (.string (mapL (i + 1)))) w.heap.size g N c (makeL N (i + 1)) ∧ Below w.heap.size w (w6.setCell ⟨g, 1, none⟩ (.string (mapL (i + 1))))) := Lib.hid ⟨by
          have := O6.out.set 1 (mapL (i + 1))
          rwa [show mapL (i + 1) = flipA (mapL i) i from rfl, ← makeL_map (n := N) (k := i) (by omega), show (makeL N i).set 1 (flipA (blk (makeL N i) 1) i) = turn1A (makeL N i) i from rfl, makeL_turn (by omega), makeL_map (by omega)] at this, O6.out.below_set 1 _ (Nat.le_refl _) B6.out⟩
        go_wp2
        go_roundg (F - (i + 1))
        case measure => omega
        case rel => exact ⟨i + 1, by omega, by omega, by go_num, JN⟩
      · have : i = F := by omega
        subst this
        go_wp2
        go_ret2
        rw [HE.out]
        exact ⟨_, N, c, rfl, J.out.1.own, by omega, J.out.2⟩
  · have HE : Hid (makeA x = ([], 13)) := Lib.hid (by unfold makeA; rw [if_pos (by omega)])
    rw [decide_eq_false hx] at ck
    clear hx
    go_enter Try.func10, Try.ntmps10
    go_wp2_with (go_at_call 43; refine (ck _).mono ?_; rintro e w1 ⟨rfl, rfl⟩)
    go_ret2
    rw [HE.out]
    exact ⟨none, 0, 0, rfl, own_nil, by omega, Below.refl _ _⟩

end Go.Proofs.Ytihmgamdnmipaaa
