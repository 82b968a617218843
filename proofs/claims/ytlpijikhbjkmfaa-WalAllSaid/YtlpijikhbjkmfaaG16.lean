/-
  The document's own small answers for a log: how it is laid out, numbers as bytes.
-/
import Derived.Test.YtlpijikhbjkmfaaG02
import Derived.Test.YtlpijikhbjkmfaaG09
import Derived.Test.YtlpijikhbjkmfaaG14
import Derived.Test.YtlpijikhbjkmfaaG15
import Derived.Deep.QuietTactic
import Derived.BigQuiet
import Derived.Deep.RegionHeld3
namespace Go.Proofs.Ytlpijikhbjkmfaa
open Go.RowKit

set_option maxRecDepth 100000 in
theorem refLists_any (h : Nat) (hh : h ≤ 512) (w : World) : Calls Try.prog 42 #[.int .i64 h] w fun e w' => e = .returned (.int .i64 (listsN h : Nat)) ∧ w = w' := by
  go_enter Try.func42, Try.ntmps42
  go_wp2
  go_ret
  exact ⟨congrArg (fun z => Ending.returned (Value.int .i64 z)) (by unfold listsN; omega), rfl⟩

theorem blocksI_yes {h g : Nat} (h1 : 1 ≤ h) (h2 : h ≤ 512) (g1 : 1 ≤ g) (g2 : g ≤ 256) : blocksI h g = (1 + listsN h + g + h : Nat) := by
  unfold blocksI listsN
  rw [if_neg (by omega)]
  omega
set_option maxRecDepth 100000 in
theorem refBlocks_any (x y : Int) (w : World) : Calls Try.prog 61 #[.int .i64 x, .int .i64 y] w fun e w' => e = .returned (.int .i64 (blocksI x y)) ∧ w = w' := by
  by_cases hr : x < 1 ∨ 512 < x ∨ y < 1 ∨ 256 < y
  · have e : blocksI x y = 0 := by unfold blocksI; rw [if_pos hr]
    rw [e]
    clear e
    go_enter Try.func61, Try.ntmps61
    by_cases h1 : x < 1
    · go_wp2
      go_ret
      exact ⟨rfl, rfl⟩
    by_cases h2 : 512 < x
    · go_wp2
      go_ret
      exact ⟨rfl, rfl⟩
    by_cases h3 : y < 1
    · go_wp2
      go_ret
      exact ⟨rfl, rfl⟩
    have h4 : 256 < y := by omega
    go_wp2
    go_ret
    exact ⟨rfl, rfl⟩
  obtain ⟨h, rfl⟩ : ∃ h : Nat, x = h := ⟨x.toNat, by omega⟩
  obtain ⟨g, rfl⟩ : ∃ g : Nat, y = g := ⟨y.toNat, by omega⟩
  rw [blocksI_yes (by omega) (by omega) (by omega) (by omega)]
  have a1 : ¬ (h : Int) < 1 := by omega
  have a2 : ¬ (512 : Int) < h := by omega
  have a3 : ¬ (g : Int) < 1 := by omega
  have a4 : ¬ (256 : Int) < g := by omega
  have hl : listsN h ≤ 8 := by unfold listsN; omega
  have cl := fun W => refLists_any h (by omega) W
  go_enter Try.func61, Try.ntmps61
  go_wp2_with fail
  refine (cl _).mono ?_
  rintro e w1 ⟨rfl, rfl⟩
  go_wp2
  go_ret
  exact ⟨congrArg (fun z => Ending.returned (Value.int .i64 z)) (by omega), rfl⟩

def makeD (x y : Int) : D × Int := if blocksI x y = 0 then (noD, 13) else (newD (blocksI x y), 0)
set_option maxRecDepth 100000 in
set_option maxHeartbeats 1000000 in
theorem refImage_any (A : Option Addr) (n c : Nat) (img : List ByteArray) (x : Int) (w : World) (h : Reads w w.heap.size 1 A n (encS img)) (hn : n * 16 ≤ 140737488355328) :
    Calls Try.prog 33 #[.slice A n c, .int .i64 x] w fun e w' => e = .returned (.bool (decide (ImageP img x))) ∧ w = w' := by
  have H := Lib.hid h
  have HL := Lib.hid h.lenS
  clear h
  go_enter Try.func33, Try.ntmps33
  go_wp2
  go_loopg [5] n (fun g s5 wr => ∃ i : Nat, i ≤ n ∧ n - i ≤ g ∧ s5 = .int .i64 i ∧ w = wr ∧ Hid (∀ k, k < i → (blk img k).size = 128))
  case atStart => exact ⟨0, Nat.zero_le _, by omega, rfl, rfl, Lib.hid fun k hk => absurd hk (Nat.not_lt_zero _)⟩
  case round =>
    obtain ⟨i, hi, hg, rfl, rfl, J⟩ := hrel
    by_cases hlt : i < n
    · have hin : (i : Int) < (n : Int) := by omega
      obtain ⟨b1, o1, rfl, _, g1⟩ := H.out.str hlt
      by_cases hs : (blk img i).size = 128
      · have f1 : (((blk img i).size : Int) != 128) = false := by rw [hs]; rfl
        have JN : Hid (∀ k, k < i + 1 → (blk img k).size = 128) := Lib.hid fun k hk => by
          by_cases e : k = i
          · rw [e]; exact hs
          · exact J.out k (by omega)
        clear hs
        go_wp2
        go_roundg (n - (i + 1))
        case measure => omega
        case rel => exact ⟨i + 1, by omega, by omega, by go_num, rfl, JN⟩
      · have f1 : (((blk img i).size : Int) != 128) = true := by simp; omega
        have hno : decide (ImageP img x) = false := decide_eq_false fun hP => hs (hP.1 _ (List.mem_of_getElem? (blk_get (by rw [HL.out]; exact hlt))))
        clear hs
        go_wp2
        go_ret
        rw [hno]
        exact ⟨rfl, rfl⟩
    · have : i = n := by omega
      subst this
      have hP : ImageP img x ↔ (i : Int) = x := by
        unfold ImageP
        rw [HL.out]
        refine ⟨fun h => h.2, fun h => ⟨fun s hs => ?_, h⟩⟩
        obtain ⟨k, hk, e⟩ := List.mem_iff_getElem.1 hs
        have h2 := blk_get hk
        rw [List.getElem?_eq_getElem hk, e] at h2
        injection h2 with h2
        rw [h2]
        exact J.out k (by rw [← HL.out]; exact hk)
      have HP := Lib.hid hP
      clear hP
      go_wp2
      go_ret
      exact ⟨congrArg (fun z => Ending.returned (Value.bool z)) (by rw [decide_eq_decide.2 HP.out]; rfl), rfl⟩

set_option maxRecDepth 100000 in
set_option maxHeartbeats 1000000 in
theorem refWrong_any (A A' : Option Addr) (n c m c' : Nat) (d : D) (x y : Int) (w : World) (h : Dv w w.heap.size A n A' m d) :
    Calls Try.prog 32 #[.agg #[.slice A n c, .slice A' m c', .int .i64 d.left, .bool d.dead], .int .i64 x, .int .i64 y] w fun e w' => e = .returned (.int .i64 (wrongE d x y)) ∧ Below w.heap.size w w' := by
  have hmx : Try.prog.follows .mixedOrders = true := by kernel_rfl
  have cb := fun W => refBlocks_any x y W
  have hw : wrongE d x y = if blocksI x y = 0 then 13 else if (n : Int) ≠ blocksI x y then 14 else 0 := by unfold wrongE; rw [h.bs.lenS]
  rw [hw]
  clear hw h
  generalize blocksI x y = b at cb ⊢
  have R0 := Lib.hid (B4.new w (.slice A n c) (.slice A' m c') (.int .i64 d.left) (.bool d.dead))
  obtain ⟨y0, y1, y2, y3, yf⟩ := R0.out.cells
  by_cases h0 : b = 0
  · subst h0
    go_enter Try.func32, Try.ntmps32
    go_wp2_with fail
    refine (cb _).mono ?_
    rintro e w1 ⟨rfl, rfl⟩
    go_wp2
    go_ret
    exact ⟨rfl, alloc_below0 _ _⟩
  · rw [if_neg h0]
    obtain ⟨r, hr⟩ : ∃ r : Int, r = if (n : Int) ≠ b then 14 else 0 := ⟨_, rfl⟩
    rw [← hr]
    have HR := Lib.hid hr
    clear hr
    have h0' : (b == 0) = false := by simpa using h0
    go_enter Try.func32, Try.ntmps32
    go_wp2_with fail
    refine (cb _).mono ?_
    rintro e w1 ⟨rfl, rfl⟩
    go_wp2_with fail
    go_quiet ((go_at_call 61; refine Calls.quiet_of_same ((cb _).mono fun e w' h => ⟨h.1, h.2.symm⟩)))
    by_cases h1 : (n : Int) = b
    · have h1' : ((n : Int) != b) = false := by simpa using h1
      have HR : Hid (r = 0) := Lib.hid (HR.out.trans (if_neg (fun hh => hh h1)))
      clear h1
      go_wp2
      go_ret
      rw [HR.out]
      exact ⟨rfl, below_drewN (alloc_below0 _ _) _⟩
    · have h1' : ((n : Int) != b) = true := by simpa using h1
      have HR : Hid (r = 14) := Lib.hid (HR.out.trans (if_pos h1))
      clear h1
      go_wp2
      go_ret
      rw [HR.out]
      exact ⟨rfl, below_drewN (alloc_below0 _ _) _⟩

end Go.Proofs.Ytlpijikhbjkmfaa

/-
  The document's own answers for a log: numbers as bytes and back, and blocks filled up with zeros.
-/
namespace Go.Proofs.Ytlpijikhbjkmfaa
open Go.RowKit

theorem beL_length (n k : Nat) : (beL n k).length = k := by simp [beL]
theorem beL_get {n k j : Nat} (h : j < k) : (beL n k)[j]? = some (UInt8.ofNat (n / 256 ^ (k - 1 - j))) := by simp [beL, h]
theorem take_snoc_get {α : Type} {l : List α} {j : Nat} {x : α} (h : l[j]? = some x) : l.take (j + 1) = l.take j ++ [x] := by
  rw [List.take_add_one, h]; rfl
theorem be_byte (n i : Nat) : (n : Int) / 2 ^ (8 * i) % 256 = ((UInt8.ofNat (n / 256 ^ i)).toNat : Int) := by
  have e : (256 : Nat) ^ i = 2 ^ (8 * i) := by rw [show (256 : Nat) = 2 ^ 8 by decide, ← Nat.pow_mul]
  rw [e]
  have h2 : (UInt8.ofNat (n / 2 ^ (8 * i))).toNat = n / 2 ^ (8 * i) % 256 := by simp
  rw [h2]
  simp
theorem u8s_be {n k j : Nat} (h : j < k) : u8s ((beL n k).take j) ++ [Value.int .u8 ((n : Int) / 2 ^ (8 * (k - 1 - j)) % 256)] = u8s ((beL n k).take (j + 1)) := by
  rw [take_snoc_get (beL_get h), be_byte]
  simp [u8s]

set_option maxRecDepth 100000 in
set_option maxHeartbeats 1000000 in
theorem refBe_any (n k : Nat) (w : World) (_hn : n < 18446744073709551616) (hk : k ≤ 8) (hk1 : 0 < k) : Calls Try.prog 39 #[.int .u64 n, .int .i64 k] w fun e w' => e = .returned (.string (mkB (beL n k))) ∧ Below w.heap.size w w' := by
  obtain ⟨i0, hi0, hz0, hz1, hz2⟩ := info_parts infoU
  go_enter Try.func39, Try.ntmps39
  go_wp2
  go_loopg [5, 6] k (fun g s5 s6 wr => ∃ (j : Nat) (A : Option Addr) (c : Nat), j ≤ k ∧ k - j ≤ g ∧ s6 = .int .i64 ((k : Int) - 1 - j) ∧ s5 = .slice A j c ∧ Hid (wr.ownsRow w.heap.size 5 1 (.slice A j c) j (u8s ((beL n k).take j)) ∧ Below w.heap.size w wr))
  case atStart => exact ⟨0, none, 0, Nat.zero_le _, by omega, by go_num, rfl, Lib.hid ⟨own_nil, Below.refl _ _⟩⟩
  case round =>
    obtain ⟨j, A, c, hj, hg, rfl, rfl, J⟩ := hrel
    by_cases hlt : j < k
    · have h0 : (0 : Int) ≤ (k : Int) - 1 - j := by omega
      have hi2 : (k : Int) - 1 - j = ((k - 1 - j : Nat) : Int) := by omega
      have HV := Lib.hid (u8s_be (n := n) hlt)
      rw [hi2]
      go_wp2_with (at_builtin; refine wpList_append_reads _ rfl (.tmp 13) (.tmp 19) 83 rfl w.heap.size 5 i0 _ 1 1 Try.underlying83 hi0 hz0 hz1 hz2 rfl (by omega) (.slice A j c) j (u8s ((beL n k).take j)) rfl (own_alloc J.out.1 _) _ (some ⟨wr.heap.size, 0, none⟩) 1 1 [.int .u8 ((n : Int) / 2 ^ (8 * (k - 1 - j)) % 256)] rfl (reads_new wr #[.int .u8 ((n : Int) / 2 ^ (8 * (k - 1 - j)) % 256)] 5 1 1 rfl) (by simp [Value.oneCell']) (by simp only [maxLen]; omega) (by omega) (by have := J.out.2.size; simp; omega) ?_; intro A6 c6 w6 ho6 hg6 _)
      have JN : Hid (w6.ownsRow w.heap.size 5 1 (.slice A6 (j + 1) c6) (j + 1) (u8s ((beL n k).take (j + 1))) ∧ Below w.heap.size w w6) :=
        Lib.hid ⟨own_eq_vals ho6 HV.out, (J.out.2.alloc J.out.2.size _).grown hg6 (by have := J.out.2.size; simp; omega) (fun q hq => by have := own_row_ge J.out.1 _ hq; omega)⟩
      go_roundg (k - (j + 1))
      case measure => omega
      case rel => exact ⟨j + 1, A6, c6, by omega, by omega, by go_num, rfl, JN⟩
    · have : j = k := by omega
      subst this
      have hT : (beL n j).take j = beL n j := List.take_of_length_le (by rw [beL_length]; exact Nat.le_refl _)
      have hO := J.out.1
      rw [hT] at hO
      have hconv := own_string Try.underlying83 Try.underlying5 Try.underlying9 hO (by omega)
      clear hT hO
      go_wp2
      go_ret
      exact ⟨rfl, J.out.2⟩

theorem neL_snoc (l : List UInt8) (b : UInt8) : neL (l ++ [b]) = neL l * 256 + b.toNat := by simp [neL]
theorem neL_go : ∀ (l : List UInt8) (n : Nat), l.foldl (fun n b => n * 256 + b.toNat) n < (n + 1) * 256 ^ l.length
  | [], n => by simp
  | b :: l, n => by
    have h := neL_go l (n * 256 + b.toNat)
    have hb := b.toNat_lt
    have h2 : (n * 256 + b.toNat + 1) * 256 ^ l.length ≤ ((n + 1) * 256) * 256 ^ l.length := Nat.mul_le_mul_right _ (by omega)
    show l.foldl (fun n b => n * 256 + b.toNat) (n * 256 + b.toNat) < _
    rw [List.length_cons, Nat.pow_succ, Nat.mul_comm (256 ^ l.length) 256, ← Nat.mul_assoc]
    omega
theorem neL_lt (l : List UInt8) : neL l < 256 ^ l.length := by
  have := neL_go l 0
  simpa [neL] using this
theorem padL_of (s : ByteArray) : s ++ strOfNums (List.replicate (128 - s.size) 0) = padL s.data.toList := by
  apply ByteArray.ext
  rw [ByteArray.data_append]
  have hl : s.data.toList.length = s.size := by simp
  unfold padL mkB strOfNums
  rw [hl, List.map_replicate]
  apply Array.ext'
  simp
set_option maxRecDepth 100000 in
set_option maxHeartbeats 1000000 in
theorem refPad_any (s : ByteArray) (w : World) (hs : s.size ≤ 128) : Calls Try.prog 41 #[.string s] w fun e w' => e = .returned (.string (padL s.data.toList)) ∧ Below w.heap.size w w' := by
  obtain ⟨i0, hi0, hz0, hz1, hz2⟩ := info_parts infoU
  obtain ⟨k, hk⟩ : ∃ k : Nat, k = 128 - s.size := ⟨_, rfl⟩
  have HP := Lib.hid (padL_of s)
  rw [← hk] at HP
  have hk2 : (128 : Int) - (s.size : Int) = (k : Int) := by omega
  have hk3 : k ≤ 128 := by omega
  clear hs hk
  go_enter Try.func41, Try.ntmps41
  go_wp2_with (at_make; refine wpList_make_full _ rfl _ _ 83 rfl w.heap.size 5 i0 _ 1 Try.underlying83 hi0 hz0 hz1 .i64 .i64 k k k rfl rfl rfl rfl ?_ ?_ ?_ ?_)
  · rw [hz2]; omega
  · simp only [maxLen]; omega
  · exact Nat.le_refl _
  intro w1 ho1 hg1
  have hcell : ∀ i, i < k → w1.cell? ⟨w.heap.size, 0 + i, none⟩ = some (.int .u8 ((List.replicate k (0 : Int)).getD i 0)) := by
    intro i hi
    rw [Nat.zero_add, ho1.cellAt i (by omega)]
    show (madeCells #[.int .u8 0] k).toList[i]? = _
    rw [toList_madeCells_one, List.getElem?_replicate, if_pos hi]
    rw [List.getD_eq_getElem?_getD, List.getElem?_replicate, if_pos hi]
    rfl
  have hcv := run_convert_bytes_arg (P := Try.prog) w1 83 5 Try.underlying83 Try.underlying5 w.heap.size 0 k k (List.replicate k 0) (by simp) hcell 9 Try.underlying9
  have hb1 : Below w.heap.size w w1 := (Below.refl _ _).grown hg1 (Nat.le_refl _) (by intro k hk; cases hk)
  have hzs : (strOfNums (List.replicate k 0)).size = k := by
    show (strOfNums (List.replicate k 0)).data.size = k
    simp [strOfNums]
  have hsum : ¬ 9223372036854775807 < s.size + (strOfNums (List.replicate k 0)).size := by rw [hzs]; omega
  generalize strOfNums (List.replicate k 0) = z at hcv HP hsum
  clear ho1 hg1 hcell hzs
  go_wp2
  go_ret
  rw [HP.out]
  exact ⟨rfl, hb1⟩

end Go.Proofs.Ytlpijikhbjkmfaa

/-
  The program's small functions for a log: how it is laid out, numbers as bytes and back, blocks filled up with zeros.
-/
namespace Go.Proofs.Ytlpijikhbjkmfaa
open Go.RowKit

/-- Where the list, the log and home begin, and where home ends. -/
def layV (x y : Int) : Int × Int × Int × Int := if x < 1 ∨ 512 < x ∨ y < 1 ∨ 256 < y then (0, 0, 0, 0) else (1, 1 + (x + 63) / 64, 1 + (x + 63) / 64 + y, 1 + (x + 63) / 64 + y + x)
theorem layV_end (x y : Int) : (layV x y).2.2.2 = blocksI x y := by
  unfold layV blocksI
  split <;> rfl
def layA (p : Int × Int × Int × Int) : Value := .agg #[.int .i64 p.1, .int .i64 p.2.1, .int .i64 p.2.2.1, .int .i64 p.2.2.2]
theorem layV_no {x y : Int} (h : x < 1 ∨ 512 < x ∨ y < 1 ∨ 256 < y) : layV x y = (0, 0, 0, 0) := if_pos h
theorem layV_yes {x y : Int} (h : ¬ (x < 1 ∨ 512 < x ∨ y < 1 ∨ 256 < y)) : layV x y = (1, 1 + (x + 63) / 64, 1 + (x + 63) / 64 + y, 1 + (x + 63) / 64 + y + x) := if_neg h

theorem lay_none (w : World) (o : Obj) (_k : Nat) : Below w.heap.size w (w.alloc o) := alloc_below0 w o

set_option maxRecDepth 100000 in
set_option maxHeartbeats 1000000 in
theorem lay_bad (x y : Int) (w : World) (hr : x < 1 ∨ 512 < x ∨ y < 1 ∨ 256 < y) : Calls Try.prog 50 #[.int .i64 x, .int .i64 y] w fun e w' => e = .returned (layA (0, 0, 0, 0)) ∧ Below w.heap.size w w' := by
  unfold layA
  go_enter Try.func50, Try.ntmps50
  by_cases h1 : x < 1
  · go_wp2
    refine bodyPost_ret (v := .agg #[.int .i64 0, .int .i64 0, .int .i64 0, .int .i64 0]) (by simp [results, Try.results50, go_sem]) rfl ⟨rfl, ?_⟩
    repeat (refine Below.setCell ?_ (by simp) _)
    exact alloc_below0 _ _
  by_cases h2 : 512 < x
  · go_wp2
    refine bodyPost_ret (v := .agg #[.int .i64 0, .int .i64 0, .int .i64 0, .int .i64 0]) (by simp [results, Try.results50, go_sem]) rfl ⟨rfl, ?_⟩
    repeat (refine Below.setCell ?_ (by simp) _)
    exact alloc_below0 _ _
  by_cases h3 : y < 1
  · go_wp2
    refine bodyPost_ret (v := .agg #[.int .i64 0, .int .i64 0, .int .i64 0, .int .i64 0]) (by simp [results, Try.results50, go_sem]) rfl ⟨rfl, ?_⟩
    repeat (refine Below.setCell ?_ (by simp) _)
    exact alloc_below0 _ _
  have h4 : 256 < y := by omega
  go_wp2
  refine bodyPost_ret (v := .agg #[.int .i64 0, .int .i64 0, .int .i64 0, .int .i64 0]) (by simp [results, Try.results50, go_sem]) rfl ⟨rfl, ?_⟩
  repeat (refine Below.setCell ?_ (by simp) _)
  exact alloc_below0 _ _

set_option maxRecDepth 100000 in
set_option maxHeartbeats 2000000 in
theorem lay_good (h g : Nat) (w : World) (h1 : 1 ≤ h) (h2 : h ≤ 512) (g1 : 1 ≤ g) (g2 : g ≤ 256) : Calls Try.prog 50 #[.int .i64 h, .int .i64 g] w fun e w' => e = .returned (layA (1, 1 + ((h : Int) + 63) / 64, 1 + ((h : Int) + 63) / 64 + g, 1 + ((h : Int) + 63) / 64 + g + h)) ∧ Below w.heap.size w w' := by
  unfold layA
  have a1 : ¬ (h : Int) < 1 := by omega
  have a2 : ¬ (512 : Int) < h := by omega
  have a3 : ¬ (g : Int) < 1 := by omega
  have a4 : ¬ (256 : Int) < g := by omega
  have e1 : (h : Int) + 64 - 1 = (h : Int) + 63 := by omega
  have b1 : 0 ≤ ((h : Int) + 63) / 64 := by omega
  have b2 : ((h : Int) + 63) / 64 ≤ 8 := by omega
  go_enter Try.func50, Try.ntmps50
  go_wp2
  refine bodyPost_ret (v := .agg #[.int .i64 1, .int .i64 (1 + ((h : Int) + 63) / 64), .int .i64 (1 + ((h : Int) + 63) / 64 + g), .int .i64 (1 + ((h : Int) + 63) / 64 + g + h)]) (by simp [results, Try.results50, go_sem]) rfl ⟨rfl, ?_⟩
  repeat (first | (with_reducible refine Below.setCell ?_ (by simp; try omega) _) | (with_reducible refine Below.alloc ?_ (by simp; try omega) _))
  exact Below.refl _ _

theorem lay_any (x y : Int) (w : World) : Calls Try.prog 50 #[.int .i64 x, .int .i64 y] w fun e w' => e = .returned (layA (layV x y)) ∧ Below w.heap.size w w' := by
  by_cases hr : x < 1 ∨ 512 < x ∨ y < 1 ∨ 256 < y
  · rw [layV_no hr]; exact lay_bad x y w hr
  · obtain ⟨h, rfl⟩ : ∃ h : Nat, x = h := ⟨x.toNat, by omega⟩
    obtain ⟨g, rfl⟩ : ∃ g : Nat, y = g := ⟨y.toNat, by omega⟩
    rw [layV_yes hr]
    exact lay_good h g w (by omega) (by omega) (by omega) (by omega)

set_option maxRecDepth 100000 in
set_option maxHeartbeats 1000000 in
theorem blocksP_any (x y : Int) (w : World) : Calls Try.prog 17 #[.int .i64 x, .int .i64 y] w fun e w' => e = .returned (.int .i64 (blocksI x y)) ∧ Below w.heap.size w w' := by
  have cl := fun W => lay_any x y W
  rw [← layV_end]
  generalize layV x y = p at cl ⊢
  unfold layA at cl
  have hf : ∀ (a b c d : Value) (W : World), (Instr.field 59 (.agg #[a, b, c, d]) 3).run Try.prog W = .ok d W := fun _ _ _ _ _ => by kernel_rfl
  go_enter Try.func17, Try.ntmps17
  go_wp2_with fail
  refine (cl _).mono ?_
  rintro e w1 ⟨rfl, hb1⟩
  go_wp2
  go_ret
  exact ⟨rfl, hb1⟩

set_option maxRecDepth 100000 in
set_option maxHeartbeats 2000000 in
theorem makeP_any (x y : Int) (w : World) : Calls Try.prog 10 #[.int .i64 x, .int .i64 y] w fun e w' => Tells2 w w' (makeD x y).1 (makeD x y).2 e := by
  have cb := fun W => blocksP_any x y W
  by_cases h0 : blocksI x y = 0
  · have HE : Hid (makeD x y = (noD, 13)) := Lib.hid (by unfold makeD; rw [if_pos h0])
    rw [h0] at cb
    clear h0
    go_enter Try.func10, Try.ntmps10
    go_wp2_with fail
    refine (cb _).mono ?_
    rintro e w1 ⟨rfl, hb1⟩
    have R1 := Lib.hid ((B4.new w (.slice none 0 0) (.slice none 0 0) (.int .i64 0) (.bool false)).step hb1)
    obtain ⟨y0, y1, y2, y3, yf⟩ := R1.out.cells
    have HB : Hid (Below w.heap.size w w1) := Lib.hid ((alloc_below0 w _).trans (hb1.mono (by simp)))
    clear hb1
    go_wp2
    refine bodyPost_ret (v := .tuple #[.agg #[.slice none 0 0, .slice none 0 0, .int .i64 0, .bool false], .int .i64 13]) (by simp [results, Try.results10, go_sem, y0, y1, y2, y3]) rfl ?_
    rw [HE.out]
    refine ⟨none, 0, 0, none, 0, 0, rfl, dv_none _ _, ?_⟩
    repeat (with_reducible refine Below.setCell ?_ (by simp) _)
    exact HB.out
  · have HE : Hid (makeD x y = (newD (blocksI x y), 0)) := Lib.hid (by unfold makeD; rw [if_neg h0])
    have h0' : (blocksI x y == 0) = false := by simpa using h0
    have cn := fun W => new_any (blocksI x y) W
    rw [HE.out]
    clear HE
    generalize blocksI x y = b at cb cn h0 h0' ⊢
    generalize newD b = d at cn ⊢
    go_enter Try.func10, Try.ntmps10
    go_wp2_with fail
    refine (cb _).mono ?_
    rintro e w0 ⟨rfl, hb0⟩
    have HB : Hid (Below w.heap.size w w0) := Lib.hid ((alloc_below0 w _).trans (hb0.mono (by simp)))
    have R0 := Lib.hid ((B4.new w (.slice none 0 0) (.slice none 0 0) (.int .i64 0) (.bool false)).step hb0)
    clear hb0
    go_wp2_with fail
    refine (cn _).mono ?_
    rintro e w1 ⟨A, n, c, A', m, c', rfl, hd1, hb1⟩
    have R1 := Lib.hid (R0.out.step hb1)
    obtain ⟨y0, y1, y2, y3, yf⟩ := R1.out.cells
    go_wp2
    change bodyPost _ _ _ _ _ (putD w1 w.heap.size (.slice A n c) (.slice A' m c') (.int .i64 d.left) (.bool d.dead))
    have P := Lib.hid (And.intro (putD_b4 (A := A) (n := n) (c := c) (A' := A') (m := m) (c' := c') (l2 := d.left) (z2 := d.dead) R1.out) (And.intro (putD_dv (A := A) (n := n) (c := c) (A' := A') (m := m) (c' := c') (l2 := d.left) (z2 := d.dead) R1.out hd1) (putD_below (g := w.heap.size) (a := .slice A n c) (b := .slice A' m c') (c := .int .i64 d.left) (d := .bool d.dead) (HB.out.trans (hb1.mono HB.out.size)) (Nat.le_refl _))))
    generalize putD w1 w.heap.size (.slice A n c) (.slice A' m c') (.int .i64 d.left) (.bool d.dead) = w2 at P ⊢
    clear y0 y1 y2 y3 yf hd1 hb1 R1
    obtain ⟨y0, y1, y2, y3, yf⟩ := P.out.1.cells
    refine bodyPost_ret (v := .tuple #[.agg #[.slice A n c, .slice A' m c', .int .i64 d.left, .bool d.dead], .int .i64 0]) (by simp [results, Try.results10, go_sem, y0, y1, y2, y3]) rfl ?_
    exact ⟨A, n, c, A', m, c', rfl, P.out.2.1, P.out.2.2⟩

end Go.Proofs.Ytlpijikhbjkmfaa
