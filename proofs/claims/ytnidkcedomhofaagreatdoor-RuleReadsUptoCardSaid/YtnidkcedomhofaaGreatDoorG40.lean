/-
  The document's own answers of layer 13: a duration, read.
-/
import Derived.Test.YtnidkcedomhofaaGreatDoorG07
import Derived.Test.YtnidkcedomhofaaGreatDoorG10
import Derived.Test.YtnidkcedomhofaaGreatDoorG03
import Derived.Lib.Hide
import Derived.Test.YtnidkcedomhofaaGreatDoorG11
import Derived.Test.YtnidkcedomhofaaGreatDoorG12
import Derived.Test.YtnidkcedomhofaaGreatDoorG16
import Derived.Test.YtnidkcedomhofaaGreatDoorG17
import Derived.Lib.IndexLaws
import Derived.Lib.IndexBytes
namespace Go.Proofs.YtnidkcedomhofaaGreatDoor
open Go.RowKit

theorem intNe {n : Nat} {d : Int} (h : ¬ (n : Int) = d) : ((n : Int) == d) = false ∧ ((n : Int) != d) = true := ⟨by rw [beq_eq_false_iff_ne]; exact h, by simpa using h⟩
theorem byte_of {c : UInt8} {n : Nat} (h : c.toNat = n) : c = UInt8.ofNat n := by rw [← h, UInt8.ofNat_toNat]
theorem listR (s : ByteArray) : s.data.toList.length = s.size := (bsize s).symm
theorem getR {s : ByteArray} {k : Nat} (h : k < s.size) : s.data.toList[k]? = some s[k] := get_at h
theorem dropR {s : ByteArray} {k : Nat} (h : k < s.size) : s.data.toList.drop k = s[k] :: s.data.toList.drop (k + 1) := by
  have hl : k < s.data.toList.length := by rw [listR]; exact h
  rw [List.drop_eq_getElem_cons hl]
  first | rfl | (congr 1; exact Option.some.inj ((List.getElem?_eq_getElem hl).symm.trans (getR h)))
theorem takeR {s : ByteArray} {k : Nat} (h : k < s.size) : s.data.toList.take (k + 1) = s.data.toList.take k ++ [s[k]] := by
  rw [List.take_add_one, getR h]
  first | done | rfl
theorem mk_listR (l : List UInt8) : (⟨l.toArray⟩ : ByteArray).data.toList = l := by simp
theorem list_mkR (s : ByteArray) : (⟨s.data.toList.toArray⟩ : ByteArray) = s := by apply ByteArray.ext; simp
theorem mk_sizeR (l : List UInt8) : (⟨l.toArray⟩ : ByteArray).size = l.length := by rw [← listR, mk_listR]
theorem cutR (s : ByteArray) (a b : Nat) : (s.extract a b).data.toList = (s.data.toList.drop a).take (b - a) := by
  rw [ByteArray.data_extract, Array.toList_extract, List.extract_eq_take_drop]
theorem bytesR {a b : ByteArray} (h : a.data.toList = b.data.toList) : a = b := by apply ByteArray.ext; rwa [← Array.toList_inj]
theorem tailR (s : ByteArray) (k : Nat) : s.extract k s.size = ⟨(s.data.toList.drop k).toArray⟩ := by
  apply bytesR
  rw [cutR, mk_listR, List.take_of_length_le (by rw [List.length_drop, listR]; omega)]
theorem headR (s : ByteArray) (k : Nat) : (s.extract 0 k).data.toList = s.data.toList.take k := by rw [cutR]; simp
theorem span_at {s : ByteArray} {k : Nat} (_hk : k ≤ s.size) (hd : ∀ c ∈ s.data.toList.take k, digN c.toNat = true) (hn : ∀ h : k < s.size, digN s[k].toNat = false) : spanD s.data.toList = (s.data.toList.take k, s.data.toList.drop k) := by
  have := spanD_of (s.data.toList.take k) (s.data.toList.drop k) hd (fun c r h => by
    have hlt : k < s.size := by
      rcases Nat.lt_or_ge k s.size with h1 | h1
      · exact h1
      · rw [List.drop_of_length_le (by rw [listR]; exact h1)] at h; cases h
    rw [dropR hlt] at h
    injection h with h1 h2
    rw [← h1]
    exact hn hlt)
  rwa [List.take_append_drop] at this
/-- What the document's number tells. -/
def NumSays (s : ByteArray) (c : UInt8) (e : Ending) : Prop :=
  (∃ v r, numR s.data.toList c = some (v, r) ∧ e = .returned (.tuple #[.int .i64 v, .string ⟨r.toArray⟩, .bool true])) ∨ (numR s.data.toList c = none ∧ e = .returned (.tuple #[.int .i64 0, .string s, .bool false]))
end Go.Proofs.YtnidkcedomhofaaGreatDoor

/-
  The document's own answers of layer 13: a duration's time, its parts, and the whole.
-/
namespace Go.Proofs.YtnidkcedomhofaaGreatDoor
open Go.RowKit

theorem ne_text {r : List UInt8} (h : r ≠ []) : (⟨r.toArray⟩ : ByteArray).toList.isEmpty = false := by
  rw [ByteArray.toList_eq, mk_listR]
  cases r with
  | nil => exact absurd rfl h
  | cons c r => rfl
theorem ne_listR {r : List UInt8} (h : r ≠ []) : r.isEmpty = false := by
  cases r with
  | nil => exact absurd rfl h
  | cons c r => rfl
end Go.Proofs.YtnidkcedomhofaaGreatDoor

/-
  The program's own functions of layer 13: a duration and an offset, written; an offset, read.
-/
namespace Go.Proofs.YtnidkcedomhofaaGreatDoor
open Go.RowKit

theorem bytesV {a b : ByteArray} (h : a.data.toList = b.data.toList) : a = b := by apply ByteArray.ext; rwa [← Array.toList_inj]
theorem app_list (a b : ByteArray) : (a ++ b).data.toList = a.data.toList ++ b.data.toList := by rw [ByteArray.data_append, Array.toList_append]
theorem dec_mk (n : Nat) (c : UInt8) : (⟨(Lib.decDigits n ++ [c]).toArray⟩ : ByteArray).data.toList = Lib.decDigits n ++ [c] := by simp
/-! DURATIONTEXT -/
theorem clkQ_len (n : Nat) (hn : n < 86400) : (clkQ n).length ≤ 30 := by
  have l1 := dec_len 4 (n / 3600) (by omega)
  have l2 := dec_len 4 (n / 60 % 60) (by omega)
  have l3 := dec_len 4 (n % 60) (by omega)
  unfold clkQ
  rw [List.length_append, List.length_append]
  have q1 : ∀ (p : Prop) [Decidable p] (x : List UInt8) (c : UInt8), x.length ≤ 5 → (if p then x ++ [c] else []).length ≤ 6 := fun p _ x c h => by split <;> simp <;> omega
  have := q1 (0 < n / 3600) _ 72 l1
  have := q1 (0 < n / 60 % 60 ∨ (0 < n / 3600 ∧ 0 < n % 60)) _ 77 l2
  have := q1 (0 < n % 60 ∨ (n / 3600 = 0 ∧ n / 60 % 60 = 0)) _ 83 l3
  omega
end Go.Proofs.YtnidkcedomhofaaGreatDoor

/-
  The document's own answers of layer 13: what stands behind the P, and a whole duration.
-/
namespace Go.Proofs.YtnidkcedomhofaaGreatDoor
open Go.RowKit

/-- A text that has a first byte. -/
structure Hd (A : ByteArray) (c : UInt8) (q : List UInt8) : Prop where
  pos : 0 < A.size
  at0 : ∀ p : 0 < A.size, (A[0]'p).toNat = c.toNat
  ne : A.toList.isEmpty = false
  one : (1 : Int) ≤ (A.size : Int)
  tail : A.extract 1 A.size = ⟨q.toArray⟩
theorem Hd.of {A : ByteArray} {c : UInt8} {q : List UInt8} (h : A.data.toList = c :: q) : Hd A c q := by
  have hl := listR A
  rw [h, List.length_cons] at hl
  have hp : 0 < A.size := by omega
  refine ⟨hp, ?_, ?_, by omega, (dropOne A h).1⟩
  · intro p
    have := getR hp
    rw [h] at this
    simp only [List.getElem?_cons_zero, Option.some.injEq] at this
    rw [this]
  · rw [ByteArray.toList_eq, h]; rfl
theorem Hd.mk_of (c : UInt8) (q : List UInt8) : Hd ⟨(c :: q).toArray⟩ c q := Hd.of (mk_listR _)
theorem goD_T (a : Int) (q : List UInt8) : goP 68 a (84 :: q) = goP 84 a q := by rw [goD, if_neg (by simp)]; rfl
theorem goD_no {a : Int} {c : UInt8} (h : c ≠ 84) (q : List UInt8) : goP 68 a (c :: q) = none := by
  rw [goD, if_neg (by simp)]
  split
  · rename_i e; injection e with e1; exact absurd e1 h
  · rfl
theorem goPP_T {q : List UInt8} (a : Int) (h1 : numR (84 :: q) 87 = none) (h2 : numR (84 :: q) 68 = none) : goP 80 a (84 :: q) = goP 84 a q := by rw [goPP, h1, h2]; rfl
theorem goPP_no {c : UInt8} (hc : c ≠ 84) {q : List UInt8} (a : Int) (h1 : numR (c :: q) 87 = none) (h2 : numR (c :: q) 68 = none) : goP 80 a (c :: q) = none := by
  rw [goPP, h1, h2]
  simp only
  split
  · rename_i e; injection e with e1; exact absurd e1 hc
  · rfl
theorem runP_add (k : Int) : ∀ (xs : List (UInt8 × List UInt8)) (c : UInt8) (a : Int), runP (c, a + k) xs = (runP (c, a) xs).map fun s => (s.1, s.2 + k)
  | [], c, a => rfl
  | x :: xs, c, a => by
    simp only [runP]
    unfold stepP
    simp only
    split
    · simp only [Option.bind_some]
      rw [show a + k + (cntP x.1 x.2).1 * unitP x.1 = a + (cntP x.1 x.2).1 * unitP x.1 + k by omega]
      exact runP_add k xs x.1 _
    · rfl
theorem goP_add (c : UInt8) (k : Int) (l : List UInt8) : goP c (0 + k) l = (goP c 0 l).map (k + ·) := by
  unfold goP
  rw [runP_add]
  cases runP (c, 0) (partsA [] l) with
  | none => rfl
  | some s =>
    simp only [Option.map_some, Option.bind_some, finP]
    split
    · rfl
    · simp only [Option.map_some]; congr 1; omega
end Go.Proofs.YtnidkcedomhofaaGreatDoor

/-
  The document's own answers of layer 13: a time.
-/
namespace Go.Proofs.YtnidkcedomhofaaGreatDoor
open Go.RowKit

set_option maxRecDepth 100000 in
set_option maxHeartbeats 8000000 in
theorem refTime13_any (s : ByteArray) (w : World) :
    Calls Tryz.prog 57 #[.string s] w fun e w' => e = .returned (.tuple #[whV (timV s.data.toList).1, .int .i64 (timV s.data.toList).2]) ∧ Below w.heap.size w w' := by
  have ha : Below w.heap.size w (w.alloc (.cells #[.int .i64 0, .bool false, .bool false] 23)) := (Below.refl _ w).alloc (Nat.le_refl _) _
  have hz := H3.new w Wh.zero
  change H3 (w.alloc (.cells #[.int .i64 0, .bool false, .bool false] 23)) _ _ at hz
  have hsl := listR s
  rw [← timR_eq]
  by_cases h8 : s.size = 8
  · have cr := fun W => refReadDay_any s W
    have HR : timR s.data.toList = (if (rdDay s.data.toList).2 = 0 then (⟨(rdDay s.data.toList).1 * 86400, false, true⟩, 0) else (Wh.zero, 10)) := by unfold timR; rw [if_pos (by omega)]
    rcases rdDay_case s.data.toList with ⟨n, hn, e⟩ | e
    · have hb := hn.1
      rw [e] at cr
      have HT : Hid (timR s.data.toList = (⟨n * 86400, false, true⟩, 0)) := Lib.hid (by rw [HR, e]; rfl)
      have n1 : -9223372036854775808 ≤ n * 86400 ∧ n * 86400 < 9223372036854775808 := by omega
      clear hn e hb HR hsl
      go_enter Tryz.func57, Tryz.ntmps57
      go_upto_region 1 with fail
      generalize w.alloc (.cells #[.int .i64 0, .bool false, .bool false] 23) = w1 at ha hz ⊢
      obtain ⟨x0, x1, x2⟩ := hz.cells
      have xf := hz.frozen
      have HZ := Lib.hid hz
      have HB := Lib.hid ha
      clear hz ha
      go_wp2_with (first
        | (go_at_call 96; ((with_reducible refine (cr _).mono ?_); rintro e w' ⟨rfl, hw⟩; subst w'; clear cr)))
      refine bodyPost_ret (results_cell2 rfl _ rfl rfl (load_wh (w := ⟨n * 86400, false, true⟩) (heap_put3 HZ.out))) rfl ⟨?_, HB.out.trans (below_put3 (Nat.le_refl _) _ _ _)⟩
      rw [HT.out]; rfl
    · rw [e] at cr
      have HT : Hid (timR s.data.toList = (Wh.zero, 10)) := Lib.hid (by rw [HR, e]; rfl)
      clear e HR hsl
      go_enter Tryz.func57, Tryz.ntmps57
      go_upto_region 1 with fail
      generalize w.alloc (.cells #[.int .i64 0, .bool false, .bool false] 23) = w1 at ha hz ⊢
      obtain ⟨x0, x1, x2⟩ := hz.cells
      have xf := hz.frozen
      have HZ := Lib.hid hz
      have HB := Lib.hid ha
      clear hz ha
      go_wp2_with (first
        | (go_at_call 96; ((with_reducible refine (cr _).mono ?_); rintro e w' ⟨rfl, hw⟩; subst w'; clear cr)))
      refine bodyPost_ret (results_cell2 rfl _ rfl rfl (load_wh (w := Wh.zero) (heap_put3 HZ.out))) rfl ⟨?_, HB.out.trans (below_put3 (Nat.le_refl _) _ _ _)⟩
      rw [HT.out]; rfl
  · have n8 : ¬ ((s.size : Nat) : Int) = 8 := by omega
    obtain ⟨p8, q8⟩ := intNe n8
    by_cases hu : s.size = 16 ∧ s.data.toList[15]? = some 90
    · obtain ⟨h16, hu⟩ := hu
      have h15 : 15 < s.size := by omega
      have c15 : s[15].toNat = 90 := by
        rw [getR h15, Option.some.injEq] at hu
        rw [hu]; rfl
      have HR : timR s.data.toList = (if (rdStamp (s.data.toList.take 15)).2 = 0 then (⟨(rdStamp (s.data.toList.take 15)).1, true, false⟩, 0) else (Wh.zero, 10)) := by unfold timR; rw [if_neg (by omega), if_pos ⟨by omega, hu⟩]
      have cs := fun W => refReadStamp_any (s.extract 0 15) W
      rw [headR] at cs
      rcases rdStamp_case (s.data.toList.take 15) with ⟨t, ht, e⟩ | e
      · rw [e] at cs
        have HT : Hid (timR s.data.toList = (⟨t, true, false⟩, 0)) := Lib.hid (by rw [HR, e]; rfl)
        clear ht e HR hsl hu h8 n8 p8 q8
        go_enter Tryz.func57, Tryz.ntmps57
        go_upto_region 1 with fail
        generalize w.alloc (.cells #[.int .i64 0, .bool false, .bool false] 23) = w1 at ha hz ⊢
        obtain ⟨x0, x1, x2⟩ := hz.cells
        have xf := hz.frozen
        have HZ := Lib.hid hz
        have HB := Lib.hid ha
        clear hz ha
        go_wp2_with (first
          | (go_at_call 97; ((with_reducible refine (cs _).mono ?_); rintro e w' ⟨rfl, hw⟩; subst w'; clear cs)))
        refine bodyPost_ret (results_cell2 rfl _ rfl rfl (load_wh (w := ⟨t, true, false⟩) (heap_put3 HZ.out))) rfl ⟨?_, HB.out.trans (below_put3 (Nat.le_refl _) _ _ _)⟩
        rw [HT.out]; rfl
      · rw [e] at cs
        have HT : Hid (timR s.data.toList = (Wh.zero, 10)) := Lib.hid (by rw [HR, e]; rfl)
        clear e HR hsl hu h8 n8 p8 q8
        go_enter Tryz.func57, Tryz.ntmps57
        go_upto_region 1 with fail
        generalize w.alloc (.cells #[.int .i64 0, .bool false, .bool false] 23) = w1 at ha hz ⊢
        obtain ⟨x0, x1, x2⟩ := hz.cells
        have xf := hz.frozen
        have HZ := Lib.hid hz
        have HB := Lib.hid ha
        clear hz ha
        go_wp2_with (first
          | (go_at_call 97; ((with_reducible refine (cs _).mono ?_); rintro e w' ⟨rfl, hw⟩; subst w'; clear cs)))
        refine bodyPost_ret (results_cell2 rfl _ rfl rfl (load_wh (w := Wh.zero) (heap_put3 HZ.out))) rfl ⟨?_, HB.out.trans (below_put3 (Nat.le_refl _) _ _ _)⟩
        rw [HT.out]; rfl
    · have HR : timR s.data.toList = (if (rdStamp s.data.toList).2 = 0 then (⟨(rdStamp s.data.toList).1, false, false⟩, 0) else (Wh.zero, 10)) := by unfold timR; rw [if_neg (by omega), if_neg (fun k => hu ⟨by omega, k.2⟩)]
      have cs := fun W => refReadStamp_any s W
      by_cases h16 : s.size = 16
      · have h15 : 15 < s.size := by omega
        have c15 : ¬ s[15].toNat = 90 := fun h => hu ⟨h16, by rw [getR h15, byte_of h]; rfl⟩
        have c15i : ¬ (((s[15].toNat : Nat) : Int) = 90) := by omega
        obtain ⟨p15, q15⟩ := intNe c15i
        rcases rdStamp_case s.data.toList with ⟨t, ht, e⟩ | e
        · rw [e] at cs
          have HT : Hid (timR s.data.toList = (⟨t, false, false⟩, 0)) := Lib.hid (by rw [HR, e]; rfl)
          clear ht e HR hsl hu h8 n8 p8 q8
          go_enter Tryz.func57, Tryz.ntmps57
          go_upto_region 1 with fail
          generalize w.alloc (.cells #[.int .i64 0, .bool false, .bool false] 23) = w1 at ha hz ⊢
          obtain ⟨x0, x1, x2⟩ := hz.cells
          have xf := hz.frozen
          have HZ := Lib.hid hz
          have HB := Lib.hid ha
          clear hz ha
          go_wp2_with (first
            | (go_at_call 97; ((with_reducible refine (cs _).mono ?_); rintro e w' ⟨rfl, hw⟩; subst w'; clear cs)))
          refine bodyPost_ret (results_cell2 rfl _ rfl rfl (load_wh (w := ⟨t, false, false⟩) (heap_put3 HZ.out))) rfl ⟨?_, HB.out.trans (below_put3 (Nat.le_refl _) _ _ _)⟩
          rw [HT.out]; rfl
        · rw [e] at cs
          have HT : Hid (timR s.data.toList = (Wh.zero, 10)) := Lib.hid (by rw [HR, e]; rfl)
          clear e HR hsl hu h8 n8 p8 q8
          go_enter Tryz.func57, Tryz.ntmps57
          go_upto_region 1 with fail
          generalize w.alloc (.cells #[.int .i64 0, .bool false, .bool false] 23) = w1 at ha hz ⊢
          obtain ⟨x0, x1, x2⟩ := hz.cells
          have xf := hz.frozen
          have HZ := Lib.hid hz
          have HB := Lib.hid ha
          clear hz ha
          go_wp2_with (first
            | (go_at_call 97; ((with_reducible refine (cs _).mono ?_); rintro e w' ⟨rfl, hw⟩; subst w'; clear cs)))
          refine bodyPost_ret (results_cell2 rfl _ rfl rfl (load_wh (w := Wh.zero) (heap_put3 HZ.out))) rfl ⟨?_, HB.out.trans (below_put3 (Nat.le_refl _) _ _ _)⟩
          rw [HT.out]; rfl
      · have n16 : ¬ ((s.size : Nat) : Int) = 16 := by omega
        obtain ⟨p16, q16⟩ := intNe n16
        rcases rdStamp_case s.data.toList with ⟨t, ht, e⟩ | e
        · rw [e] at cs
          have HT : Hid (timR s.data.toList = (⟨t, false, false⟩, 0)) := Lib.hid (by rw [HR, e]; rfl)
          clear ht e HR hsl hu h8 h16
          go_enter Tryz.func57, Tryz.ntmps57
          go_upto_region 1 with fail
          generalize w.alloc (.cells #[.int .i64 0, .bool false, .bool false] 23) = w1 at ha hz ⊢
          obtain ⟨x0, x1, x2⟩ := hz.cells
          have xf := hz.frozen
          have HZ := Lib.hid hz
          have HB := Lib.hid ha
          clear hz ha
          go_wp2_with (first
            | (go_at_call 97; ((with_reducible refine (cs _).mono ?_); rintro e w' ⟨rfl, hw⟩; subst w'; clear cs)))
          refine bodyPost_ret (results_cell2 rfl _ rfl rfl (load_wh (w := ⟨t, false, false⟩) (heap_put3 HZ.out))) rfl ⟨?_, HB.out.trans (below_put3 (Nat.le_refl _) _ _ _)⟩
          rw [HT.out]; rfl
        · rw [e] at cs
          have HT : Hid (timR s.data.toList = (Wh.zero, 10)) := Lib.hid (by rw [HR, e]; rfl)
          clear e HR hsl hu h8 h16
          go_enter Tryz.func57, Tryz.ntmps57
          go_upto_region 1 with fail
          generalize w.alloc (.cells #[.int .i64 0, .bool false, .bool false] 23) = w1 at ha hz ⊢
          obtain ⟨x0, x1, x2⟩ := hz.cells
          have xf := hz.frozen
          have HZ := Lib.hid hz
          have HB := Lib.hid ha
          clear hz ha
          go_wp2_with (first
            | (go_at_call 97; ((with_reducible refine (cs _).mono ?_); rintro e w' ⟨rfl, hw⟩; subst w'; clear cs)))
          refine bodyPost_ret (results_cell2 rfl _ rfl rfl (load_wh (w := Wh.zero) (heap_put3 HZ.out))) rfl ⟨?_, HB.out.trans (below_put3 (Nat.le_refl _) _ _ _)⟩
          rw [HT.out]; rfl
end Go.Proofs.YtnidkcedomhofaaGreatDoor

/-
  The program's own functions of layer 13: a period, read.
-/
namespace Go.Proofs.YtnidkcedomhofaaGreatDoor
open Go.RowKit

/-- A period as the program has it. -/
def perVal (w : Wh) (n : Int) : Value := .agg #[.int .i64 w.secs, .bool w.utc, .bool w.date, .int .i64 n]
section
variable {W W' : World} {g : Nat} {w : Wh} {n : Int}
end
def put4 (w : World) (g : Nat) (v0 v1 v2 v3 : Value) : World := (put3 w g v0 v1 v2).setCell ⟨g, 3, none⟩ v3
theorem heap_put4 {w : World} {g : Nat} {o0 o1 o2 o3 v0 v1 v2 v3 : Value} {T : TypeId} (h : w.heap[g]? = some (.cells #[o0, o1, o2, o3] T (0, 0))) : (put4 w g v0 v1 v2 v3).heap[g]? = some (.cells #[v0, v1, v2, v3] T (0, 0)) := by
  unfold put4 put3
  have h1 := heap_put (k := 0) (v := v0) h (by simp)
  have h2 := heap_put (k := 1) (v := v1) h1 (by simp)
  have h3 := heap_put (k := 2) (v := v2) h2 (by simp)
  have h4 := heap_put (k := 3) (v := v3) h3 (by simp)
  simpa using h4
theorem below_put4 {B : Nat} {w : World} {g : Nat} (hg : B ≤ g) (v0 v1 v2 v3 : Value) : Below B w (put4 w g v0 v1 v2 v3) :=
  (below_put3 hg v0 v1 v2).setCell (p := ⟨g, 3, none⟩) hg v3
/-- A time no machine's number is beyond. -/
def WhOk (w : Wh) : Prop := -9223372036854775808 ≤ w.secs ∧ w.secs < 9223372036854775808
theorem longW_range (t : Wh) (ht : -62135596800 ≤ t.secs ∧ t.secs ≤ 253402300799) (b : List UInt8) : -9223372036854775808 ≤ (longW t b).1 ∧ (longW t b).1 < 9223372036854775808 := by
  unfold longW
  have h1 := durV_range b
  rcases timV_case b with ⟨h, h2, h3⟩ | h
  · rw [if_pos h]; simp only; omega
  · rw [h, if_neg (by decide)]; simp only; omega
theorem Wh.zero_ok : WhOk Wh.zero := by unfold WhOk Wh.zero; decide
end Go.Proofs.YtnidkcedomhofaaGreatDoor

/-
  The document's own answers of layers 8 and 13: a text cut at a byte.
-/
namespace Go.Proofs.YtnidkcedomhofaaGreatDoor
open Go.RowKit

theorem idx_at {l : List UInt8} {c : UInt8} {k : Nat} (h : l[k]? = some c) (hn : ∀ j, j < k → l[j]? ≠ some c) : Lib.indexByte l c = k := by
  have ge := Lib.indexByte_ge l c
  by_cases e : Lib.indexByte l c = -1
  · exact absurd h (Lib.indexByte_none e k)
  · obtain ⟨o, ho⟩ : ∃ o : Nat, Lib.indexByte l c = o := ⟨(Lib.indexByte l c).toNat, by omega⟩
    have hs := Lib.indexByte_some ho
    rw [ho]
    rcases Nat.lt_trichotomy o k with h1 | h1 | h1
    · exact absurd hs.1 (hn o h1)
    · rw [h1]
    · exact absurd h (hs.2 k h1)
theorem idx_no {l : List UInt8} {c : UInt8} (hn : ∀ j : Nat, l[j]? ≠ some c) : Lib.indexByte l c = -1 := by
  have ge := Lib.indexByte_ge l c
  by_cases e : Lib.indexByte l c = -1
  · exact e
  · obtain ⟨o, ho⟩ : ∃ o : Nat, Lib.indexByte l c = o := ⟨(Lib.indexByte l c).toNat, by omega⟩
    exact absurd (Lib.indexByte_some ho).1 (hn o)
theorem cut_at {l : List UInt8} {c : UInt8} {k : Nat} (h : l[k]? = some c) (hn : ∀ j, j < k → l[j]? ≠ some c) : Lib.cut l [c] = (l.take k, l.drop (k + 1), true) := by
  unfold Lib.cut
  rw [Lib.index_one, idx_at h hn, if_pos (by omega)]
  rfl
theorem cut_no {l : List UInt8} {c : UInt8} (hn : ∀ j : Nat, l[j]? ≠ some c) : Lib.cut l [c] = (l, [], false) := by
  unfold Lib.cut
  rw [Lib.index_one, idx_no hn, if_neg (by omega)]
set_option maxRecDepth 100000 in
set_option maxHeartbeats 8000000 in
theorem refCut_any (s : ByteArray) (hs : s.size ≤ 16777216) (c : UInt8) (w : World) :
    Calls Tryz.prog 22 #[.string s, .int .u8 (c.toNat : Int)] w fun e w' => e = .returned (.tuple #[.string ⟨(Lib.cut s.data.toList [c]).1.toArray⟩, .string ⟨(Lib.cut s.data.toList [c]).2.1.toArray⟩, .bool (Lib.cut s.data.toList [c]).2.2]) ∧ Below w.heap.size w w' := by
  go_enter Tryz.func22, Tryz.ntmps22
  go_wp2
  go_loopw [7] (fun p wr => ∃ k : Nat, p = .int .i64 k ∧ k ≤ s.size ∧ wr = w ∧ Hid (∀ j, j < k → s.data.toList[j]? ≠ some c)) (fun p _ => s.size - (intOf p).toNat)
  case atStart => exact ⟨0, rfl, Nat.zero_le _, rfl, Lib.hid (fun j hj => absurd hj (Nat.not_lt_zero j))⟩
  case round =>
    obtain ⟨k, rfl, hk, rfl, HN⟩ := hrel
    by_cases hlt : k < s.size
    · have h1 : (k : Int) < (s.size : Int) := by omega
      have h2 : (k : Int) + 1 ≤ (s.size : Int) := by omega
      have hki : (k : Int) ≤ (s.size : Int) := by omega
      by_cases hc : s[k] = c
      · have HC : Hid (Lib.cut s.data.toList [c] = (s.data.toList.take k, s.data.toList.drop (k + 1), true)) := Lib.hid (cut_at (by rw [getR hlt, hc]) HN.out)
        have z1 : (((s[k].toNat : Nat) : Int) == ((c.toNat : Nat) : Int)) = true := by rw [hc]; simp
        have HX := Lib.hid (tailR s (k + 1))
        have HX2 : Hid (s.extract 0 k = ⟨(s.data.toList.take k).toArray⟩) := Lib.hid (bytesR (by rw [headR, mk_listR]))
        have hmx : Tryz.prog.follows .mixedOrders = true := by kernel_rfl
        clear HN hc
        go_wp2
        go_region
        go_wp2
        go_ret3
        refine ⟨?_, (Below.refl _ _).drew⟩
        rw [HC.out]
        simp only
        rw [← HX.out, ← HX2.out]
        rfl
      · have hne : ¬ ((s[k].toNat : Nat) : Int) = ((c.toNat : Nat) : Int) := fun h => hc (UInt8.toNat_inj.1 (by omega))
        have z1 : (((s[k].toNat : Nat) : Int) == ((c.toNat : Nat) : Int)) = false := by rw [beq_eq_false_iff_ne]; exact hne
        have HN2 : Hid (∀ j, j < k + 1 → s.data.toList[j]? ≠ some c) := Lib.hid (fun j hj => by
          rcases Nat.lt_or_ge j k with h | h
          · exact HN.out j h
          · obtain rfl : j = k := by omega
            rw [getR hlt]
            intro e
            exact hc (Option.some.inj e))
        clear HN hc
        go_wp2
        go_round
        case rel => exact ⟨k + 1, by go_num, by omega, by trivial, HN2⟩
        case measure => simp [intOf]; omega
    · obtain rfl : k = s.size := by omega
      have HC : Hid (Lib.cut s.data.toList [c] = (s.data.toList, [], false)) := Lib.hid (cut_no (fun j e => by
        rcases Nat.lt_or_ge j s.size with h | h
        · exact HN.out j h e
        · rw [List.getElem?_eq_none (by rw [listR]; exact h)] at e; cases e))
      clear HN
      go_wp2
      go_ret3
      exact ⟨by rw [HC.out]; simp only; rw [list_mkR]; rfl, Below.refl _ _⟩
end Go.Proofs.YtnidkcedomhofaaGreatDoor
