/-
  The document's own answer: what an inode's bytes say.
-/
import Derived.Test.YtpdfkakhahfcjaaGreatG13
import Derived.Test.YtpdfkakhahfcjaaGreatG06
import Derived.Shelf.Strings.BuilderK
import Derived.Test.YtpdfkakhahfcjaaGreatG03
namespace Go.Proofs.YtpdfkakhahfcjaaGreat
open Go.RowKit

/-- As it stands ahead of its blocks. -/
def recZ (s : ByteArray) : RecI := ⟨0, byA s 0, 65536 * w2 s 1 + w2 s 3, [0, 0, 0, 0], w2 s 13, []⟩
def blS (s : ByteArray) (j : Nat) : List Nat := (List.range j).map (fun k => w2 s (5 + 2 * k)) ++ List.replicate (4 - j) 0
theorem blS_zero (s : ByteArray) : blS s 0 = [0, 0, 0, 0] := rfl
theorem blS_four (s : ByteArray) : blS s 4 = [w2 s 5, w2 s 7, w2 s 9, w2 s 11] := rfl
theorem blS_len {s : ByteArray} {j : Nat} (h : j ≤ 4) : (blS s j).length = 4 := by simp [blS]; omega
theorem blS_set {s : ByteArray} {j : Nat} (h : j < 4) : (blS s j).set j (w2 s (5 + 2 * j)) = blS s (j + 1) := by
  unfold blS
  rw [List.set_append_right _ _ (by simp), List.range_succ, List.map_append, List.append_assoc]
  congr 1
  simp only [List.length_map, List.length_range, Nat.sub_self, List.map_cons, List.map_nil]
  rw [show 4 - j = (4 - (j + 1)) + 1 by omega, List.replicate_succ]
  rfl
theorem built3 (a b c : Int) : Tryz.prog.built 47 [(0, .int .i64 a), (1, .int .i64 b), (3, .int .i64 c)] = some #[.int .i64 a, .int .i64 b, .int .i64 0, .int .i64 0, .int .i64 0, .int .i64 0, .int .i64 c] := by kernel_rfl
theorem recZ_cells (s : ByteArray) : (cellsI (recZ s)).toArray = #[.int .i64 (byA s 0 : Nat), .int .i64 (65536 * w2 s 1 + w2 s 3 : Nat), .int .i64 0, .int .i64 0, .int .i64 0, .int .i64 0, .int .i64 (w2 s 13 : Nat)] := rfl
theorem recS_len (s : ByteArray) : (cellsI (recS s)).length = 7 := rfl
theorem recZ_len (s : ByteArray) : (cellsI (recZ s)).length = 7 := rfl
theorem sizeIz {r : RecI} (h : (cellsI r).length = 7) : (Tryz.prog.info? 47).map (·.size) = some (cellsI r).toArray.size := by rw [List.size_toArray, h]; exact sizeIn
theorem holdIz {r r' : RecI} (h : (cellsI r).length = 7) (h' : (cellsI r').length = 7) : (cellsI r).toArray.size = (cellsI r').toArray.size := by rw [List.size_toArray, List.size_toArray, h, h']
theorem BI.loadz {w : World} {g : Nat} {r : RecI} (h : BI w g r) (hr : (cellsI r).length = 7) : (Go.loadVar 47 ⟨g, 0, none⟩).run Tryz.prog w = .ok (valI r) w :=
  run_loadVar_mid w g 0 47 (cellsI r) _ h.range Tryz.underlying47 rfl (by rw [hr]; exact sizeIn)
theorem BI.storez {w : World} {g : Nat} {r r' : RecI} (h : BI w g r) (hr : (cellsI r).length = 7) (hr' : (cellsI r').length = 7) : (Instr.storeAt 47 (.pointer (some ⟨g, 0, none⟩)) (valI r')).run Tryz.prog w = .ok () (w.setRow g (cellsI r').toArray) := by
  simp only [Instr.storeAt, Instr.sureAddr, Sem.run_bind, Sem.run_pure, Result.andThen_ok]
  exact run_storeVar_row w g _ _ _ _ h (sizeIz hr') (holdIz hr hr') (all_oneCell_toArray (cellsI_one r'))
theorem wp_store_run {P : Program} {o : Oper} {a : Act} {w w' : World} {K : Act → World → Prop} {Q : Exit → Act → World → Prop} (ty : TypeId) (p v : Operand) (ho : o.op = .store ty p v) (ptr u : Value) (hp : a.eval p = ptr) (hv : a.eval v = u)
    (hrun : (Instr.storeAt ty ptr u).run P w = .ok () w') (hK : K (a.put o.dst undef) w') : o.wp P a w K Q := by
  unfold Oper.wp execOp
  simp only [ho, hp, hv, Sem.run_bind, hrun, Result.andThen_ok, Sem.run_pure]
  exact hK
def redV (g : Nat) (s : ByteArray) : Nat → Value → World → Prop
  | 0 => eqV (.string s)
  | 1 => eqV (.int .u8 (byA s 0 : Nat))
  | 2 => eqV (.int .i64 (byA s 0 : Nat))
  | 3 => eqV (.string s)
  | 4 => eqV (.string (s.extract 1 5))
  | 5 => eqV (.int .u64 (65536 * w2 s 1 + w2 s 3 : Nat))
  | 6 => eqV (.int .i64 (65536 * w2 s 1 + w2 s 3 : Nat))
  | 7 => eqV (.string s)
  | 8 => eqV (.string (s.extract 13 15))
  | 9 => eqV (.int .u64 (w2 s 13 : Nat))
  | 10 => eqV (.int .i64 (w2 s 13 : Nat))
  | 11 => eqV (valI (recZ s))
  | 12 => fun v w => v = .pointer (some ⟨g, 0, none⟩) ∧ g < w.heap.size
  | _ => fun _ _ => True
theorem redV_stable (g : Nat) (s : ByteArray) (j : Nat) (v : Value) (w w' : World) (hs : w.heap.size ≤ w'.heap.size) (h : redV g s j v w) : redV g s j v w' := by
  match j, h with
  | 0, h => exact h
  | 1, h => exact h
  | 2, h => exact h
  | 3, h => exact h
  | 4, h => exact h
  | 5, h => exact h
  | 6, h => exact h
  | 7, h => exact h
  | 8, h => exact h
  | 9, h => exact h
  | 10, h => exact h
  | 11, h => exact h
  | 12, h => exact ⟨h.1, Nat.lt_of_lt_of_le h.2 hs⟩
  | _ + 13, _ => trivial
/-- Which worlds there are: ahead of the variable, with it, with what is stored. -/
def stR (p q : Nat) (w0 w1 w2 : World) (L : Nat → Bool) (w : World) : Prop := (L p = false ∧ L q = false ∧ w = w0) ∨ (L p = true ∧ L q = false ∧ w = w1) ∨ (L p = true ∧ L q = true ∧ w = w2)
def doR (p q : Nat) (w0 w1 w2 : World) (i : Nat) (w w' : World) : Prop := w.heap.size ≤ w'.heap.size ∧ (i = p → w = w0 ∧ w' = w1) ∧ (i = q → w = w1 ∧ w' = w2) ∧ (i ≠ p → i ≠ q → w' = w)
theorem stR_step {p q : Nat} (hpq : p ≠ q) {w0 w1 w2 : World} (h01 : w0.heap.size < w1.heap.size) {i : Nat} {L : Nat → Bool} {w w' : World} (hi : L i = false) (hC : stR p q w0 w1 w2 L w) (hs : doR p q w0 w1 w2 i w w') : stR p q w0 w1 w2 (fun j => if j = i then true else L j) w' := by
  unfold stR at hC ⊢
  obtain ⟨_, h1, h2, h3⟩ := hs
  by_cases e12 : i = p
  · subst e12
    obtain ⟨rfl, rfl⟩ := h1 rfl
    rcases hC with ⟨_, h, _⟩ | ⟨h, _, _⟩ | ⟨h, _, _⟩
    · right; left
      exact ⟨if_pos rfl, (if_neg (Ne.symm hpq)).trans h, rfl⟩
    · rw [h] at hi; cases hi
    · rw [h] at hi; cases hi
  by_cases e13 : i = q
  · subst e13
    obtain ⟨rfl, rfl⟩ := h2 rfl
    rcases hC with ⟨_, _, h⟩ | ⟨h, _, _⟩ | ⟨_, h, _⟩
    · rw [h] at h01; omega
    · right; right
      exact ⟨(if_neg hpq).trans h, if_pos rfl, rfl⟩
    · rw [h] at hi; cases hi
  · obtain rfl := h3 e12 e13
    rcases hC with ⟨a, b, c⟩ | ⟨a, b, c⟩ | ⟨a, b, c⟩
    · exact .inl ⟨(if_neg (Ne.symm e12)).trans a, (if_neg (Ne.symm e13)).trans b, c⟩
    · exact .inr (.inl ⟨(if_neg (Ne.symm e12)).trans a, (if_neg (Ne.symm e13)).trans b, c⟩)
    · exact .inr (.inr ⟨(if_neg (Ne.symm e12)).trans a, (if_neg (Ne.symm e13)).trans b, c⟩)

set_option maxRecDepth 100000 in
set_option maxHeartbeats 8000000 in
theorem refRead_any (s : ByteArray) (hs : s.size = 32) (w : World) : Calls Tryz.prog 20 #[.string s] w fun e w' => e = .returned (valI (recS s)) ∧ Below w.heap.size w w' := by
  have hmx : Tryz.prog.follows .mixedOrders = true := by kernel_rfl
  have hz7 := (zero_of_info info7).1
  have cne := fun (t : ByteArray) (ht : t.size ≤ 8) W => refNe_any t W ht
  have h0 : 0 < s.size := by omega
  have e0 : ((s[0]'h0).toNat : Int) = (byA s 0 : Nat) := by rw [byA_get s 0 h0]
  have hb0 : byA s 0 < 256 := byA_lt s 0
  have x1 : (s.extract 1 5).size ≤ 8 := by rw [ByteArray.size_extract]; omega
  have x2 : (s.extract 13 15).size ≤ 8 := by rw [ByteArray.size_extract]; omega
  have n1 := neL_four (s := s) (o := 1) (by omega)
  have n2 := neL_two (s := s) (o := 13) (by omega)
  have l1 := w2_lt s 1
  have l2 := w2_lt s 3
  have l3 := w2_lt s 13
  have c1 := cne _ x1
  have c2 := cne _ x2
  rw [n1] at c1
  rw [n2] at c2
  have HS := Lib.hid (And.intro hs (recZ_cells s))
  have hs5 : (5 : Int) ≤ (s.size : Int) := by omega
  have hs15 : (15 : Int) ≤ (s.size : Int) := by omega
  have bw := (Below.refl w.heap.size w).alloc (Nat.le_refl _) (.cells (cellsI (zeroR 0)).toArray 47)
  have hgw : w.heap.size < (w.alloc (.cells (cellsI (zeroR 0)).toArray 47)).heap.size := by simp
  have B0 := BI.new w (zeroR 0)
  clear n1 n2
  go_enter Tryz.func20, Tryz.ntmps20
  go_upto_region 1 with fail
  have HW := Lib.hid (And.intro B0 (And.intro bw hgw))
  clear bw hgw B0
  generalize w.alloc (.cells (cellsI (zeroR 0)).toArray 47) = wa at HW ⊢
  obtain ⟨w0, hw0⟩ : ∃ x, x = wa.drew := ⟨_, rfl⟩
  obtain ⟨w1, hw1⟩ : ∃ x, x = w0.alloc (.cells (cellsI (zeroR 0)).toArray 47) := ⟨_, rfl⟩
  obtain ⟨w2', hw2⟩ : ∃ x, x = w1.setRow w0.heap.size (cellsI (recZ s)).toArray := ⟨_, rfl⟩
  have s01 : w0.heap.size < w1.heap.size := by rw [hw1]; simp
  have s12 : w1.heap.size ≤ w2'.heap.size := by rw [hw2]; simp
  have HWW := Lib.hid (And.intro hw0 (And.intro hw1 hw2))
  clear hw0 hw1 hw2
  refine wp_region_rel2 (stR 12 13 w0 w1 w2') (doR 12 13 w0 w1 w2') (redV w0.heap.size s) hmx (by kernel_rfl) (.inl ⟨rfl, rfl, HWW.out.1.symm⟩) (fun i L a b hi hC hs => stR_step (by decide) s01 hi hC hs) (fun i j v a b _ hs h => redV_stable _ s j v a b hs.1 h) ?_ ?_
  · refine ⟨?_, ?_, ?_, ?_, ?_, ?_, ?_, ?_, ?_, ?_, ?_, ?_, ?_, ?_, trivial⟩
    · intro V L W hL hC hd K hK
      clear hd
      simp only [laidL, Act.put, List.setIfInBounds_toArray, List.set_cons_zero, List.set_cons_succ] at hK ⊢
      go_simp
      exact hK _ _ ⟨⟨Nat.le_refl _, fun h => absurd h (by decide), fun h => absurd h (by decide), fun _ _ => rfl⟩, rfl⟩
    · intro V L W hL hC hd K hK
      have q0 : redV w0.heap.size s 0 (V 0) W := hd.1
      have e0 : V 0 = .string s := q0
      clear q0
      clear hd
      simp only [laidL, Act.put, List.setIfInBounds_toArray, List.set_cons_zero, List.set_cons_succ] at hK ⊢
      generalize V 0 = v0 at e0 hK ⊢
      subst e0
      go_simp
      exact hK _ _ ⟨⟨Nat.le_refl _, fun h => absurd h (by decide), fun h => absurd h (by decide), fun _ _ => rfl⟩, rfl⟩
    · intro V L W hL hC hd K hK
      have q1 : redV w0.heap.size s 1 (V 1) W := hd.1
      have e1 : V 1 = .int .u8 (byA s 0 : Nat) := q1
      clear q1
      clear hd
      simp only [laidL, Act.put, List.setIfInBounds_toArray, List.set_cons_zero, List.set_cons_succ] at hK ⊢
      generalize V 1 = v1 at e1 hK ⊢
      subst e1
      go_simp
      exact hK _ _ ⟨⟨Nat.le_refl _, fun h => absurd h (by decide), fun h => absurd h (by decide), fun _ _ => rfl⟩, congrArg (Value.int .i64) (by first | rfl | omega | (rw [IntKind.wrap_i64]; omega))⟩
    · intro V L W hL hC hd K hK
      clear hd
      simp only [laidL, Act.put, List.setIfInBounds_toArray, List.set_cons_zero, List.set_cons_succ] at hK ⊢
      go_simp
      exact hK _ _ ⟨⟨Nat.le_refl _, fun h => absurd h (by decide), fun h => absurd h (by decide), fun _ _ => rfl⟩, rfl⟩
    · intro V L W hL hC hd K hK
      have q3 : redV w0.heap.size s 3 (V 3) W := hd.1
      have e3 : V 3 = .string s := q3
      clear q3
      clear hd
      simp only [laidL, Act.put, List.setIfInBounds_toArray, List.set_cons_zero, List.set_cons_succ] at hK ⊢
      generalize V 3 = v3 at e3 hK ⊢
      subst e3
      go_simp
      exact hK _ _ ⟨⟨Nat.le_refl _, fun h => absurd h (by decide), fun h => absurd h (by decide), fun _ _ => rfl⟩, rfl⟩
    · intro V L W hL hC hd K hK
      have q4 : redV w0.heap.size s 4 (V 4) W := hd.1
      have e4 : V 4 = .string (s.extract 1 5) := q4
      clear q4
      clear hd
      simp only [laidL, Act.put, List.setIfInBounds_toArray, List.set_cons_zero, List.set_cons_succ] at hK ⊢
      generalize V 4 = v4 at e4 hK ⊢
      subst e4
      go_simp
      go_at_call 53
      refine (c1 _).mono ?_
      rintro e w3 ⟨rfl, rfl⟩
      exact hK _ _ ⟨⟨Nat.le_refl _, fun h => absurd h (by decide), fun h => absurd h (by decide), fun _ _ => rfl⟩, rfl⟩
    · intro V L W hL hC hd K hK
      have q5 : redV w0.heap.size s 5 (V 5) W := hd.1
      have e5 : V 5 = .int .u64 (65536 * w2 s 1 + w2 s 3 : Nat) := q5
      clear q5
      clear hd
      simp only [laidL, Act.put, List.setIfInBounds_toArray, List.set_cons_zero, List.set_cons_succ] at hK ⊢
      generalize V 5 = v5 at e5 hK ⊢
      subst e5
      go_simp
      exact hK _ _ ⟨⟨Nat.le_refl _, fun h => absurd h (by decide), fun h => absurd h (by decide), fun _ _ => rfl⟩, congrArg (Value.int .i64) (by first | rfl | omega | (rw [IntKind.wrap_i64]; omega))⟩
    · intro V L W hL hC hd K hK
      clear hd
      simp only [laidL, Act.put, List.setIfInBounds_toArray, List.set_cons_zero, List.set_cons_succ] at hK ⊢
      go_simp
      exact hK _ _ ⟨⟨Nat.le_refl _, fun h => absurd h (by decide), fun h => absurd h (by decide), fun _ _ => rfl⟩, rfl⟩
    · intro V L W hL hC hd K hK
      have q7 : redV w0.heap.size s 7 (V 7) W := hd.1
      have e7 : V 7 = .string s := q7
      clear q7
      clear hd
      simp only [laidL, Act.put, List.setIfInBounds_toArray, List.set_cons_zero, List.set_cons_succ] at hK ⊢
      generalize V 7 = v7 at e7 hK ⊢
      subst e7
      go_simp
      exact hK _ _ ⟨⟨Nat.le_refl _, fun h => absurd h (by decide), fun h => absurd h (by decide), fun _ _ => rfl⟩, rfl⟩
    · intro V L W hL hC hd K hK
      have q8 : redV w0.heap.size s 8 (V 8) W := hd.1
      have e8 : V 8 = .string (s.extract 13 15) := q8
      clear q8
      clear hd
      simp only [laidL, Act.put, List.setIfInBounds_toArray, List.set_cons_zero, List.set_cons_succ] at hK ⊢
      generalize V 8 = v8 at e8 hK ⊢
      subst e8
      go_simp
      go_at_call 53
      refine (c2 _).mono ?_
      rintro e w3 ⟨rfl, rfl⟩
      exact hK _ _ ⟨⟨Nat.le_refl _, fun h => absurd h (by decide), fun h => absurd h (by decide), fun _ _ => rfl⟩, rfl⟩
    · intro V L W hL hC hd K hK
      have q9 : redV w0.heap.size s 9 (V 9) W := hd.1
      have e9 : V 9 = .int .u64 (w2 s 13 : Nat) := q9
      clear q9
      clear hd
      simp only [laidL, Act.put, List.setIfInBounds_toArray, List.set_cons_zero, List.set_cons_succ] at hK ⊢
      generalize V 9 = v9 at e9 hK ⊢
      subst e9
      go_simp
      exact hK _ _ ⟨⟨Nat.le_refl _, fun h => absurd h (by decide), fun h => absurd h (by decide), fun _ _ => rfl⟩, congrArg (Value.int .i64) (by first | rfl | omega | (rw [IntKind.wrap_i64]; omega))⟩
    · intro V L W hL hC hd K hK
      have q2 : redV w0.heap.size s 2 (V 2) W := hd.1
      have e2 : V 2 = .int .i64 (byA s 0 : Nat) := q2
      clear q2
      have q6 : redV w0.heap.size s 6 (V 6) W := hd.2.1
      have e6 : V 6 = .int .i64 (65536 * w2 s 1 + w2 s 3 : Nat) := q6
      clear q6
      have q10 : redV w0.heap.size s 10 (V 10) W := hd.2.2.1
      have e10 : V 10 = .int .i64 (w2 s 13 : Nat) := q10
      clear q10
      clear hd
      simp only [laidL, Act.put, List.setIfInBounds_toArray, List.set_cons_zero, List.set_cons_succ] at hK ⊢
      generalize V 2 = v2 at e2 hK ⊢
      subst e2
      generalize V 6 = v6 at e6 hK ⊢
      subst e6
      generalize V 10 = v10 at e10 hK ⊢
      subst e10
      have hbt := built3 (byA s 0 : Nat) (65536 * w2 s 1 + w2 s 3 : Nat) (w2 s 13 : Nat)
      go_simp
      exact hK _ _ ⟨⟨Nat.le_refl _, fun h => absurd h (by decide), fun h => absurd h (by decide), fun _ _ => rfl⟩, rfl⟩
    · intro V L W hL hC hd K hK
      clear hd
      simp only [laidL, Act.put, List.setIfInBounds_toArray, List.set_cons_zero, List.set_cons_succ] at hK ⊢
      have hW0 : W = w0 := by
        rcases hC with ⟨_, _, h⟩ | ⟨h, _, _⟩ | ⟨h, _, _⟩
        · exact h
        · rw [h] at hL; cases hL
        · rw [h] at hL; cases hL
      subst hW0
      go_simp
      exact hK _ _ ⟨⟨by simp, fun _ => ⟨rfl, HWW.out.2.1.symm⟩, fun h => absurd h (by decide), fun h => absurd rfl h⟩, rfl, by simp⟩
    · intro V L W hL hC hd K hK
      have q11 : redV w0.heap.size s 11 (V 11) W := hd.2.1
      have e11 : V 11 = valI (recZ s) := q11
      clear q11
      have q12 : redV w0.heap.size s 12 (V 12) W := hd.1
      have e12 : V 12 = .pointer (some ⟨w0.heap.size, 0, none⟩) := q12.1
      have hp : w0.heap.size < W.heap.size := q12.2
      clear q12
      clear hd
      simp only [laidL, Act.put, List.setIfInBounds_toArray, List.set_cons_zero, List.set_cons_succ] at hK ⊢
      generalize V 12 = v12 at e12 hK ⊢
      subst e12
      generalize V 11 = v11 at e11 hK ⊢
      subst e11
      have hW1 : W = w1 := by
        rcases hC with ⟨_, _, h⟩ | ⟨_, _, h⟩ | ⟨_, h, _⟩
        · rw [h] at hp; omega
        · exact h
        · rw [h] at hL; cases hL
      subst hW1
      have hhe : W.heap[w0.heap.size]? = some (.cells (cellsI (zeroR 0)).toArray 47 (0, 0)) := by rw [HWW.out.2.1]; exact heap_alloc_new w0 _
      have hst := BI.storez (show BI W w0.heap.size (zeroR 0) from hhe) rfl (recZ_len s)
      refine wp_store_run 47 (.tmp 3) (.tmp 16) rfl _ _ rfl rfl hst ?_
      exact hK undef _ ⟨⟨by simp, fun h => absurd h (by decide), fun _ => ⟨rfl, HWW.out.2.2.symm⟩, fun _ h => absurd rfl h⟩, trivial⟩
  · intro V L W hL hC hV
    have e12 : V 12 = .pointer (some ⟨w0.heap.size, 0, none⟩) := (hV 12 (show 12 < 14 by decide)).1
    have hW2 : W = w2' := by
      rcases hC with ⟨h, _, _⟩ | ⟨_, h, _⟩ | ⟨_, _, h⟩
      · rw [hL 12 (by decide)] at h; cases h
      · rw [hL 13 (by decide)] at h; cases h
      · exact h
    clear hV hL hC
    subst hW2
    simp only [laidL, Act.put, List.setIfInBounds_toArray, List.set_cons_zero, List.set_cons_succ]
    generalize V 12 = v12 at e12 ⊢
    subst e12
    have B2 : BI W w0.heap.size (recZ s) := by
      rw [HWW.out.2.2]
      exact (show BI w1 w0.heap.size (zeroR 0) by rw [HWW.out.2.1]; exact heap_alloc_new w0 _).setRow (recZ s)
    have hw0z : wa.heap.size = w0.heap.size := by rw [HWW.out.1]; rfl
    have bel : Below w0.heap.size w0 W := by
      rw [HWW.out.2.2, HWW.out.2.1]
      exact ((Below.refl _ w0).alloc (Nat.le_refl _) _).trans (below_setRow _ (Nat.le_refl _) _)
    have bel0 : Below wa.heap.size wa w0 := by rw [HWW.out.1]; exact (Below.refl _ wa).drew
    have JJ : Hid (BI W w0.heap.size { recZ s with bl := blS s 0 } ∧ Below w.heap.size w W ∧ BI W w.heap.size (zeroR 0)) := Lib.hid ⟨B2, bstep HW.out.2.1 (bstep bel0 bel), (HW.out.1.step (bstep bel0 bel))⟩
    have hgg : w.heap.size < w0.heap.size := by have := HW.out.2.2; omega
    clear B2 bel bel0 hw0z HWW s01 s12 HW
    generalize w0.heap.size = g at JJ hgg ⊢
    go_wp2
    go_loopg [4] 4 (fun gk s4 wr => ∃ j : Nat, j ≤ 4 ∧ 4 - j ≤ gk ∧ s4 = .int .i64 j ∧ Hid (BI wr g { recZ s with bl := blS s j } ∧ Below w.heap.size w wr ∧ BI wr w.heap.size (zeroR 0)))
    case atStart => exact ⟨0, Nat.zero_le _, by omega, rfl, JJ⟩
    case round =>
      clear JJ
      obtain ⟨j, hj, hgk, rfl, J⟩ := hrel
      by_cases hlt : j < 4
      · have hji : (j : Int) < 4 := by omega
        have hw1 : IntKind.i64.wrap (2 * (j : Int)) = 2 * (j : Int) := by rw [IntKind.wrap_i64]; omega
        have hw2 : IntKind.i64.wrap (5 + 2 * (j : Int)) = 5 + 2 * (j : Int) := by rw [IntKind.wrap_i64]; omega
        have hw3 : IntKind.i64.wrap (7 + 2 * (j : Int)) = 7 + 2 * (j : Int) := by rw [IntKind.wrap_i64]; omega
        have hn2 : (5 + 2 * (j : Int)).toNat = 5 + 2 * j := by omega
        have hn3 : (7 + 2 * (j : Int)).toNat = 7 + 2 * j := by omega
        have ho1 : (0 : Int) ≤ 5 + 2 * (j : Int) := by omega
        have ho2 : 5 + 2 * (j : Int) ≤ 7 + 2 * (j : Int) := by omega
        have ho3 : 7 + 2 * (j : Int) ≤ (s.size : Int) := by omega
        have x3 : (s.extract (5 + 2 * j) (7 + 2 * j)).size ≤ 8 := by rw [ByteArray.size_extract]; omega
        have n3 := neL_two (s := s) (o := 5 + 2 * j) (by omega)
        have c3 := cne _ x3
        rw [show 7 + 2 * j = 5 + 2 * j + 2 by omega, n3] at c3
        rw [show 5 + 2 * j + 2 = 7 + 2 * j by omega] at c3
        have l4 := w2_lt s (5 + 2 * j)
        have hbl : (blS s j).length = 4 := blS_len (by omega)
        have hcell := J.out.1.bl (j := j) (by show j < (blS s j).length; omega)
        have hfre := J.out.1.free (2 + j)
        have hset := J.out.1.setBl (j := j) (by show j < (blS s j).length; omega) (w2 s (5 + 2 * j))
        have JN : Hid (BI (wr.setCell ⟨g, 2 + j, none⟩ (.int .i64 (w2 s (5 + 2 * j) : Nat))) g { recZ s with bl := blS s (j + 1) } ∧ Below w.heap.size w (wr.setCell ⟨g, 2 + j, none⟩ (.int .i64 (w2 s (5 + 2 * j) : Nat))) ∧ BI (wr.setCell ⟨g, 2 + j, none⟩ (.int .i64 (w2 s (5 + 2 * j) : Nat))) w.heap.size (zeroR 0)) := Lib.hid
          ⟨by rw [← blS_set hlt]; exact hset, J.out.2.1.setCell (p := ⟨g, 2 + j, none⟩) (Nat.le_of_lt hgg) _, (Below.heap_setCell wr ⟨g, 2 + j, none⟩ _ w.heap.size (by show w.heap.size ≠ g; omega)).trans J.out.2.2⟩
        clear hset n3 x3
        generalize w2 s (5 + 2 * j) = xv at c3 l4 JN
        go_wp2_with (go_at_call 53; refine (c3 _).mono ?_; rintro e w3 ⟨rfl, rfl⟩)
        go_roundg (4 - (j + 1))
        case measure => omega
        case rel => exact ⟨j + 1, by omega, by omega, by go_num, JN⟩
      · have : j = 4 := by omega
        subst this
        have B4 : BI wr g (recS s) := J.out.1
        have JF : Hid (BI (wr.setRow w.heap.size (cellsI (recS s)).toArray) w.heap.size (recS s) ∧ Below w.heap.size w (wr.setRow w.heap.size (cellsI (recS s)).toArray)) := Lib.hid ⟨J.out.2.2.setRow (recS s), J.out.2.1.trans (below_setRow wr (Nat.le_refl _) _)⟩
        have hrz := J.out.2.2
        clear J
        go_wp2_with (first | (refine wpList_load_mid rfl _ _ rfl g 0 rfl (cellsI (recS s)) _ B4.range Tryz.underlying47 rfl (by rw [recS_len]; exact sizeIn) ?_) | (refine wpList_store_row rfl _ _ _ rfl w.heap.size (cellsI (recS s)).toArray rfl rfl _ (cellsI (zeroR 0)).toArray hrz (sizeIz (recS_len s)) (holdIz (r := zeroR 0) (r' := recS s) rfl (recS_len s)) (all_oneCell_toArray (cellsI_one _)) ?_))
        have hlv := JF.out.1.loadz (recS_len s)
        exact bodyPost_ret (v := valI (recS s)) (results_rec rfl _ rfl hlv) rfl ⟨rfl, JF.out.2⟩

end Go.Proofs.YtpdfkakhahfcjaaGreat

/-
  All blocks of an inode.
-/
namespace Go.Proofs.YtpdfkakhahfcjaaGreat
open Go.RowKit

def blksN (img : List ByteArray) (i : Int) : List Nat := if (heldI img i).2 = 0 then namedR (heldI img i).1 else []
theorem heldI_ok (img : List ByteArray) (i : Int) (hn : img.length ≤ 512) : OkR (heldI img i).1 := by
  have := getI_ok img i hn
  unfold heldI
  split
  · exact okz
  · split
    · exact okz
    · rcases this.2 with h | ⟨_, h0, h1, _⟩
      · next hx _ => exact absurd (by rw [h]; decide) hx
      · exact recI_ok _ _ (by omega)
theorem heldI_code (img : List ByteArray) (i : Int) : (heldI img i).2 = 0 ∨ (heldI img i).2 = 15 ∨ (heldI img i).2 = 20 := by
  unfold heldI
  split
  · exact .inr (.inl rfl)
  · split
    · exact .inr (.inr rfl)
    · exact .inl rfl

set_option maxRecDepth 100000 in
set_option maxHeartbeats 4000000 in
theorem blocks_any (A : Option Addr) (n c : Nat) (img : List ByteArray) (i : Int) (w : World) (h : Reads w w.heap.size 1 A n (encS img)) (hn : n ≤ 512) :
    Calls Tryz.prog 28 #[.slice A n c, .int .i64 i] w (RowP w (blksN img i)) := by
  have hz := fun W => zero_run W
  have hl := h.lenS
  have cg : Calls Tryz.prog 38 #[.slice A n c, .int .i64 i] w fun e w' => e = .returned (.tuple #[.agg (cellsR (heldI img i).1).toArray, .int .i64 (heldI img i).2]) ∧ Below w.heap.size w w' := held_any A n c img i w h hn
  have hok := heldI_ok img i (by omega)
  have hcode := heldI_code img i
  have HB : Hid (blksN img i = if (heldI img i).2 = 0 then namedR (heldI img i).1 else []) := Lib.hid rfl
  clear h hl
  generalize heldI img i = x at cg hok hcode HB
  obtain ⟨r, ec⟩ := x
  dsimp only at cg hok hcode HB
  have HR := Lib.hid hok
  have cn := fun W => named_any r hok W
  unfold valR at cn
  clear hok
  by_cases h0 : ec = 0
  · have HE : Hid (blksN img i = namedR r) := Lib.hid (by rw [HB.out, if_pos h0])
    subst h0
    clear hcode
    go_enter Tryz.func28, Tryz.ntmps28
    go_wp2_with fail
    refine cg.mono ?_
    rintro e w1 ⟨rfl, hb1⟩
    have B2 := (BR.new w1 (zeroR 0)).setRow r
    have bb2 : Below w.heap.size w ((w1.alloc (.cells (cellsR (zeroR 0)).toArray 62)).setRow w1.heap.size (cellsR r).toArray) := hb1.trans (((((Below.refl _ w1).alloc (Nat.le_refl _) _).trans (below_setRow _ (Nat.le_refl _) _))).mono hb1.size)
    have HX := Lib.hid (And.intro B2 bb2)
    clear B2 bb2 hb1 cg
    go_wp2_with (first | (refine wpList_store_row rfl _ _ _ rfl w1.heap.size (cellsR r).toArray rfl rfl _ (cellsR (zeroR 0)).toArray (heap_alloc_new w1 _) (sizeRr HR.out) (holdR okz HR.out) (all_oneCell_toArray (cellsR_one _)) ?_) | (refine wpList_load_mid rfl _ _ rfl w1.heap.size 0 rfl (cellsR r) _ HX.out.1.range Tryz.underlying62 rfl (by rw [cellsR_length HR.out]; exact sizeR) ?_))
    refine (cn _).mono ?_
    rintro e w3 ⟨A3, c3, rfl, ho3, hb3⟩
    have HY := Lib.hid (And.intro (own_base ho3 HX.out.2.size) (HX.out.2.trans (hb3.mono HX.out.2.size)))
    clear ho3 hb3
    go_wp2
    go_ret
    rw [HE.out]
    exact ⟨A3, c3, rfl, HY.out⟩
  · have HE : Hid (blksN img i = []) := Lib.hid (by rw [HB.out, if_neg h0])
    have hne : (ec != 0) = true := by rw [bne_iff_ne]; exact h0
    clear hcode h0
    go_enter Tryz.func28, Tryz.ntmps28
    go_wp2_with fail
    refine cg.mono ?_
    rintro e w1 ⟨rfl, hb1⟩
    have B2 := (BR.new w1 (zeroR 0)).setRow r
    have bb2 : Below w.heap.size w ((w1.alloc (.cells (cellsR (zeroR 0)).toArray 62)).setRow w1.heap.size (cellsR r).toArray) := hb1.trans (((((Below.refl _ w1).alloc (Nat.le_refl _) _).trans (below_setRow _ (Nat.le_refl _) _))).mono hb1.size)
    have HX := Lib.hid (And.intro B2 bb2)
    clear B2 bb2 hb1 cg
    go_wp2_with (refine wpList_store_row rfl _ _ _ rfl w1.heap.size (cellsR r).toArray rfl rfl _ (cellsR (zeroR 0)).toArray (heap_alloc_new w1 _) (sizeRr HR.out) (holdR okz HR.out) (all_oneCell_toArray (cellsR_one _)) ?_)
    go_ret
    rw [HE.out]
    exact ⟨none, 0, rfl, own_nil, HX.out.2⟩

end Go.Proofs.YtpdfkakhahfcjaaGreat

/-
  The contracts of a strings.Builder's methods at this program, out of the library's shelf: what is of another type stays.
-/
namespace Go.Proofs
open Go.Shelf
open Go.RowKit Go.Lib in
theorem Tryz.Builder_WriteString_k (B b : Nat) (bs : List Value) (s : ByteArray) (w : World) (h : Lib.IsBuilderF 114 5 B b bs w) (hlen : bs.length + s.size ≤ 140737488355328) (hBw : B ≤ w.heap.size) :
    Calls Tryz.prog 89 #[.pointer (some ⟨b, 0, none⟩), .string s] w fun e w' => e = .returned (.tuple #[.int .i64 s.size, .nilIface]) ∧ (Lib.BuilderAtF 114 5 B b (.pointer (some ⟨b, 0, none⟩)) (bs ++ Lib.strCells s) w' ∧ Below B w w' ∧ Lib.OthersKept 5 (some b) w w') :=
  Any.Builder_WriteString_k (P := Tryz.prog) (ρ := Tryz.lays105_ren) { Tryz.lays105 with } Tryz.Builder_Extra_105 B b bs s w h hlen hBw
open Go.RowKit Go.Lib in
theorem Tryz.Builder_Len_f (B b : Nat) (bs : List Value) (w : World) (h : Lib.IsBuilderF 114 5 B b bs w) :
    Calls Tryz.prog 90 #[.pointer (some ⟨b, 0, none⟩)] w fun e w' => e = .returned (.int .i64 bs.length) ∧ w' = w :=
  Any.Builder_Len_f (P := Tryz.prog) (ρ := Tryz.lays105_ren) { Tryz.lays105 with } B b bs w h
open Go.RowKit Go.Lib in
theorem Tryz.Builder_String_any_k (B b : Nat) (l : List UInt8) (w : World) (h : Lib.IsBuilderF 114 5 B b (Lib.byteCells l) w) (hBw : B ≤ w.heap.size) :
    Calls Tryz.prog 91 #[.pointer (some ⟨b, 0, none⟩)] w fun e w' => e = .returned (.string ⟨l.toArray⟩) ∧ (Lib.IsBuilderF 114 5 B b (Lib.byteCells l) w' ∧ Below B w w' ∧ Lib.OthersKept 5 (some b) w w') :=
  Any.Builder_String_any_k (P := Tryz.prog) (ρ := Tryz.lays105_ren) { Tryz.lays105 with } Tryz.Builder_Extra_105 B b l w h hBw
end Go.Proofs

/-
  What an inode's data blocks hold, cut where it ends.
-/
namespace Go.Proofs.YtpdfkakhahfcjaaGreat
open Go.RowKit Go.Shelf
attribute [local go_sem] Oper.semAt_some

def flatP (img : List ByteArray) (pre : List (Nat × Nat)) : List UInt8 := pre.flatMap fun p => (blkI img p.2).data.toList
theorem flatP_data {r : RecI} (hr : OkR r) (img : List ByteArray) : flatP img (pairsR r (lenR r)) = flatR img r := by
  unfold flatP flatR
  rw [← pairsR_data hr, List.flatMap_map]
theorem flatP_length (img : List ByteArray) (pre : List (Nat × Nat)) : (flatP img pre).length = 128 * pre.length := by
  have := flatI_length img (pre.map (·.2))
  rw [List.flatMap_map, List.length_map] at this
  exact this
abbrev IsB (B b : Nat) (l : List UInt8) (W : World) : Prop := Lib.IsBuilderF 114 5 B b (Lib.byteCells l) W
theorem isB_kept {B b : Nat} {l : List UInt8} {W W' : World} (h : IsB B b l W) (hk : ∀ (k : Nat) (o : Obj), W.heap[k]? = some o → o.isCells = true → W'.heap[k]? = some o) : IsB B b l W' := by
  have key : ∀ p, Lib.BuilderAtF 114 5 B b p (Lib.byteCells l) W → Lib.BuilderAtF 114 5 B b p (Lib.byteCells l) W' := by
    rintro p ⟨hB, v, hb, ho, hne⟩
    refine ⟨hB, v, hk _ _ hb rfl, ⟨ho.1, ?_⟩, hne⟩
    rcases ho.2 with h0 | ⟨g, cap, cur, fz, e, h1, h2, h3⟩
    · exact .inl h0
    · exact .inr ⟨g, cap, cur, fz, e, h1, hk _ _ h2 rfl, h3⟩
  exact h.elim (fun x => .inl (key _ x)) (fun x => .inr (key _ x))
theorem isB_below {B b : Nat} {l : List UInt8} {W W' : World} (h : IsB B b l W) (hb : Below W.heap.size W W') : IsB B b l W' :=
  isB_kept h fun k _o hk _ => (hb.block k (Array.getElem?_eq_some_iff.1 hk).1).trans hk
theorem kept_below {b : Nat} {W W' : World} (hb : Below W.heap.size W W') : Lib.OthersKept 5 (some b) W W' := fun k _o hk _ _ => (hb.block k (Array.getElem?_eq_some_iff.1 hk).1).trans hk
theorem BR.kept {W W' : World} {g b : Nat} {r : RecI} (h : BR W g r) (hk : Lib.OthersKept 5 (some b) W W') (hne : g ≠ b) : BR W' g r := hk g _ h (by simpa using hne) (fun c fz e => by cases e)
/-- What a round keeps. -/
structure KpB (n₀ b : Nat) (A B : World) : Prop where
  below : Below n₀ A B
  kept : ∀ (k : Nat) (o : Obj), A.heap[k]? = some o → o.isCells = true → k ≠ b → (∀ c fz, o ≠ .cells c 5 fz) → B.heap[k]? = some o
theorem KpB.trans {n₀ b : Nat} {A B C : World} (h : KpB n₀ b A B) (k : KpB n₀ b B C) : KpB n₀ b A C := ⟨h.below.trans k.below, fun i o ho hc hne hu => k.kept i o (h.kept i o ho hc hne hu) hc hne hu⟩
theorem KpB.refl (n₀ b : Nat) (A : World) : KpB n₀ b A A := ⟨Below.refl _ _, fun _ _ h _ _ _ => h⟩
theorem KpB.of {n₀ b : Nat} {A B : World} (h : Below n₀ A B) (k : Lib.OthersKept 5 (some b) A B) : KpB n₀ b A B := ⟨h, fun i o ho _ hne hu => k i o ho (by simpa using hne) hu⟩
theorem keeps_of {b : Nat} {A B : World} (hs : A.heap.size ≤ B.heap.size) (h : Lib.OthersKept 5 (some b) A B) (hb : ∃ c t f, A.heap[b]? = some (.cells c t f)) : KeepsOthers A B :=
  ⟨hs, fun k o hk hc => h k o hk (fun e => by
    injection e with e
    subst e
    obtain ⟨c, t, f, hh⟩ := hb
    rw [hh] at hk
    injection hk with hk
    subst hk
    cases hc) (fun c fz e => by subst e; cases hc)⟩
theorem kpB_put {n₀ b z : Nat} (hn : n₀ ≤ z) (W : World) (l : Nat) (o o' : Obj) (hl : z ≤ l) (ho : W.heap[l]? = some o) (hc : o.isCells = false) (_hw : o.isWalk = false) : KpB n₀ b W (W.putObj l o') :=
  ⟨belowF_put hn hl W o o' ho hc, fun k o2 h2 hc2 _ _ => by
    have hne : k ≠ l := fun e => by subst e; rw [ho] at h2; injection h2 with h2; subst h2; rw [hc] at hc2; cases hc2
    rw [World.putObj_heap_other hne]; exact h2⟩
theorem BR.keptB {W W' : World} {g b n₀ : Nat} {r : RecI} (h : BR W g r) (hk : KpB n₀ b W W') (hne : g ≠ b) : BR W' g r := hk.kept g _ h rfl hne (fun c fz e => by cases e)
/-- Between two rounds. -/
structure InvP (w w3 : World) (img : List ByteArray) (pre : List (Nat × Nat)) (W : World) : Prop where
  isB : IsB w.heap.size (w.heap.size + 1 + 1) (flatP img pre) W
  kp : KpB w.heap.size (w.heap.size + 1 + 1) w3 W
theorem invP_own {w w3 : World} {img : List ByteArray} (hw : w.heap.size ≤ w3.heap.size) : OwnFrom w3.heap.size (InvP w w3 img) := by
  rintro pre X Y row ⟨h1, h2⟩ hg hr
  have hcell : ∀ (k : Nat) (o : Obj), X.heap[k]? = some o → o.isCells = true → Y.heap[k]? = some o := fun k o ho hc => by
    refine (hg.block k (Array.getElem?_eq_some_iff.1 ho).1 (fun e => ?_)).trans ho
    obtain ⟨_, o', ho', hc'⟩ := hr k e.symm
    rw [ho] at ho'
    injection ho' with ho'
    subst ho'
    rw [hc] at hc'
    cases hc'
  exact ⟨isB_kept h1 hcell, ⟨ownFrom_below (β := Unit) (n₀ := w.heap.size) (w₀ := w3) hw hw () X Y row h2.below hg hr, fun k o ho hc hne hu => hcell k o (h2.kept k o ho hc hne hu) hc⟩⟩
def NoP (_ : Code) (_ : List (Nat × Nat)) (_ : World) : Prop := False
end Go.Proofs.YtpdfkakhahfcjaaGreat
