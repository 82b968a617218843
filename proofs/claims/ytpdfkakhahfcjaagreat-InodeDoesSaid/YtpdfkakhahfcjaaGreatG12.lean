/-
  The program's iterator over an inode's data blocks.
-/
import Derived.Test.YtpdfkakhahfcjaaGreatG11
import Derived.Test.YtpdfkakhahfcjaaGreatG07
import Derived.Test.YtpdfkakhahfcjaaGreatG08
import Derived.Maps.OwnIn
namespace Go.Proofs.YtpdfkakhahfcjaaGreat
open Go.RowKit Go.Shelf
attribute [local go_sem] Oper.semAt_some

/-- What is handed out: a block's place and its number. -/
abbrev encsBlk (p : Nat × Nat) : Array Value := #[.int .i64 (p.1 : Int), .int .i64 (p.2 : Int)]
def pairsR (r : RecI) (k : Nat) : List (Nat × Nat) := (List.range k).map fun j => (j, (r.bl ++ r.ls).getD j 0)
def lenR (r : RecI) : Nat := min (needN r.size) 68
theorem pairsR_length (r : RecI) (k : Nat) : (pairsR r k).length = k := by simp [pairsR]
theorem pairsR_succ (r : RecI) (k : Nat) : pairsR r (k + 1) = pairsR r k ++ [(k, (r.bl ++ r.ls).getD k 0)] := by simp [pairsR, List.range_succ]
theorem pairsR_data {r : RecI} (hr : OkR r) : (pairsR r (lenR r)).map (·.2) = dataR r := by
  have hl := dataR_length hr
  refine List.ext_getElem (by rw [List.length_map, pairsR_length, hl]; rfl) fun i h1 h2 => ?_
  rw [hl] at h2
  have h3 : i < (r.bl ++ r.ls).length := by rw [List.length_append, hr.bl, hr.ls]; omega
  simp [pairsR, dataR, List.getD_eq_getElem?_getD, List.getElem?_eq_getElem h3]
/-- A row of numbers in a block from base on. -/
def rowE (base n : Nat) (l : List Nat) : Value → World → Prop := fun v w => ∃ b o c, v = .slice (some ⟨b, o, none⟩) n c ∧ base ≤ b ∧ b < w.heap.size ∧ (∃ cs fr, w.heap[b]? = some (.cells cs 3 fr)) ∧ ∀ j, j < n → w.cell? ⟨b, o + j, none⟩ = some (.int .i64 (l.getD j 0 : Nat))
theorem rowE_out {base n : Nat} {l : List Nat} {v : Value} {w : World} (h : rowE base n l v w) : ∃ x : Nat × Nat × Nat, v = .slice (some ⟨x.1, x.2.1, none⟩) n x.2.2 ∧ base ≤ x.1 ∧ x.1 < w.heap.size ∧ (∃ cs fr, w.heap[x.1]? = some (.cells cs 3 fr)) ∧ ∀ j, j < n → w.cell? ⟨x.1, x.2.1 + j, none⟩ = some (.int .i64 (l.getD j 0 : Nat)) := by
  obtain ⟨b, o, c, h⟩ := h
  exact ⟨(b, o, c), h⟩
theorem rowE.step {base n : Nat} {l : List Nat} {v : Value} {w w' : World} (h : rowE base n l v w) (hb : Below w.heap.size w w') : rowE base n l v w' := by
  obtain ⟨b, o, c, e, h1, h2, ⟨cs, fr, h3⟩, h4⟩ := h
  exact ⟨b, o, c, e, h1, Nat.lt_of_lt_of_le h2 hb.size, ⟨cs, fr, (hb.block b h2).trans h3⟩, fun j hj => (hb.cell (p := ⟨b, o + j, none⟩) h2).trans (h4 j hj)⟩
theorem rowE_of {w' : World} {A : Option Addr} {base n c : Nat} {l : List Nat} (ho : w'.ownsRow base 3 1 (.slice A n c) n (encN l)) (hn : 0 < n) {base0 : Nat} (hb : base0 ≤ base) : rowE base0 n l (.slice A n c) w' := by
  have hr := Reads.of_own ho
  have hge := own_row_ge ho
  rcases ho.2 with ⟨e, h0⟩ | ⟨g, cap, cur, e, hg, hh, _⟩
  · omega
  · injection e with e1 e2 e3
    subst e1
    refine ⟨g, 0, c, rfl, by omega, (Array.getElem?_eq_some_iff.1 hh).1, ⟨_, _, hh⟩, fun j hj => ?_⟩
    obtain ⟨b', o', e, _, hc⟩ := hr.nat hj
    injection e with e
    injection e with e1 e2
    subst e1; subst e2
    exact hc
/-- What a round keeps: what lay below n₀, and all rows that are not the body's own. -/
structure KpG (Mine : World → Nat → Prop) (n₀ : Nat) (A B : World) : Prop where
  below : Below n₀ A B
  keep : ∀ k o, A.heap[k]? = some o → o.isCells = true → ¬ Mine A k → B.heap[k]? = some o
  mine : ∀ k, Mine B k → Mine A k ∨ A.heap.size ≤ k
theorem KpG.trans {Mine : World → Nat → Prop} {n₀ : Nat} {A B C : World} (h : KpG Mine n₀ A B) (k : KpG Mine n₀ B C) : KpG Mine n₀ A C :=
  ⟨h.below.trans k.below, fun q o ho hc hm => k.keep q o (h.keep q o ho hc hm) hc (fun hb => (h.mine q hb).elim hm (fun hge => by have := (Array.getElem?_eq_some_iff.1 ho).1; omega)), fun q hq => by
    rcases k.mine q hq with hb | hb
    · exact h.mine q hb
    · exact .inr (Nat.le_trans h.below.size hb)⟩
/-- Two rows in a row. -/
def pairV (g : Nat) : Value → World → Prop := fun v w => ∃ b, v = .slice (some ⟨b, 0, none⟩) 2 2 ∧ w.cell? ⟨b, 0, none⟩ = some (.slice (some ⟨g, 3, none⟩) 4 4) ∧ w.cell? ⟨b, 1, none⟩ = some (.slice (some ⟨g, 8, none⟩) 64 64) ∧ b < w.heap.size
theorem pairV_out {g : Nat} {v : Value} {w : World} (h : pairV g v w) : ∃ b, v = .slice (some ⟨b, 0, none⟩) 2 2 ∧ w.cell? ⟨b, 0, none⟩ = some (.slice (some ⟨g, 3, none⟩) 4 4) ∧ w.cell? ⟨b, 1, none⟩ = some (.slice (some ⟨g, 8, none⟩) 64 64) ∧ b < w.heap.size := h
theorem pairV.step {g : Nat} {v : Value} {w w' : World} (h : pairV g v w) (hb : Below w.heap.size w w') : pairV g v w' := by
  obtain ⟨b, e, h0, h1, hlt⟩ := h
  exact ⟨b, e, (hb.cell (p := ⟨b, 0, none⟩) hlt).trans h0, (hb.cell (p := ⟨b, 1, none⟩) hlt).trans h1, Nat.lt_of_lt_of_le hlt hb.size⟩
def iterV (z g : Nat) (r : RecI) : Nat → Value → World → Prop
  | 0 => eqV (.pointer (some ⟨g, 1, none⟩))
  | 1 => eqV (.pointer (some ⟨g, 3, none⟩))
  | 2 => eqV (.slice (some ⟨g, 3, none⟩) 4 4)
  | 3 => eqV (.pointer (some ⟨g, 8, none⟩))
  | 4 => eqV (.slice (some ⟨g, 8, none⟩) 64 64)
  | 5 => pairV g
  | 6 => rowE z 68 (r.bl ++ r.ls)
  | 7 => rowE z 68 (r.bl ++ r.ls)
  | _ => fun _ _ => True
theorem iterV_stable (z g : Nat) (r : RecI) (j : Nat) (v : Value) (w w' : World) (hb : Below w.heap.size w w') (h : iterV z g r j v w) : iterV z g r j v w' := by
  match j, h with
  | 0, h => exact h
  | 1, h => exact h
  | 2, h => exact h
  | 3, h => exact h
  | 4, h => exact h
  | 5, h => exact pairV.step h hb
  | 6, h => exact rowE.step h hb
  | 7, h => exact rowE.step h hb
  | _ + 8, _ => trivial

set_option maxRecDepth 100000 in
set_option maxHeartbeats 4000000 in
theorem blk1_in {W : World} (n : Nat) (hn : 1 ≤ n) (l g : Nat) (r : RecI) (hr : OkR r) (Kp : World → World → Prop) (hKt : ∀ {A B C : World}, Kp A B → Kp B C → Kp A C) (hKr : ∀ A, Kp A A) (J Jx : List (Nat × Nat) → World → Prop) (hJ : AbidesFrom W.heap.size J)
    (hY : ∀ (pre : List (Nat × Nat)) (i : Nat × Nat) (W : World), J pre W → pre.length < lenR r → YieldAt Fence.wide (n - 1) Tryz.prog l (encsBlk i) W fun e W' =>
      (e = .returned (.bool true) ∧ J (pre ++ [i]) W' ∧ Kp W W') ∨ (e = .returned (.bool false) ∧ Jx (pre ++ [i]) W'))
    (hB : BR W g r) (hKu : ∀ W1 W2, Below W.heap.size W W1 → Kp W1 W2 → ∀ k cs fr, W.heap.size ≤ k → W1.heap[k]? = some (.cells cs 3 fr) → W2.heap[k]? = some (.cells cs 3 fr)) (h0 : J [] W) :
    CallsIn Fence.wide n Tryz.prog 76 #[.func (.yield l) #[] #[], .pointer (some ⟨g, 0, none⟩)] W fun e W' => (∃ v, e = .returned v) ∧
      ((∃ ys, ys = pairsR r (lenR r) ∧ J ys W') ∨ (∃ pre, (∃ k, k ≤ lenR r ∧ pre = pairsR r k) ∧ Jx pre W')) := by
  have hmx : Tryz.prog.follows .mixedOrders = true := by kernel_rfl
  have HR := Lib.hid hr
  have HB := Lib.hid hB
  have H0 := Lib.hid h0
  clear hr hB h0
  refine callsIn_of_wp Tryz.func76 rfl trivial ?_ rfl
  simp only [Tryz.ntmps76, List.size_toArray, List.length_cons, List.length_nil, Nat.reduceAdd, Nat.reduceSub, Array.replicate_succ, Array.replicate_zero, List.push_toArray, List.append_toArray, List.nil_append, List.cons_append]
  refine wpIn_wide.2 ?_
  go_wp2
  refine wp_region_rel (fun w' => Below W.heap.size W w') (fun _ w w' => Below w.heap.size w w') (iterV W.heap.size g r) hmx (by kernel_rfl) ((Below.refl _ _).drew) (fun i w w' hC hs => bstep hC hs) (fun i j v w w' _ hs h => iterV_stable W.heap.size g r j v w w' hs h) ?_ ?_
  · refine ⟨?_, ?_, ?_, ?_, ?_, ?_, ?_, ?_, trivial⟩
    · intro V W1 hC hd K hK
      clear hd
      simp only [laidL, Act.put, List.setIfInBounds_toArray, List.set_cons_zero, List.set_cons_succ] at hK ⊢
      go_simp
      exact hK _ _ ⟨Below.refl _ _, rfl⟩
    · intro V W1 hC hd K hK
      have q0 : iterV W.heap.size g r 0 (V 0) W1 := hd.1
      have e0 : V 0 = .pointer (some ⟨g, 1, none⟩) := q0
      clear q0
      clear hd
      simp only [laidL, Act.put, List.setIfInBounds_toArray, List.set_cons_zero, List.set_cons_succ] at hK ⊢
      generalize V 0 = v0 at e0 hK ⊢
      subst e0
      go_simp
      exact hK _ _ ⟨Below.refl _ _, rfl⟩
    · intro V W1 hC hd K hK
      have q1 : iterV W.heap.size g r 1 (V 1) W1 := hd.1
      have e1 : V 1 = .pointer (some ⟨g, 3, none⟩) := q1
      clear q1
      clear hd
      simp only [laidL, Act.put, List.setIfInBounds_toArray, List.set_cons_zero, List.set_cons_succ] at hK ⊢
      generalize V 1 = v1 at e1 hK ⊢
      subst e1
      go_simp
      exact hK _ _ ⟨Below.refl _ _, rfl⟩
    · intro V W1 hC hd K hK
      clear hd
      simp only [laidL, Act.put, List.setIfInBounds_toArray, List.set_cons_zero, List.set_cons_succ] at hK ⊢
      go_simp
      exact hK _ _ ⟨Below.refl _ _, rfl⟩
    · intro V W1 hC hd K hK
      have q3 : iterV W.heap.size g r 3 (V 3) W1 := hd.1
      have e3 : V 3 = .pointer (some ⟨g, 8, none⟩) := q3
      clear q3
      clear hd
      simp only [laidL, Act.put, List.setIfInBounds_toArray, List.set_cons_zero, List.set_cons_succ] at hK ⊢
      generalize V 3 = v3 at e3 hK ⊢
      subst e3
      go_simp
      exact hK _ _ ⟨Below.refl _ _, rfl⟩
    · intro V W1 hC hd K hK
      have q2 : iterV W.heap.size g r 2 (V 2) W1 := hd.1
      have e2 : V 2 = .slice (some ⟨g, 3, none⟩) 4 4 := q2
      clear q2
      have q4 : iterV W.heap.size g r 4 (V 4) W1 := hd.2.1
      have e4 : V 4 = .slice (some ⟨g, 8, none⟩) 64 64 := q4
      clear q4
      clear hd
      simp only [laidL, Act.put, List.setIfInBounds_toArray, List.set_cons_zero, List.set_cons_succ] at hK ⊢
      generalize V 2 = v2 at e2 hK ⊢
      subst e2
      generalize V 4 = v4 at e4 hK ⊢
      subst e4
      go_simp
      exact hK _ _ ⟨(Below.refl _ _).alloc (Nat.le_refl _) _, _, rfl, cell_of_row _ _ 0 _ _ _ (heap_alloc_new _ _), cell_of_row _ _ 1 _ _ _ (heap_alloc_new _ _), by simp⟩
    · intro V W1 hC hd K hK
      have q5 : iterV W.heap.size g r 5 (V 5) W1 := hd.1
      have q5 : pairV g (V 5) W1 := q5
      have p5 := pairV_out q5
      clear q5
      cases p5
      rename_i b5 hh
      have e5 := hh.1
      have h5 := hh.2
      clear hh
      clear hd
      simp only [laidL, Act.put, List.setIfInBounds_toArray, List.set_cons_zero, List.set_cons_succ] at hK ⊢
      generalize V 5 = v5 at e5 hK ⊢
      subst e5
      go_simp
      go_at_call 77
      refine (concat_any _ g r.bl r.ls _ h5.1 h5.2.1 h5.2.2 ((HB.out.step hC).bl HR.out) ((HB.out.step hC).ls HR.out)).mono ?_
      rintro e w3 ⟨A, c, rfl, ho, hb3⟩
      exact hK _ _ ⟨hb3, rowE_of ho (by omega) hC.size⟩
    · intro V W1 hC hd K hK
      have q6 : iterV W.heap.size g r 6 (V 6) W1 := hd.1
      have q6 : rowE W.heap.size 68 (r.bl ++ r.ls) (V 6) W1 := q6
      have p6 := rowE_out q6
      clear q6
      cases p6
      rename_i b6 hh
      have e6 := hh.1
      have h6 := hh.2
      clear hh
      clear hd
      simp only [laidL, Act.put, List.setIfInBounds_toArray, List.set_cons_zero, List.set_cons_succ] at hK ⊢
      generalize V 6 = v6 at e6 hK ⊢
      subst e6
      go_simp
      exact hK _ _ ⟨Below.refl _ _, _, _, _, rfl, h6⟩
  · intro V W1 hC hV
    have h7 : rowE W.heap.size 68 (r.bl ++ r.ls) (V 7) W1 := hV 7 (show 7 < 8 by decide)
    obtain ⟨b, o, c, e7, hrd⟩ := h7
    have HC := Lib.hid (And.intro hC hrd)
    clear hV hC hrd
    simp only [laidL, Act.put, List.setIfInBounds_toArray, List.set_cons_zero, List.set_cons_succ]
    generalize V 7 = v7 at e7 ⊢
    subst e7
    have hc := (HB.out.step HC.out.1).size
    have hs : r.size ≤ 4611686018427387904 := by have := HR.out.size; omega
    have cn := fun w => needsI_any r.size hs w
    have hk : Hid (lenR r = min (needN r.size) 68) := Lib.hid rfl
    obtain ⟨m, hm⟩ : ∃ m, m = needN r.size := ⟨_, rfl⟩
    rw [← hm] at cn hk
    clear hm
    go_wp2_with (go_at_call 78; refine (cn _).mono ?_; rintro e w1 ⟨rfl, rfl⟩)
    obtain ⟨M, hM2⟩ : ∃ M, M = lenR r := ⟨_, rfl⟩
    have hmin : min (m : Int) 68 = (M : Int) := by rw [hM2, hk.out]; omega
    have hM68 : M ≤ 68 := by rw [hM2, hk.out]; omega
    rw [hmin]
    rw [← hM2] at hY
    have HMM := Lib.hid hM2
    have J1 : J [] W1 := hJ [] W W1 none H0.out ⟨HC.out.1.os, HC.out.1.tape, HC.out.1.output, HC.out.1.size, fun k hk _ => HC.out.1.block k hk⟩ (fun r e => by cases e)
    have HJ1 := Lib.hid J1
    clear hM2 J1 cn hJ hc
    refine (wpIn_wide (n := n)).1 ?_
    gi_loopw [17] (fun p wr => ∃ k : Nat, p = .int .i64 k ∧ k ≤ M ∧ J (pairsR r k) wr ∧ Hid (Kp W1 wr)) (fun p _ => M - (intOf p).toNat)
    case atStart => exact ⟨0, rfl, Nat.zero_le _, HJ1.out, Lib.hid (hKr W1)⟩
    case round =>
      obtain ⟨k, rfl, hk, hJ, K⟩ := hrel
      have HJ := Lib.hid hJ
      by_cases h : k < M
      · have hlt : (k : Int) < (M : Int) := by omega
        have h68 : (k : Int) < 68 := by omega
        have hcell : wr.cell? ⟨b, o + k, none⟩ = some (.int .i64 ((r.bl ++ r.ls).getD k 0 : Nat)) := by
          obtain ⟨cs, fr, hh⟩ := HC.out.2.2.2.1
          exact (World.cell?_of_block (a := ⟨b, o + k, none⟩) ((hKu W1 wr HC.out.1 K.out b cs fr HC.out.2.1 hh).trans hh.symm)).trans (HC.out.2.2.2.2 k (by omega))
        have HN := Lib.hid (pairsR_succ r k)
        have hlen : (pairsR r k).length < M := by rw [pairsR_length]; exact h
        generalize (r.bl ++ r.ls).getD k 0 = x at hcell HN
        obtain ⟨fn, tmps, assign, body, hy, hR⟩ := hY (pairsR r k) (k, x) wr HJ.out hlen
        dsimp only [encsBlk] at hy
        clear hlen hJ
        gi_wp2
        refine hR.mono ?_
        rintro e W3 (⟨rfl, hJ3, hk3⟩ | ⟨rfl, hJx3⟩)
        · have HJ3 := Lib.hid hJ3
          have K3 := Lib.hid (hKt K.out hk3)
          clear hJ3 hk3 hcell
          gi_wp2
          go_roundw
          case rel => exact ⟨k + 1, by go_num, by omega, by rw [HN.out]; exact HJ3.out, K3⟩
          case measure => simp [intOf]; omega
        · gi_wp2
          refine bodyPost_ret (results_none rfl _ _ _) rfl ?_
          exact ⟨⟨_, rfl⟩, .inr ⟨_, ⟨k + 1, by rw [← HMM.out]; omega, HN.out.symm⟩, hJx3⟩⟩
      · have : k = M := by omega
        subst this
        gi_wp2
        go_end0
        exact ⟨⟨_, rfl⟩, .inl ⟨_, by rw [← HMM.out], HJ.out⟩⟩

set_option maxHeartbeats 1000000 in
theorem blkFn_in (n : Nat) (r : RecI) (w : World) :
    CallsIn Fence.wide n Tryz.prog 44 #[valR r] w fun e w' => e = .returned (.func (.func 76) #[] #[.pointer (some ⟨w.heap.size, 0, none⟩)]) ∧ w' = w.alloc (.cells (cellsR r).toArray 62) := by
  unfold valR
  refine callsIn_of_wp Tryz.func44 rfl trivial ?_ rfl
  simp only [Tryz.ntmps44, List.size_toArray, List.length_cons, List.length_nil, Nat.reduceAdd, Nat.reduceSub, Array.replicate_succ, Array.replicate_zero, List.push_toArray, List.append_toArray, List.nil_append, List.cons_append]
  gi_wp2
  go_ret
  exact ⟨rfl, rfl⟩

theorem blk_stops (n : Nat) (hn : 1 ≤ n) (g : Nat) (r : RecI) (hr : OkR r) (Kp : World → World → Prop) (hKt : ∀ {A B C : World}, Kp A B → Kp B C → Kp A C) (hKr : ∀ A, Kp A A) (w : World) (hB : BR w g r)
    (hKu : ∀ W1 W2, Below w.heap.size w W1 → Kp W1 W2 → ∀ k cs fr, w.heap.size ≤ k → W1.heap[k]? = some (.cells cs 3 fr) → W2.heap[k]? = some (.cells cs 3 fr)) :
    SeqStopsK Fence.wide n Tryz.prog 76 #[.pointer (some ⟨g, 0, none⟩)] encsBlk Kp (fun ys => ys = pairsR r (lenR r)) (fun pre => ∃ k, k ≤ lenR r ∧ pre = pairsR r k) (lenR r) w := fun l J Jx _W hW hJ _ hY h0 =>
  blk1_in n hn l g r hr Kp hKt hKr J Jx hJ hY (hB.step hW) (fun W1 W2 h1 hk k cs fr hge hh => hKu W1 W2 (bstep hW h1) hk k cs fr (Nat.le_trans hW.size hge) hh) h0

end Go.Proofs.YtpdfkakhahfcjaaGreat

/-
  An inode's data blocks, and all that it names.
-/
namespace Go.Proofs.YtpdfkakhahfcjaaGreat
open Go.RowKit Go.Shelf
attribute [local go_sem] Oper.semAt_some

/-- The box and the row in it. -/
def MineB (T : Nat) (W : World) (k : Nat) : Prop := k = T ∨ ∃ v, W.cell? ⟨T, 0, none⟩ = some v ∧ v.ownBlock = some k
def InvD (w : World) (pre : List (Nat × Nat)) (W : World) : Prop := (∃ v, Boxed W (w.heap.size + 1) 49 v ∧ W.ownsRow w.heap.size 3 1 v pre.length (encN (pre.map (·.2))) ∧ True) ∧ Below w.heap.size w W
theorem mineB_put {T z l : Nat} (hT : T < z) (hl : z ≤ l) (W : World) (o : Obj) (k : Nat) (h : MineB T (W.putObj l o) k) : MineB T W k := by
  rcases h with h | ⟨v, hc, hv⟩
  · exact .inl h
  · refine .inr ⟨v, ?_, hv⟩
    unfold World.cell? at hc ⊢
    rwa [World.putObj_heap_other (show T ≠ l by omega)] at hc
theorem kpG_put {T n₀ z : Nat} (hn : n₀ ≤ z) (hT : T < z) (W : World) (l : Nat) (o o' : Obj) (hl : z ≤ l) (ho : W.heap[l]? = some o) (hc : o.isCells = false) (_hw : o.isWalk = false) : KpG (MineB T) n₀ W (W.putObj l o') :=
  ⟨belowF_put hn hl W o o' ho hc, fun k o2 h2 hc2 _ => by
    have hne : k ≠ l := fun e => by subst e; rw [ho] at h2; injection h2 with h2; subst h2; rw [hc] at hc2; cases hc2
    rw [World.putObj_heap_other hne]; exact h2, fun k h => .inl (mineB_put hT hl W o' k h)⟩
/-- A round that appends onto the row in the box. -/
theorem kpG_append {W w2 : World} {T n₀ : Nat} {tT : TypeId} {v v' : Value} {tmp : Obj} (hv : Boxed W T tT v) (hg : (W.alloc tmp).grownBy w2 v.ownBlock) (hb : Below n₀ W (w2.setCell ⟨T, 0, none⟩ v')) (hv2 : Boxed (w2.setCell ⟨T, 0, none⟩ v') T tT v')
    (hw : v'.ownBlock = v.ownBlock ∨ v'.ownBlock = some (W.alloc tmp).heap.size) : KpG (MineB T) n₀ W (w2.setCell ⟨T, 0, none⟩ v') :=
  ⟨hb, fun k o ho hc hm => by
    have hkT : k ≠ T := fun e => hm (.inl e)
    have hkv : some k ≠ v.ownBlock := fun e => hm (.inr ⟨v, hv.cell, e.symm⟩)
    have hlt := (Array.getElem?_eq_some_iff.1 ho).1
    rw [Below.heap_setCell w2 ⟨T, 0, none⟩ v' k hkT, hg.block k (by simp; omega) hkv, Below.heap_alloc W tmp k hlt]
    exact ho, fun k h => by
    rcases h with h | ⟨u, hu, hk⟩
    · exact .inl (.inl h)
    · rw [hv2.cell] at hu
      injection hu with hu
      subst hu
      rcases hw with e | e
      · exact .inl (.inr ⟨v, hv.cell, by rw [← e]; exact hk⟩)
      · rw [e] at hk
        injection hk with hk
        right
        simp at hk
        omega⟩
def NoD (_ : Code) (_ : List (Nat × Nat)) (_ : World) : Prop := False
/-- A row of the call's own. -/
def RowP (w : World) (l : List Nat) (e : Ending) (w' : World) : Prop := ∃ A c, e = .returned (.slice A l.length c) ∧ w'.ownsRow w.heap.size 3 1 (.slice A l.length c) l.length (encN l) ∧ Below w.heap.size w w'

set_option maxRecDepth 100000 in
set_option maxHeartbeats 4000000 in
theorem data_any (r : RecI) (hr : OkR r) (w : World) : Calls Tryz.prog 74 #[valR r] w (RowP w (dataR r)) := by
  obtain ⟨i0, hi0, hy0, hy1, hy2⟩ := info_parts infoI
  refine (callsIn_wide (n := 3)).1 ?_
  refine callsIn_of_wp_marks Tryz.func74 rfl trivial ?_ rfl
  refine wpIn_wide.2 ?_
  unfold valR
  simp only [Tryz.ntmps74, List.size_toArray, List.length_cons, List.length_nil, Nat.reduceAdd, Nat.reduceSub, Array.replicate_succ, Array.replicate_zero, List.push_toArray, List.append_toArray, List.nil_append, List.cons_append]
  have B1 : BR ((w.alloc (.cells (cellsR r).toArray 62)).alloc (.cells #[.slice none 0 0] 49)) w.heap.size r := (BR.new w r).alloc _
  go_wp2_with (first | (refine wpList_load_mid rfl _ _ rfl w.heap.size 0 rfl (cellsR r) _ B1.range Tryz.underlying62 rfl (by rw [cellsR_length hr]; exact sizeR) ?_) | (go_at_call 44; refine ((callsIn_wide (n := 2)).1 (blkFn_in 2 r _)).mono ?_; rintro e w' ⟨rfl, rfl⟩))
  refine (wpIn_wide (n := 3)).1 ?_
  have bT := (((Boxed.new (w.alloc (.cells (cellsR r).toArray 62)) 49 (.slice none 0 0)).alloc (.cells (cellsR r).toArray 62)))
  have bS := BR.new ((w.alloc (.cells (cellsR r).toArray 62)).alloc (.cells #[.slice none 0 0] 49)) r
  have hB0 : Below w.heap.size w (((w.alloc (.cells (cellsR r).toArray 62)).alloc (.cells #[.slice none 0 0] 49)).alloc (.cells (cellsR r).toArray 62)) := (((Below.refl _ w).alloc (Nat.le_refl _) _).alloc (by simp) _).alloc (by simp; omega) _
  simp only [World.size_alloc] at bT bS
  have hM : ∀ W', Below (((w.alloc (.cells (cellsR r).toArray 62)).alloc (.cells #[.slice none 0 0] 49)).alloc (.cells (cellsR r).toArray 62)).heap.size (((w.alloc (.cells (cellsR r).toArray 62)).alloc (.cells #[.slice none 0 0] 49)).alloc (.cells (cellsR r).toArray 62)) W' → ∀ k, MineB (w.heap.size + 1) W' k → k < (((w.alloc (.cells (cellsR r).toArray 62)).alloc (.cells #[.slice none 0 0] 49)).alloc (.cells (cellsR r).toArray 62)).heap.size ∧ k ≠ w.heap.size + 1 + 1 := by
    intro W' hb k hk
    rcases hk with rfl | ⟨v, hc, hv⟩
    · simp
    · rw [(hb.cell (p := ⟨w.heap.size + 1, 0, none⟩) (by simp)).trans bT.cell] at hc
      injection hc with hc
      subst hc
      cases hv
  refine wpIn_rangeFunc_ownG rfl (by omega) (gf := 76) (lb := #[.pointer (some ⟨w.heap.size + 1 + 1, 0, none⟩)]) rfl trivial (enters_of Tryz.func76 (by kernel_rfl) rfl)
    (blk_stops 2 (by omega) (w.heap.size + 1 + 1) r hr (KpG (MineB (w.heap.size + 1)) w.heap.size) KpG.trans (fun A => ⟨Below.refl _ _, fun _ _ h _ _ => h, fun _ h => .inl h⟩) _ bS (fun W1 W2 h1 hk k cs fr hge hh => hk.keep k _ hh rfl (fun hm => by have := (hM W1 h1 k hm).1; omega))) KpG.trans (kpG_put (by simp; omega) (by simp)) (Below.refl _ _) (fun _ => rfl)
    (InvD w) NoD
    (OwnFrom.and (Own.from (holdsRow_own w.heap.size (w.heap.size + 1) 49 3 1 (fun pre : List (Nat × Nat) => pre.length) (fun pre : List (Nat × Nat) => encN (pre.map (·.2))) (fun _ _ => True)) _) (ownFrom_below (Nat.le_refl _) (by simp; omega)))
    ?ownx ⟨⟨_, bT, own_nil, trivial⟩, hB0⟩
    (fun i => { tmps := #[.agg (cellsR r).toArray, .pointer (some ⟨w.heap.size, 0, none⟩), .slice none 0 0, .pointer (some ⟨w.heap.size + 1, 0, none⟩), undef, .int .i64 (i.2 : Int), .agg (cellsR r).toArray, .func (.func 76) #[] #[.pointer (some ⟨w.heap.size + 1 + 1, 0, none⟩)], .int .i64 (i.1 : Int), .int .i64 (i.2 : Int), undef, undef, undef, undef, undef], defers := [] }) ?assign ?body ?done ?stop
  case ownx =>
    rintro c pre X Y row h0 hg hr
    exact h0.elim
  case assign =>
    intro l i W K hK
    gi_wp2
    exact hK
  case body =>
    rintro l pre i W ⟨⟨v, hv, hrow, _⟩, hB⟩ hlt
    have hc := hv.cell
    obtain ⟨A8, c8, rfl, _⟩ := own_slice hrow
    have hlen5 : pre.length ≤ 512 := by unfold lenR at hlt; omega
    clear hB0 bT bS hlt hM B1
    gi_wp2_with (gi_at_builtin; refine wpListIn_append_own_at _ rfl (.tmp 10) (.tmp 12) 49 rfl w.heap.size 3 i0 (.int .i64 0) 1 8 Tryz.underlying49 hi0 hy0 hy1 hy2 rfl (by decide) _ _ _ rfl (hrow.alloc _) ⟨W.heap.size, 0, none⟩ 1 1 [.int .i64 (i.2 : Int)] rfl rfl (cell_one_new _ _ _) (by simp [Value.oneCell']) (by unfold maxLen; omega) (by omega) (by have := hB.size; simp; omega) ?_; intro v' w2 hown' hgrow _ hwhere; obtain ⟨g', cap', rfl⟩ := ownsRow_succ hown'; obtain ⟨hv1, hv2, hr2, hk2, hb2⟩ := hv.appended (by decide) hrow hB.size (by omega) hown' hgrow; have hc1 := hv1.cell; have hf1 := hv1.frozen)
    exact ⟨hk2.from _, kpG_append hv hgrow hb2 hv2 hwhere, ⟨_, hv2, by rw [List.map_append, encN_app, List.length_append]; exact hr2, trivial⟩, hB.trans hb2⟩
  case done =>
    rintro D ys W hD hys ⟨⟨v, hv, hrow, _⟩, hB⟩ hK'
    obtain ⟨A8, c8, rfl, _⟩ := own_slice hrow
    have hc := hv.cell
    have hll : ys.length = (dataR r).length := by rw [hys, ← pairsR_data hr, List.length_map]
    rw [hll, show ys.map (·.2) = dataR r by rw [hys, pairsR_data hr]] at hrow
    rw [hll] at hc
    clear hB0 bT bS hM B1 hys
    generalize ys.length = q at hll hv
    go_wp2
    refine ⟨by simp, .inl ⟨_, _, rfl, run_takeDeferred (show W.heap[D]? = some (.deferred (some [])) from hK'), ?_⟩⟩
    refine ⟨_, results_tmp rfl _ _ _, ?_⟩
    exact ⟨A8, c8, rfl, own_putObj hrow hK' _, hB.trans (belowF_put (z := w.heap.size) (Nat.le_refl _) (by simp at hD; omega) W _ _ hK' rfl)⟩
  case stop =>
    rintro D c pre W hD _ h0 hK
    exact h0.elim

end Go.Proofs.YtpdfkakhahfcjaaGreat

/-
  All that an inode names; the same inode with another size and other blocks.
-/
namespace Go.Proofs.YtpdfkakhahfcjaaGreat
open Go.RowKit

set_option maxRecDepth 100000 in
set_option maxHeartbeats 4000000 in
theorem named_any (r : RecI) (hr : OkR r) (w : World) : Calls Tryz.prog 40 #[valR r] w (RowP w (namedR r)) := by
  obtain ⟨i0, hi0, hz0, hz1, hz2⟩ := info_parts infoI
  have HR := Lib.hid hr
  have B1 := BR.new w r
  have hb0 := (Below.refl w.heap.size w).alloc (Nat.le_refl _) (.cells (cellsR r).toArray 62)
  have cd := data_any r hr (w.alloc (.cells (cellsR r).toArray 62))
  have hlen : (dataR r).length ≤ 68 := by rw [dataR_length hr]; omega
  have HN : Hid (namedR r = dataR r ++ if r.ind = 0 then [] else [r.ind]) := Lib.hid rfl
  clear hr
  unfold valR at cd ⊢
  go_enter Tryz.func40, Tryz.ntmps40
  generalize hD : dataR r = D at cd hlen HN
  clear hD
  go_wp2_with (first | (refine wpList_load_mid rfl _ _ rfl w.heap.size 0 rfl (cellsR r) _ B1.range Tryz.underlying62 rfl (by rw [cellsR_length HR.out]; exact sizeR) ?_) )
  refine cd.mono ?_
  rintro e w2 ⟨A, c, rfl, ho, hb2⟩
  have B2 := B1.step hb2
  have hbb := hb0.trans (hb2.mono (by simp))
  have HX := Lib.hid (And.intro (own_base ho (Nat.le_of_lt (by simp : w.heap.size < (w.alloc (.cells (cellsR r).toArray 62)).heap.size))) (And.intro B2 hbb))
  have hci := B2.ind HR.out
  clear ho hb2 B1 B2 hb0 hbb cd
  by_cases hz : r.ind = 0
  · have hzi : ((r.ind : Int) != 0) = false := by rw [hz]; rfl
    have HE : Hid (namedR r = D) := Lib.hid (by rw [HN.out, if_pos hz, List.append_nil])
    clear hz
    go_wp2
    go_ret
    rw [HE.out]
    exact ⟨A, c, rfl, HX.out.1, HX.out.2.2⟩
  · have hzi : ((r.ind : Int) != 0) = true := by rw [bne_iff_ne]; omega
    have HE : Hid (namedR r = D ++ [r.ind]) := Lib.hid (by rw [HN.out, if_neg hz])
    clear hz
    go_wp2_with (at_builtin; refine wpList_append_reads _ rfl (.tmp 10) (.tmp 14) 49 rfl w.heap.size 3 i0 _ 1 8 Tryz.underlying49 hi0 hz0 hz1 hz2 rfl (by omega) (.slice A D.length c) D.length (encN D) rfl (own_alloc HX.out.1 _) _ (some ⟨w2.heap.size, 0, none⟩) 1 1 (encN [r.ind]) rfl (reads_new w2 _ 3 1 1 rfl) (encN_one _) (by unfold maxLen; omega) (by omega) (by have := HX.out.2.2.size; simp; omega) ?_; intro A6 c6 w6 ho6 hg6 _)
    have HY := Lib.hid (And.intro ho6 ((HX.out.2.2.alloc HX.out.2.2.size _).grown hg6 (by have := HX.out.2.2.size; simp; omega) (fun q hq => own_row_ge HX.out.1 _ hq)))
    clear ho6 hg6
    go_ret
    rw [HE.out]
    exact ⟨A6, c6, by simp, by have h := HY.out.1; rw [← encN_app] at h; simpa using h, HY.out.2⟩
end Go.Proofs.YtpdfkakhahfcjaaGreat
