/-
  The document's own answers of layer 14: where the reading of a rule's text stands.
-/
import Derived.Test.YtnidkcedomhofaaGreatDoorG44
import Derived.Test.YtnidkcedomhofaaGreatDoorG45
import Derived.Test.YtnidkcedomhofaaGreatDoorG46
import Derived.Test.YtnidkcedomhofaaGreatDoorG47
import Derived.Test.YtnidkcedomhofaaGreatDoorG40
import Derived.Test.YtnidkcedomhofaaGreatDoorG11
namespace Go.Proofs.YtnidkcedomhofaaGreatDoor
open Go.RowKit

theorem one_any (k : Nat) (hk : k < 9) (r : RuV) (v1 v2 v3 v4 v5 : Value) (sn : List (List UInt8)) (s : ByteArray) (hs : s.size ≤ 1048576) (n : Nat) (w : World) (h : Rw w n r sn v1 v2 v3 v4 v5) (hn : n ≤ w.heap.size) (hl : lenR r ≤ 50000000) :
    Calls Tryz.prog 26 #[ruV r v1 v2 v3 v4, .string ⟨(nameB.getD k []).toArray⟩, .string s] w (OneA n k r sn v5 s.data.toList w) := by
  rcases key_cases hk with rfl | rfl | rfl | rfl | rfl | rfl | rfl | rfl | rfl
  · exact one0_any r v1 v2 v3 v4 v5 sn s hs n w h hn hl
  · exact one1_any r v1 v2 v3 v4 v5 sn s hs n w h hn hl
  · exact one2_any r v1 v2 v3 v4 v5 sn s hs n w h hn hl
  · exact one3_any r v1 v2 v3 v4 v5 sn s hs n w h hn hl
  · exact one4_any r v1 v2 v3 v4 v5 sn s hs n w h hn hl
  · exact one5_any r v1 v2 v3 v4 v5 sn s hs n w h hn hl
  · exact one6_any r v1 v2 v3 v4 v5 sn s hs n w h hn hl
  · exact one7_any r v1 v2 v3 v4 v5 sn s hs n w h hn hl
  · exact one8_any r v1 v2 v3 v4 v5 sn s hs n w h hn hl
theorem step_one {k : Nat} {q : RuV} {sn : List (List UInt8)} {p nm vl : List UInt8} (hc : Lib.cut p [61] = (nm, vl, true)) (hk : k < 9) (hn : nm = nameB.getD k []) (hf : ¬ (k = 0 ∧ freqL vl = 0)) (hs : nm ∉ sn) :
    stepV q sn p = match oneL k q vl with | .error e => .error e | .ok x => .ok (x, sn ++ [nm]) := by
  have hN : nameL nm = k := by rw [hn]; exact (name_ok hk).1
  have hkt : ((k : Nat) : Int).toNat = k := by omega
  unfold stepV oneL
  rw [hc]
  simp only
  rw [hN, hkt, if_neg (by decide), if_neg (by omega), if_neg (fun h => hf ⟨by omega, h.2⟩), if_neg hs]
  by_cases h24 : isLst k = true ∧ 24 < (splitC 44 [] vl).length
  · rw [if_pos h24, if_pos h24]
  · rw [if_neg h24, if_neg h24]
    cases hx : foldK k q (valsK k vl) with
    | some x => rfl
    | none =>
      by_cases h0 : k = 0
      · subst h0
        have hv : valsK 0 vl = [vl] := rfl
        rw [hv, fold_one] at hx
        unfold readK at hx
        simp only at hx
        split at hx
        · rename_i e; exact absurd ⟨rfl, e⟩ hf
        · cases hx
      · simp only [if_neg h0]
theorem step_no {q : RuV} {sn : List (List UInt8)} {p nm vl : List UInt8} (hc : Lib.cut p [61] = (nm, vl, false)) : stepV q sn p = .error 10 := by
  unfold stepV; rw [hc, if_pos rfl]
theorem step_name {q : RuV} {sn : List (List UInt8)} {p nm vl : List UInt8} (hc : Lib.cut p [61] = (nm, vl, true)) (h : nameL nm < 0) : stepV q sn p = .error 21 := by
  unfold stepV; rw [hc]; simp only; rw [if_neg (by decide), if_pos h]
theorem step_freq {q : RuV} {sn : List (List UInt8)} {p nm vl : List UInt8} (hc : Lib.cut p [61] = (nm, vl, true)) (h : nameL nm = 0) (hf : freqL vl = 0) : stepV q sn p = .error 21 := by
  unfold stepV; rw [hc]; simp only; rw [if_neg (by decide), if_neg (by omega), if_pos ⟨h, hf⟩]
theorem step_seen {k : Nat} {q : RuV} {sn : List (List UInt8)} {p nm vl : List UInt8} (hc : Lib.cut p [61] = (nm, vl, true)) (hN : nameL nm = (k : Int)) (hf : ¬ (k = 0 ∧ freqL vl = 0)) (hs : nm ∈ sn) : stepV q sn p = .error 25 := by
  unfold stepV; rw [hc]; simp only; rw [if_neg (by decide), if_neg (by omega), if_neg (fun h => hf ⟨by omega, h.2⟩), if_pos hs]
theorem placeN_at : ∀ (l : List (List UInt8)) (s : List UInt8) (k : Nat) (j : Nat), placeN l s k = (k : Int) + j → l.getD j [] = s ∧ j < l.length
  | [], s, k, j, h => by rw [placeN] at h; omega
  | x :: xs, s, k, j, h => by
    rw [placeN] at h
    split at h
    · rename_i e
      have : j = 0 := by omega
      subst this
      exact ⟨e, by simp⟩
    · rcases placeN_range xs s (k + 1) with h2 | h2
      · omega
      · obtain ⟨j', rfl⟩ : ∃ j', j = j' + 1 := ⟨j - 1, by omega⟩
        have := placeN_at xs s (k + 1) j' (by omega)
        exact ⟨by simpa using this.1, by simp; exact this.2⟩
theorem nameL_get {nm : List UInt8} (h : 0 ≤ nameL nm) : ∃ k, k < 9 ∧ nm = nameB.getD k [] ∧ nameL nm = (k : Int) := by
  obtain ⟨k, hk⟩ : ∃ k : Nat, nameL nm = k := ⟨(nameL nm).toNat, by omega⟩
  have := placeN_at nameB nm 0 k (by unfold nameL at hk; omega)
  exact ⟨k, this.2, this.1.symm, hk⟩
theorem placeN_mem {l : List (List UInt8)} {s : List UInt8} : ∀ {k : Nat}, s ∈ l → 0 ≤ placeN l s k := by
  induction l with
  | nil => intro k h; cases h
  | cons x xs ih =>
    intro k h
    rw [placeN]
    split
    · omega
    · rename_i hne
      rcases List.mem_cons.1 h with e | h
      · exact absurd e.symm hne
      · exact ih h
theorem placeN_not {l : List (List UInt8)} {s : List UInt8} (h : s ∉ l) : placeN l s 0 = -1 := by
  rcases placeN_range l s 0 with h1 | h1
  · exact h1
  · exact absurd (placeN_len l s 0 (by omega)) h
/-- Where the reading of the parts stands. -/
structure PP (w : World) (n g : Nat) (cur : Array Value) (fz : Nat × Nat) (wr : World) (q : RuV) (sn : List (List UInt8)) (u1 u2 u3 u4 v5 : Value) : Prop where
  var : RVar wr (w.heap.size + 1) q u1 u2 u3 u4
  res : RVar wr w.heap.size RuV.zero nilV nilV nilV nilV
  rw : Rw wr n q sn u1 u2 u3 u4 v5
  prt : wr.heap[g]? = some (.cells cur 9 fz)
  bel : Below w.heap.size w wr
  lo1 : w.heap.size + 1 < n
  lo2 : g < n
  lo3 : n ≤ wr.heap.size
section
variable {w wr W' w5 : World} {n g : Nat} {cur : Array Value} {fz : Nat × Nat} {q q' : RuV} {sn : List (List UInt8)} {u1 u2 u3 u4 v5 x1 x2 x3 x4 v' : Value} {tmp : Obj}
theorem PP.step (h : PP w n g cur fz wr q sn u1 u2 u3 u4 v5) (hb : Below wr.heap.size wr W') : PP w n g cur fz W' q sn u1 u2 u3 u4 v5 :=
  ⟨h.var.step hb, h.res.step hb, h.rw.below hb, (hb.block g (by have := h.lo2; have := h.lo3; omega)).trans h.prt, bstep h.bel hb, h.lo1, h.lo2, by have := h.lo3; have := hb.size; omega⟩
theorem PP.seen (h : PP w n g cur fz wr q sn u1 u2 u3 u4 v5) (x : List UInt8) (ho : w5.ownsRow n 9 1 v' (sn.length + 1) (pcC sn ++ [.string ⟨x.toArray⟩])) (hg : (wr.alloc tmp).grownBy w5 v5.ownBlock) : PP w n g cur fz w5 q (sn ++ [x]) u1 u2 u3 u4 v' :=
  have hC := Ch.append (K := n) (Nat.le_refl n) h.lo3 h.rw.o5 hg
  ⟨(hC.rest _ h.lo1 (by have := h.lo1; omega)).trans h.var, (hC.rest _ (by have := h.lo1; omega) (by have := h.lo1; omega)).trans h.res, h.rw.app5 x ho hg, (hC.rest _ h.lo2 (by have := h.lo2; omega)).trans h.prt,
    h.bel.trans (hC.below.mono (by have := h.lo1; omega)), h.lo1, h.lo2, by have := h.lo3; have := hC.below.size; omega⟩
theorem PP.one (h : PP w n g cur fz wr q sn u1 u2 u3 u4 v5) (hb : Below n wr W') (hr : Rw W' n q' sn x1 x2 x3 x4 v5) :
    RVar W' (w.heap.size + 1) q u1 u2 u3 u4 ∧ RVar W' w.heap.size RuV.zero nilV nilV nilV nilV ∧ Rw W' n q' sn x1 x2 x3 x4 v5 ∧ W'.heap[g]? = some (.cells cur 9 fz) ∧ Below w.heap.size w W' ∧ n ≤ W'.heap.size :=
  ⟨(hb.block _ h.lo1).trans h.var, (hb.block _ (by have := h.lo1; omega)).trans h.res, hr, (hb.block _ h.lo2).trans h.prt, h.bel.trans (hb.mono (by have := h.lo1; omega)), by have := h.lo3; have := hb.size; omega⟩
/-- The rule read so far is stored. -/
theorem PP.next (hv : RVar W' (w.heap.size + 1) q u1 u2 u3 u4) (hz : RVar W' w.heap.size RuV.zero nilV nilV nilV nilV) (hr : Rw W' n q' sn x1 x2 x3 x4 v5) (hp : W'.heap[g]? = some (.cells cur 9 fz)) (hb : Below w.heap.size w W') (h1 : w.heap.size + 1 < n) (h2 : g < n) (h3 : n ≤ W'.heap.size) :
    PP w n g cur fz (put12 W' (w.heap.size + 1) (.int .i64 q'.freq) (.int .i64 q'.intv) (.int .i64 q'.cnt) (.bool q'.has) (.int .i64 q'.unt.secs) (.bool q'.unt.utc) (.bool q'.unt.date) x1 x2 x3 x4 (.int .i64 q'.wk)) q' sn x1 x2 x3 x4 v5 := by
  have hg : g ≠ w.heap.size + 1 := fun e => by
    subst e
    unfold RVar at hv
    rw [hv] at hp
    simp only [Option.some.injEq, Obj.cells.injEq] at hp
    exact absurd hp.2.1 (by decide)
  exact ⟨heap_put12 hv, (put12_other (by omega) _ _ _ _ _ _ _ _ _ _ _ _).trans hz, hr.put12 h1 _ _ _ _ _ _ _ _ _ _ _ _, (put12_other hg _ _ _ _ _ _ _ _ _ _ _ _).trans hp, hb.trans (below_put12 (by omega) _ _ _ _ _ _ _ _ _ _ _ _), h1, h2, by rw [put12_size]; exact h3⟩
end
/-- At the end: the result's variable filled. -/
theorem ru_post {w W : World} {s : List UInt8} {r : RuV} {q : RuV} {e : Int} {x1 x2 x3 x4 : Value} (hz : RVar W w.heap.size r nilV nilV nilV nilV) (hb : Below w.heap.size w W) (hS : ∀ W', Below W.heap.size W W' ∨ (∃ u0 u1 u2 u3 u4 u5 u6 u7 u8 u9 u10 u11, W' = put12 W w.heap.size u0 u1 u2 u3 u4 u5 u6 u7 u8 u9 u10 u11) → RuS W' q x1 x2 x3 x4) (hp : parV s = (q, e)) :
    RVar (put12 W w.heap.size (.int .i64 q.freq) (.int .i64 q.intv) (.int .i64 q.cnt) (.bool q.has) (.int .i64 q.unt.secs) (.bool q.unt.utc) (.bool q.unt.date) x1 x2 x3 x4 (.int .i64 q.wk)) w.heap.size q x1 x2 x3 x4 ∧
    RuS (put12 W w.heap.size (.int .i64 q.freq) (.int .i64 q.intv) (.int .i64 q.cnt) (.bool q.has) (.int .i64 q.unt.secs) (.bool q.unt.utc) (.bool q.unt.date) x1 x2 x3 x4 (.int .i64 q.wk)) (parV s).1 x1 x2 x3 x4 ∧ Below w.heap.size w (put12 W w.heap.size (.int .i64 q.freq) (.int .i64 q.intv) (.int .i64 q.cnt) (.bool q.has) (.int .i64 q.unt.secs) (.bool q.unt.utc) (.bool q.unt.date) x1 x2 x3 x4 (.int .i64 q.wk)) := by
  refine ⟨heap_put12 hz, ?_, hb.trans (below_put12 (Nat.le_refl _) _ _ _ _ _ _ _ _ _ _ _ _)⟩
  rw [hp]
  exact hS _ (.inr ⟨_, _, _, _, _, _, _, _, _, _, _, _, rfl⟩)
end Go.Proofs.YtnidkcedomhofaaGreatDoor

/-
  The document's own answers of layer 13: a period.
-/
namespace Go.Proofs.YtnidkcedomhofaaGreatDoor
open Go.RowKit

end Go.Proofs.YtnidkcedomhofaaGreatDoor

/-
  The document's own answers of layer 13: a time, written.
-/
namespace Go.Proofs.YtnidkcedomhofaaGreatDoor
open Go.RowKit

set_option maxRecDepth 100000 in
set_option maxHeartbeats 8000000 in
theorem refTimeText_any (t : Wh) (ht : -9223372036854775808 ≤ t.secs ∧ t.secs < 9223372036854775808) (w : World) :
    Calls Tryz.prog 32 #[whV t] w fun e w' => e = .returned (.string ⟨(timT t).toArray⟩) ∧ Below w.heap.size w w' := by
  have hmx : Tryz.prog.follows .mixedOrders = true := by kernel_rfl
  have ha : Below w.heap.size w (w.alloc (.cells #[.int .i64 t.secs, .bool t.utc, .bool t.date] 23)) := (Below.refl _ w).alloc (Nat.le_refl _) _
  have hz := H3.new w t
  have HT := Lib.hid (timT_ref t)
  unfold timS at HT
  obtain ⟨ts, tu, td⟩ := t
  simp only at ht HT ha hz
  have cp := fun W => refParts_any ts ht W
  have ci := fun W => refIn_any ts W
  have cd := fun W => refDay_any (ts / 86400) (by omega) W
  have cs := fun W => refStamp_any ts ht W
  have hsz : (⟨(stampT ts).toArray⟩ : ByteArray).size ≤ 20 := by
    rw [mk_size]
    by_cases h : inD ts = true
    · rw [stampT_length h]; omega
    · rw [stampT_bad (by simpa using h)]; simp
  have HL := Lib.hid (mk_app (stampT ts) [90])
  unfold whV
  simp only
  generalize hS : (⟨(stampT ts).toArray⟩ : ByteArray) = S at *
  have HSS := Lib.hid hS
  clear hS
  have no1 : ¬ 9223372036854775807 < S.size + 1 := by omega
  have no2 : ¬ 9223372036854775806 < S.size := by omega
  have no3 : ¬ 9223372036854775807 ≤ S.size := by omega
  have no4 : ¬ 9223372036854775807 < S.size + (⟨#[90]⟩ : ByteArray).size := by show ¬ _ < S.size + 1; omega
  generalize hr : ts % 86400 = r at *
  generalize hq : ts / 86400 = q at *
  clear hr hq hsz ht
  cases hin : inD ts
  · rw [hin] at HT ci
    have HF : Hid (timT ⟨ts, tu, td⟩ = []) := Lib.hid (by rw [HT.out, if_pos (.inl rfl)])
    clear HT hin
    go_enter Tryz.func32, Tryz.ntmps32
    go_upto_region 1 with fail
    obtain ⟨w1, hw1⟩ : ∃ w1, w.alloc (.cells #[.int .i64 ts, .bool tu, .bool td] 23) = w1 := ⟨_, rfl⟩
    rw [hw1] at ha hz ⊢
    obtain ⟨x0, x1, x2⟩ := hz.cells
    have HB := Lib.hid ha
    clear hw1 ha hz
    go_wp2_with (first
      | (go_at_call 67; ((with_reducible refine (cp _).mono ?_); rintro e w' ⟨rfl, hw⟩; subst w'))
      | (go_at_call 68; ((with_reducible refine (ci _).mono ?_); rintro e w' ⟨rfl, hw⟩; subst w')))
    go_ret
    exact ⟨by rw [HF.out]; rfl, HB.out⟩
  · rw [hin] at HT ci
    cases td
    · cases tu
      · have HF : Hid (timT ⟨ts, false, false⟩ = stampT ts) := Lib.hid (by rw [HT.out, if_neg (by rintro (h | ⟨h, _⟩) <;> cases h)]; simp)
        clear HT hin
        go_enter Tryz.func32, Tryz.ntmps32
        go_upto_region 1 with fail
        obtain ⟨w1, hw1⟩ : ∃ w1, w.alloc (.cells #[.int .i64 ts, .bool false, .bool false] 23) = w1 := ⟨_, rfl⟩
        rw [hw1] at ha hz ⊢
        obtain ⟨x0, x1, x2⟩ := hz.cells
        have HB := Lib.hid ha
        clear hw1 ha hz
        go_wp2_with (first
          | (go_at_call 67; ((with_reducible refine (cp _).mono ?_); rintro e w' ⟨rfl, hw⟩; subst w'))
          | (go_at_call 68; ((with_reducible refine (ci _).mono ?_); rintro e w' ⟨rfl, hw⟩; subst w'))
          | (go_at_call 70; ((with_reducible refine (cs _).mono ?_); rintro e w2 ⟨rfl, hb2⟩; have HB2 := Lib.hid (bstep HB.out hb2))))
        go_ret
        exact ⟨by rw [HF.out, HSS.out]; rfl, HB2.out⟩
      · have HF : Hid (timT ⟨ts, true, false⟩ = stampT ts ++ [90]) := Lib.hid (by rw [HT.out, if_neg (by rintro (h | ⟨h, _⟩) <;> cases h)]; simp)
        clear HT hin
        go_enter Tryz.func32, Tryz.ntmps32
        go_upto_region 1 with fail
        obtain ⟨w1, hw1⟩ : ∃ w1, w.alloc (.cells #[.int .i64 ts, .bool true, .bool false] 23) = w1 := ⟨_, rfl⟩
        rw [hw1] at ha hz ⊢
        obtain ⟨x0, x1, x2⟩ := hz.cells
        have HB := Lib.hid ha
        clear hw1 ha hz
        go_wp2_with (first
          | (go_at_call 67; ((with_reducible refine (cp _).mono ?_); rintro e w' ⟨rfl, hw⟩; subst w'))
          | (go_at_call 68; ((with_reducible refine (ci _).mono ?_); rintro e w' ⟨rfl, hw⟩; subst w'))
          | (go_at_call 70; ((with_reducible refine (cs _).mono ?_); rintro e w2 ⟨rfl, hb2⟩; have HB2 := Lib.hid (bstep HB.out hb2))))
        go_ret
        exact ⟨by rw [HF.out, ← HL.out]; rfl, HB2.out⟩
    · cases tu
      · by_cases h0 : r = 0
        · subst h0
          have HF : Hid (timT ⟨ts, false, true⟩ = dayT q) := Lib.hid (by rw [HT.out, if_neg (by rintro (h | ⟨_, h | h⟩) <;> first | cases h | exact h rfl)]; simp)
          clear HT hin
          go_enter Tryz.func32, Tryz.ntmps32
          go_upto_region 1 with fail
          obtain ⟨w1, hw1⟩ : ∃ w1, w.alloc (.cells #[.int .i64 ts, .bool false, .bool true] 23) = w1 := ⟨_, rfl⟩
          rw [hw1] at ha hz ⊢
          obtain ⟨x0, x1, x2⟩ := hz.cells
          have HB := Lib.hid ha
          clear hw1 ha hz
          go_wp2_with (first
            | (go_at_call 67; ((with_reducible refine (cp _).mono ?_); rintro e w' ⟨rfl, hw⟩; subst w'))
            | (go_at_call 68; ((with_reducible refine (ci _).mono ?_); rintro e w' ⟨rfl, hw⟩; subst w'))
            | (go_at_call 69; ((with_reducible refine (cd _).mono ?_); rintro e w2 ⟨rfl, hb2⟩; have HB2 := Lib.hid (bstep HB.out hb2))))
          go_ret
          exact ⟨by rw [HF.out]; rfl, HB2.out⟩
        · have HF : Hid (timT ⟨ts, false, true⟩ = []) := Lib.hid (by rw [HT.out, if_pos (.inr ⟨rfl, .inr h0⟩)])
          have g1 : ((r : Int) == 0) = false := by rw [beq_eq_false_iff_ne]; exact h0
          have g2 : ((r : Int) != 0) = true := by simpa using h0
          clear HT hin
          go_enter Tryz.func32, Tryz.ntmps32
          go_upto_region 1 with fail
          obtain ⟨w1, hw1⟩ : ∃ w1, w.alloc (.cells #[.int .i64 ts, .bool false, .bool true] 23) = w1 := ⟨_, rfl⟩
          rw [hw1] at ha hz ⊢
          obtain ⟨x0, x1, x2⟩ := hz.cells
          have HB := Lib.hid ha
          clear hw1 ha hz
          go_wp2_with (first
            | (go_at_call 67; ((with_reducible refine (cp _).mono ?_); rintro e w' ⟨rfl, hw⟩; subst w'))
            | (go_at_call 68; ((with_reducible refine (ci _).mono ?_); rintro e w' ⟨rfl, hw⟩; subst w')))
          go_ret
          exact ⟨by rw [HF.out]; rfl, HB.out⟩
      · have HF : Hid (timT ⟨ts, true, true⟩ = []) := Lib.hid (by rw [HT.out, if_pos (.inr ⟨rfl, .inl rfl⟩)])
        clear HT hin
        go_enter Tryz.func32, Tryz.ntmps32
        go_upto_region 1 with fail
        obtain ⟨w1, hw1⟩ : ∃ w1, w.alloc (.cells #[.int .i64 ts, .bool true, .bool true] 23) = w1 := ⟨_, rfl⟩
        rw [hw1] at ha hz ⊢
        obtain ⟨x0, x1, x2⟩ := hz.cells
        have HB := Lib.hid ha
        clear hw1 ha hz
        go_wp2_with (first
          | (go_at_call 67; ((with_reducible refine (cp _).mono ?_); rintro e w' ⟨rfl, hw⟩; subst w'))
          | (go_at_call 68; ((with_reducible refine (ci _).mono ?_); rintro e w' ⟨rfl, hw⟩; subst w')))
        go_ret
        exact ⟨by rw [HF.out]; rfl, HB.out⟩
end Go.Proofs.YtnidkcedomhofaaGreatDoor
