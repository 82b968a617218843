/-
  The program's Props, Comps and Prop: copies of what stands there by name.
-/
import Derived.Test.YtlfhhnjdfpgadaaGreatDoorG11
import Derived.Test.YtlfhhnjdfpgadaaGreatDoorG09
namespace Go.Proofs.YtlfhhnjdfpgadaaGreatDoor
open Go.RowKit

/-- While elements are gathered: a row of the call's own, each element in blocks of its own. -/
structure G3 {α : Type} (f : α → Value × Value × Value) (ok : α → World → Prop) (t : TypeId) (w wr : World) (R : Option Addr) (N C : Nat) (l : List α) : Prop where
  row : wr.ownsRow (w.heap.size + 1) t 3 (.slice R N C) N (enc3 f l)
  ok : ∀ x ∈ l, Held (fun b => w.heap.size ≤ b ∧ (Value.slice R N C).ownBlock ≠ some b) wr (ok x)
section
variable {α : Type} {f : α → Value × Value × Value} {ok : α → World → Prop} {t : TypeId} {w wr w5 w7 : World} {R R' : Option Addr} {N C C' : Nat} {l : List α}
theorem G3.step (h : G3 f ok t w wr R N C l) (hb : Below wr.heap.size wr w5) : G3 f ok t w w5 R N C l := ⟨own_below h.row hb, fun x hx => (h.ok x hx).step hb⟩
theorem G3.app {y : α} (h : G3 f ok t w wr R N C l) (hwr : w.heap.size ≤ wr.heap.size) (hb : Below wr.heap.size wr w5) (hg : w5.grownBy w7 (Value.slice R N C).ownBlock) (hr : w7.ownsRow (w.heap.size + 1) t 3 (.slice R' (N + 1) C') (N + 1) (enc3 f l ++ [(f y).1, (f y).2.1, (f y).2.2]))
    (hor : (Value.slice R' (N + 1) C').ownBlock = (Value.slice R N C).ownBlock ∨ (Value.slice R' (N + 1) C').ownBlock = some w5.heap.size) (hy : Held (fun b => wr.heap.size ≤ b) w5 (ok y)) : G3 f ok t w w7 R' (N + 1) C' (l ++ [y]) := by
  have h5 := h.step hb
  have hrow := h.row.lt
  refine ⟨by rw [enc3_snoc]; exact hr, fun x hx => ?_⟩
  have key : ∀ x, Held (fun b => w.heap.size ≤ b ∧ (Value.slice R N C).ownBlock ≠ some b) w5 (ok x) → Held (fun b => w.heap.size ≤ b ∧ (Value.slice R' (N + 1) C').ownBlock ≠ some b) w7 (ok x) := fun x hx => by
    refine (hx.weak (S' := fun b => w.heap.size ≤ b ∧ b < w5.heap.size ∧ (Value.slice R N C).ownBlock ≠ some b) (fun b hb2 hb3 => ⟨hb2.1, hb3, hb2.2⟩)).next hg.size (fun b hb2 hb3 => hg.block b hb3 (fun e => hb2.2.2 e.symm)) |>.weak (fun b hb2 _ => ⟨hb2.1, ?_⟩)
    rcases hor with e | e
    · rw [e]; exact hb2.2.2
    · rw [e]; intro e2; injection e2 with e2; have := hb2.2.1; omega
  rcases List.mem_append.1 hx with h1 | h1
  · exact key x (h5.ok x h1)
  · rw [List.mem_singleton.1 h1]
    refine key y (hy.weak (fun b hb2 _ => ⟨by have : wr.heap.size ≤ b := hb2; omega, fun e => ?_⟩))
    have := (hrow b e).2
    have : wr.heap.size ≤ b := hb2
    omega
end
theorem sum_filter_le {α : Type} (wt : α → Nat) (p : α → Bool) : ∀ l : List α, ((l.filter p).map wt).sum ≤ (l.map wt).sum
  | [] => by simp
  | x :: l => by
    have ih := sum_filter_le wt p l
    by_cases h : p x = true <;> simp [h] <;> omega
theorem take_filter {α : Type} (p : α → Bool) (l : List α) (i : Nat) (x : α) (h : l[i]? = some x) : (l.take (i + 1)).filter p = (l.take i).filter p ++ (if p x = true then [x] else []) := by
  have hil : i < l.length := (List.getElem?_eq_some_iff.1 h).1
  have e : l[i] = x := Option.some.inj ((List.getElem?_eq_getElem hil).symm.trans h)
  rw [List.take_succ_eq_append_getElem hil, List.filter_append, e]
  by_cases hp : p x = true <;> simp [hp]
/-- The world while the program gathers. -/
structure PG {α β : Type} (f : α → Value × Value × Value) (ok : α → World → Prop) (g : α → β) (wt : α → Nat) (t : TypeId) (w wr : World) (nm : ByteArray) (A : Option Addr) (n c : Nat) (K : Option Addr) (k kc : Nat) (src : List α) (R : Option Addr) (N C : Nat) (l : List α) : Prop where
  bx : C3 wr w.heap.size nm A n c K k kc
  gs : G3 f ok t w wr R N C l
  sm : l.map g = src.map g
  sz : (l.map wt).sum = (src.map wt).sum
  bel : Below w.heap.size w wr
theorem PG.step {α β : Type} {f : α → Value × Value × Value} {ok : α → World → Prop} {g : α → β} {wt : α → Nat} {t : TypeId} {w wr w5 : World} {nm : ByteArray} {A : Option Addr} {n c : Nat} {K : Option Addr} {k kc : Nat} {src l : List α} {R : Option Addr} {N C : Nat} (h : PG f ok g wt t w wr nm A n c K k kc src R N C l) (hb : Below wr.heap.size wr w5) : PG f ok g wt t w w5 nm A n c K k kc src R N C l :=
  ⟨h.bx.step hb, h.gs.step hb, h.sm, h.sz, bstep h.bel hb⟩

/-- What a call of Comps answers. -/
def CCmAns (cs : List CR) (name : ByteArray) (w : World) (e : Ending) (w' : World) : Prop :=
  ∃ (R : Option Addr) (N C : Nat) (l : List CR), e = .returned (.slice R N C) ∧ Reads w' w'.heap.size 3 R N (enc3 fC l) ∧ (∀ x ∈ l, COk w' w'.heap.size x) ∧ N ≤ C ∧ C ≤ maxLen ∧ l.map compOf = (cs.filter (namedC name)).map compOf ∧ csizes l ≤ csizes cs ∧ Below w.heap.size w w'
/-- What a call of Props answers. -/
def CPrAns (qs : List QR) (name : ByteArray) (w : World) (e : Ending) (w' : World) : Prop :=
  ∃ (R : Option Addr) (N C : Nat) (l : List QR), e = .returned (.slice R N C) ∧ Reads w' w'.heap.size 3 R N (enc3 fQ l) ∧ (∀ q ∈ l, QOk w' w'.heap.size q) ∧ N ≤ C ∧ C ≤ maxLen ∧ l.map proQ = (qs.filter (named name)).map proQ ∧ qsizes l ≤ qsizes qs ∧ Below w.heap.size w w'
/-- What a call of Prop answers. -/
def CPpAns (qs : List QR) (name : ByteArray) (w : World) (e : Ending) (w' : World) : Prop :=
  Below w.heap.size w w' ∧ ((qs.filter (named name) = [] ∧ e = .returned (.tuple #[.agg #[.string ⟨#[]⟩, .slice none 0 0, .string ⟨#[]⟩], .bool false])) ∨
    ∃ q l q', qs.filter (named name) = q :: l ∧ proQ q' = proQ q ∧ qsize q' ≤ qsizes qs ∧ QOk w' w'.heap.size q' ∧ e = .returned (.tuple #[.agg #[.string q'.name, .slice q'.L q'.n q'.c, .string q'.vl], .bool true]))
set_option maxRecDepth 100000 in
set_option maxHeartbeats 4000000 in
theorem cProps_x (nm name : ByteArray) (A : Option Addr) (n c : Nat) (qs : List QR) (K : Option Addr) (k kc : Nat) (cs : List CR) (w : World) (hM : csize (.mk nm A n c qs K k kc cs) ≤ 1048576) (hC : COk w w.heap.size (.mk nm A n c qs K k kc cs)) :
    Calls Tryz.prog 16 #[.agg #[.string nm, .slice A n c, .slice K k kc], .string name] w (CPrAns qs name w) := by
  have HB : Hid (Below w.heap.size w (w.alloc (.cells #[.string nm, .slice A n c, .slice K k kc] 25))) := Lib.hid ((Below.refl _ w).alloc (Nat.le_refl _) _)
  have HC := Lib.hid hC
  have HBX := Lib.hid (C3.new w nm A n c K k kc)
  have HLN := Lib.hid hC.rq.len3
  have HM := Lib.hid (show qsizes qs ≤ 1048576 ∧ csizes cs ≤ 1048576 by rw [csize] at hM; omega)
  have hn : n ≤ 1048576 := by
    have h1 := qs_len qs
    have h2 := HLN.out
    have h3 := HM.out
    omega
  obtain ⟨i0, hi0, hz0, hz1, hz2⟩ := info_parts infoQ
  clear hC hM
  go_enter Tryz.func16, Tryz.ntmps16
  generalize hW : w.alloc (.cells #[.string nm, .slice A n c, .slice K k kc] 25) = w1 at HB HBX
  obtain ⟨p0, p1, p2⟩ := HBX.out.cells
  have HJ : Hid (PG fQ (fun q W => QOk W W.heap.size q) proQ qsize 30 w w1 nm A n c K k kc ((qs.take 0).filter (named name)) none 0 0 []) := Lib.hid ⟨HBX.out, ⟨own_nil, fun x hx => (by cases hx)⟩, rfl, rfl, HB.out⟩
  clear HBX HB
  go_wp2
  clear p0 p1 p2 hW
  go_loopw [5, 11] (fun s5 s11 wr => ∃ (i N : Nat) (R : Option Addr) (C : Nat) (l : List QR), s5 = .slice R N C ∧ s11 = .int .i64 i ∧ i ≤ n ∧ N ≤ i ∧ Hid (PG fQ (fun q W => QOk W W.heap.size q) proQ qsize 30 w wr nm A n c K k kc ((qs.take i).filter (named name)) R N C l)) (fun _ s11 _ => n - (intOf s11).toNat)
  case atStart => exact ⟨0, 0, none, 0, [], rfl, rfl, Nat.zero_le _, Nat.le_refl _, HJ⟩
  case round =>
    clear HJ
    obtain ⟨i, N, R, C, l, rfl, rfl, hi, hNi, HJ⟩ := hrel
    by_cases hlt : i < n
    · obtain ⟨q, hq⟩ : ∃ q, qs[i]? = some q := ⟨qs[i]'(by have := HLN.out; omega), List.getElem?_eq_getElem (by have := HLN.out; omega)⟩
      obtain ⟨b, o, hAe, _, q0, q1, q2⟩ := ((HC.out.step HJ.out.bel).rq).tri hq
      have HTK := Lib.hid (take_filter (named name) qs i q hq)
      have HX := Lib.hid (And.intro ((HC.out.step HJ.out.bel).vq q (List.mem_of_getElem? hq)) (qsize_mem12 (List.mem_of_getElem? hq)))
      simp only [fQ] at q0 q1 q2
      have ha : Below wr.heap.size wr (wr.alloc (.cells #[.string q.name, .slice q.L q.n q.c, .string q.vl] 30)) := (Below.refl _ wr).alloc (Nat.le_refl _) _
      have HJ2 := Lib.hid (HJ.out.step ha)
      have CL := Lib.hid (cloneProp_any q _ (HX.out.1.step ha) (Nat.le_trans HX.out.2 HM.out.1))
      have g1 := strEqL q.name name
      have hnm : named name q = decide (q.name.data.toList = name.data.toList) := rfl
      rw [← hnm] at g1
      generalize named name q = bn at HTK g1
      clear hq hnm ha
      subst hAe
      cases bn
      · go_wp2
        go_round
        case rel => exact ⟨i + 1, N, R, C, l, rfl, by go_num, by omega, by omega, Lib.hid (by rw [HTK.out]; simpa using HJ2.out)⟩
        case measure => simp [intOf]; omega
      · clear HJ
        go_wp2_with fail
        refine CL.out.mono ?_
        rintro e w5 ⟨q5, rfl, hq5, hz5, hh5, hb5⟩
        have HG := Lib.hid (And.intro hq5 (And.intro hz5 hh5))
        have HJ5 := Lib.hid (HJ2.out.step hb5)
        have HS := Lib.hid HJ2.out.bel.size
        generalize hwa : wr.alloc (.cells #[.string q.name, .slice q.L q.n q.c, .string q.vl] 30) = wa at HJ2 hb5 HG HS
        clear CL hq5 hz5 hh5
        have HR := Lib.hid HJ5.out.gs.row
        have HB5 := Lib.hid hb5
        clear hb5 q0 q1 q2
        go_wp2_with (at_builtin; refine wpList_append_reads _ rfl _ _ 22 rfl (w.heap.size + 1) 30 i0 (.agg #[.string ⟨#[]⟩, .slice none 0 0, .string ⟨#[]⟩]) 3 56 Tryz.underlying22 hi0 hz0 hz1 hz2 rfl (by decide) _ _ _ rfl (own_alloc HR.out _) _ (some ⟨w5.heap.size, 0, none⟩) 1 1 [.string q5.name, .slice q5.L q5.n q5.c, .string q5.vl] rfl (reads_new w5 #[.string q5.name, .slice q5.L q5.n q5.c, .string q5.vl] 30 1 3 rfl) (by simp [Value.oneCell']) (by unfold maxLen; omega) (by omega) (by have := HJ5.out.bx.lt; simp; omega) ?_; intro A7 c7 w7 hown7 hgrow7 hor7)
        have HK7 : Hid (PG fQ (fun q W => QOk W W.heap.size q) proQ qsize 30 w w7 nm (some ⟨b, o, none⟩) n c K k kc ((qs.take (i + 1)).filter (named name)) A7 (N + 1) c7 (l ++ [q5])) := Lib.hid (by
          have hal : Below w5.heap.size w5 (w5.alloc (.cells #[.string q5.name, .slice q5.L q5.n q5.c, .string q5.vl] 30)) := (Below.refl _ w5).alloc (Nat.le_refl _) _
          have h6 := HJ5.out.step hal
          have hgs := G3.app (y := q5) HJ2.out.gs HS.out (bstep HB5.out hal) hgrow7 hown7 hor7 (HG.out.2.2.step hal)
          have nb : (Value.slice R N C).ownBlock ≠ some w.heap.size := fun e => by have := own_row_ge h6.gs.row _ e; omega
          refine ⟨(hgrow7.block _ h6.bx.lt (Ne.symm nb)).trans h6.bx, hgs, ?_, ?_, h6.bel.trans ((Below.refl w.heap.size _).grown hgrow7 h6.bel.size (fun j ej => by have := own_row_ge h6.gs.row j ej; omega))⟩
          · rw [show (qs.take (i + 1)).filter (named name) = (qs.take i).filter (named name) ++ [q] by rw [HTK.out]; simp, List.map_append, List.map_append, HJ2.out.sm, List.map_singleton, List.map_singleton, HG.out.1]
          · rw [show (qs.take (i + 1)).filter (named name) = (qs.take i).filter (named name) ++ [q] by rw [HTK.out]; simp, List.map_append, List.map_append, List.sum_append, List.sum_append, HJ2.out.sz, List.map_singleton, List.map_singleton, HG.out.2.1])
        clear hown7 hgrow7 hor7 HG HJ5 HJ2 HR HB5 HS hwa
        go_round
        case rel => exact ⟨i + 1, N + 1, A7, c7, _, rfl, by go_num, by omega, by omega, HK7⟩
        case measure => simp [intOf]; omega
    · obtain rfl : i = n := by omega
      have ht : qs.take i = qs := List.take_of_length_le (by rw [HLN.out]; exact Nat.le_refl _)
      rw [ht] at HJ
      obtain ⟨A9, c9, e9, h91, h92⟩ := own_slice HJ.out.gs.row
      injection e9 with e91 e92 e93
      subst e91 e93
      go_wp2
      go_ret
      refine ⟨_, _, _, l, rfl, Reads.of_own HJ.out.gs.row, fun q hq => (HJ.out.gs.ok q hq).here, h91, h92, HJ.out.sm, ?_, HJ.out.bel⟩
      unfold qsizes
      rw [HJ.out.sz]
      exact sum_filter_le qsize _ _
set_option maxRecDepth 100000 in
set_option maxHeartbeats 4000000 in
theorem cComps_x (nm name : ByteArray) (A : Option Addr) (n c : Nat) (qs : List QR) (K : Option Addr) (k kc : Nat) (cs : List CR) (w : World) (hM : csize (.mk nm A n c qs K k kc cs) ≤ 1048576) (hC : COk w w.heap.size (.mk nm A n c qs K k kc cs)) :
    Calls Tryz.prog 8 #[.agg #[.string nm, .slice A n c, .slice K k kc], .string name] w (CCmAns cs name w) := by
  have HB : Hid (Below w.heap.size w (w.alloc (.cells #[.string nm, .slice A n c, .slice K k kc] 25))) := Lib.hid ((Below.refl _ w).alloc (Nat.le_refl _) _)
  have HC := Lib.hid hC
  have HBX := Lib.hid (C3.new w nm A n c K k kc)
  have HLN := Lib.hid hC.rc.len3
  have HM := Lib.hid (show qsizes qs ≤ 1048576 ∧ csizes cs ≤ 1048576 by rw [csize] at hM; omega)
  have hn : k ≤ 1048576 := by
    have h1 := cs_len cs
    have h2 := HLN.out
    have h3 := HM.out
    omega
  obtain ⟨i0, hi0, hz0, hz1, hz2⟩ := info_parts infoC
  clear hC hM
  go_enter Tryz.func8, Tryz.ntmps8
  generalize hW : w.alloc (.cells #[.string nm, .slice A n c, .slice K k kc] 25) = w1 at HB HBX
  obtain ⟨p0, p1, p2⟩ := HBX.out.cells
  have HJ : Hid (PG fC (fun x W => COk W W.heap.size x) compOf csize 25 w w1 nm A n c K k kc ((cs.take 0).filter (namedC name)) none 0 0 []) := Lib.hid ⟨HBX.out, ⟨own_nil, fun x hx => (by cases hx)⟩, rfl, rfl, HB.out⟩
  clear HBX HB
  go_wp2
  clear p0 p1 p2 hW
  go_loopw [5, 11] (fun s5 s11 wr => ∃ (i N : Nat) (R : Option Addr) (C : Nat) (l : List CR), s5 = .slice R N C ∧ s11 = .int .i64 i ∧ i ≤ k ∧ N ≤ i ∧ Hid (PG fC (fun x W => COk W W.heap.size x) compOf csize 25 w wr nm A n c K k kc ((cs.take i).filter (namedC name)) R N C l)) (fun _ s11 _ => k - (intOf s11).toNat)
  case atStart => exact ⟨0, 0, none, 0, [], rfl, rfl, Nat.zero_le _, Nat.le_refl _, HJ⟩
  case round =>
    clear HJ
    obtain ⟨i, N, R, C, l, rfl, rfl, hi, hNi, HJ⟩ := hrel
    by_cases hlt : i < k
    · obtain ⟨q, hq⟩ : ∃ q, cs[i]? = some q := ⟨cs[i]'(by have := HLN.out; omega), List.getElem?_eq_getElem (by have := HLN.out; omega)⟩
      obtain ⟨b, o, hAe, _, q0, q1, q2⟩ := ((HC.out.step HJ.out.bel).rc).tri hq
      have HTK := Lib.hid (take_filter (namedC name) cs i q hq)
      have HX := Lib.hid (And.intro ((HC.out.step HJ.out.bel).vc q (List.mem_of_getElem? hq)) (csize_mem (List.mem_of_getElem? hq)))
      obtain ⟨xn, xA, xa, xac, xqs, xK, xk, xkc, xcs⟩ := q
      simp only [fC] at q0 q1 q2
      have ha : Below wr.heap.size wr (wr.alloc (.cells #[.string xn, .slice xA xa xac, .slice xK xk xkc] 25)) := (Below.refl _ wr).alloc (Nat.le_refl _) _
      have HJ2 := Lib.hid (HJ.out.step ha)
      have CL := Lib.hid (clone12 1048576 (.mk xn xA xa xac xqs xK xk xkc xcs) _ (Nat.le_trans HX.out.2 HM.out.2) (Nat.le_refl _) (HX.out.1.step ha))
      have g1 := strEqL xn name
      have hnm : namedC name (.mk xn xA xa xac xqs xK xk xkc xcs) = decide (xn.data.toList = name.data.toList) := rfl
      rw [← hnm] at g1
      generalize namedC name (.mk xn xA xa xac xqs xK xk xkc xcs) = bn at HTK g1
      clear hq hnm ha
      subst hAe
      cases bn
      · go_wp2
        go_round
        case rel => exact ⟨i + 1, N, R, C, l, rfl, by go_num, by omega, by omega, Lib.hid (by rw [HTK.out]; simpa using HJ2.out)⟩
        case measure => simp [intOf]; omega
      · clear HJ
        go_wp2_with fail
        refine CL.out.mono ?_
        rintro e w5 ⟨⟨yn, yA, ya, yac, yqs, yK, yk, ykc, ycs⟩, rfl, hq5, hz5, hh5, hb5⟩
        simp only [fC]
        have HG := Lib.hid (And.intro hq5 (And.intro hz5 hh5))
        have HJ5 := Lib.hid (HJ2.out.step hb5)
        have HS := Lib.hid HJ2.out.bel.size
        generalize hwa : wr.alloc (.cells #[.string xn, .slice xA xa xac, .slice xK xk xkc] 25) = wa at HJ2 hb5 HG HS
        clear CL hq5 hz5 hh5
        have HR := Lib.hid HJ5.out.gs.row
        have HB5 := Lib.hid hb5
        clear hb5 q0 q1 q2
        go_wp2_with (at_builtin; refine wpList_append_reads _ rfl _ _ 23 rfl (w.heap.size + 1) 25 i0 (.agg #[.string ⟨#[]⟩, .slice none 0 0, .slice none 0 0]) 3 64 Tryz.underlying23 hi0 hz0 hz1 hz2 rfl (by decide) _ _ _ rfl (own_alloc HR.out _) _ (some ⟨w5.heap.size, 0, none⟩) 1 1 [.string yn, .slice yA ya yac, .slice yK yk ykc] rfl (reads_new w5 #[.string yn, .slice yA ya yac, .slice yK yk ykc] 25 1 3 rfl) (by simp [Value.oneCell']) (by unfold maxLen; omega) (by omega) (by have := HJ5.out.bx.lt; simp; omega) ?_; intro A7 c7 w7 hown7 hgrow7 hor7)
        have HK7 : Hid (PG fC (fun x W => COk W W.heap.size x) compOf csize 25 w w7 nm A n c (some ⟨b, o, none⟩) k kc ((cs.take (i + 1)).filter (namedC name)) A7 (N + 1) c7 (l ++ [.mk yn yA ya yac yqs yK yk ykc ycs])) := Lib.hid (by
          have hal : Below w5.heap.size w5 (w5.alloc (.cells #[.string yn, .slice yA ya yac, .slice yK yk ykc] 25)) := (Below.refl _ w5).alloc (Nat.le_refl _) _
          have h6 := HJ5.out.step hal
          have hgs := G3.app (y := .mk yn yA ya yac yqs yK yk ykc ycs) HJ2.out.gs HS.out (bstep HB5.out hal) hgrow7 hown7 hor7 (HG.out.2.2.step hal)
          have nb : (Value.slice R N C).ownBlock ≠ some w.heap.size := fun e => by have := own_row_ge h6.gs.row _ e; omega
          refine ⟨(hgrow7.block _ h6.bx.lt (Ne.symm nb)).trans h6.bx, hgs, ?_, ?_, h6.bel.trans ((Below.refl w.heap.size _).grown hgrow7 h6.bel.size (fun j ej => by have := own_row_ge h6.gs.row j ej; omega))⟩
          · rw [show (cs.take (i + 1)).filter (namedC name) = (cs.take i).filter (namedC name) ++ [.mk xn xA xa xac xqs xK xk xkc xcs] by rw [HTK.out]; simp, List.map_append, List.map_append, HJ2.out.sm, List.map_singleton, List.map_singleton, HG.out.1]
          · rw [show (cs.take (i + 1)).filter (namedC name) = (cs.take i).filter (namedC name) ++ [.mk xn xA xa xac xqs xK xk xkc xcs] by rw [HTK.out]; simp, List.map_append, List.map_append, List.sum_append, List.sum_append, HJ2.out.sz, List.map_singleton, List.map_singleton, HG.out.2.1])
        clear hown7 hgrow7 hor7 HG HJ5 HJ2 HR HB5 HS hwa
        go_round
        case rel => exact ⟨i + 1, N + 1, A7, c7, _, rfl, by go_num, by omega, by omega, HK7⟩
        case measure => simp [intOf]; omega
    · obtain rfl : i = k := by omega
      have ht : cs.take i = cs := List.take_of_length_le (by rw [HLN.out]; exact Nat.le_refl _)
      rw [ht] at HJ
      obtain ⟨A9, c9, e9, h91, h92⟩ := own_slice HJ.out.gs.row
      injection e9 with e91 e92 e93
      subst e91 e93
      go_wp2
      go_ret
      refine ⟨_, _, _, l, rfl, Reads.of_own HJ.out.gs.row, fun q hq => (HJ.out.gs.ok q hq).here, h91, h92, HJ.out.sm, ?_, HJ.out.bel⟩
      rw [csizes_sum, csizes_sum]
      rw [HJ.out.sz]
      exact sum_filter_le csize _ _
/-- The world while the first one is looked for. -/
structure PF (w wr : World) (nm : ByteArray) (A : Option Addr) (n c : Nat) (K : Option Addr) (k kc : Nat) : Prop where
  bx : C3 wr w.heap.size nm A n c K k kc
  rs : P3 wr (w.heap.size + 1) ⟨#[]⟩ ⟨#[]⟩ none 0 0
  bel : Below w.heap.size w wr
theorem PF.step {w wr w5 : World} {nm : ByteArray} {A : Option Addr} {n c : Nat} {K : Option Addr} {k kc : Nat} (h : PF w wr nm A n c K k kc) (hb : Below wr.heap.size wr w5) : PF w w5 nm A n c K k kc := ⟨h.bx.step hb, h.rs.step hb, bstep h.bel hb⟩
set_option maxRecDepth 100000 in
set_option maxHeartbeats 4000000 in
theorem cProp_x (nm name : ByteArray) (A : Option Addr) (n c : Nat) (qs : List QR) (K : Option Addr) (k kc : Nat) (cs : List CR) (w : World) (hM : csize (.mk nm A n c qs K k kc cs) ≤ 1048576) (hC : COk w w.heap.size (.mk nm A n c qs K k kc cs)) :
    Calls Tryz.prog 6 #[.agg #[.string nm, .slice A n c, .slice K k kc], .string name] w (CPpAns qs name w) := by
  have hb1 : Below w.heap.size w (w.alloc (.cells #[.string nm, .slice A n c, .slice K k kc] 25)) := (Below.refl _ w).alloc (Nat.le_refl _) _
  have hb2 := (Below.refl _ (w.alloc (.cells #[.string nm, .slice A n c, .slice K k kc] 25))).alloc (Nat.le_refl _) (.cells #[.string ⟨#[]⟩, .slice none 0 0, .string ⟨#[]⟩] 30)
  have P2 := P3.new (w.alloc (.cells #[.string nm, .slice A n c, .slice K k kc] 25)) ⟨#[]⟩ ⟨#[]⟩ none 0 0
  have hs0 : (w.alloc (.cells #[.string nm, .slice A n c, .slice K k kc] 25)).heap.size = w.heap.size + 1 := by simp
  rw [hs0] at P2
  have HJ : Hid (PF w ((w.alloc (.cells #[.string nm, .slice A n c, .slice K k kc] 25)).alloc (.cells #[.string ⟨#[]⟩, .slice none 0 0, .string ⟨#[]⟩] 30)) nm A n c K k kc) := Lib.hid ⟨(C3.new w nm A n c K k kc).step hb2, P2, bstep hb1 hb2⟩
  have HC := Lib.hid hC
  have HLN := Lib.hid hC.rq.len3
  have HM := Lib.hid (show qsizes qs ≤ 1048576 by rw [csize] at hM; omega)
  have hn : n ≤ 1048576 := by
    have h1 := qs_len qs
    have h2 := HLN.out
    have h3 := HM.out
    omega
  clear hC hM P2 hs0 hb1 hb2
  go_enter Tryz.func6, Tryz.ntmps6
  generalize hW : (w.alloc (.cells #[.string nm, .slice A n c, .slice K k kc] 25)).alloc (.cells #[.string ⟨#[]⟩, .slice none 0 0, .string ⟨#[]⟩] 30) = w1 at HJ
  obtain ⟨p0, p1, p2⟩ := HJ.out.bx.cells
  go_wp2
  clear p0 p1 p2 hW
  go_loopw [11] (fun s11 wr => ∃ i : Nat, s11 = .int .i64 i ∧ i ≤ n ∧ Hid (PF w wr nm A n c K k kc ∧ (qs.take i).filter (named name) = [])) (fun s11 _ => n - (intOf s11).toNat)
  case atStart => exact ⟨0, rfl, Nat.zero_le _, Lib.hid ⟨HJ.out, rfl⟩⟩
  case round =>
    clear HJ
    obtain ⟨i, rfl, hi, HJ⟩ := hrel
    by_cases hlt : i < n
    · obtain ⟨q, hq⟩ : ∃ q, qs[i]? = some q := ⟨qs[i]'(by have := HLN.out; omega), List.getElem?_eq_getElem (by have := HLN.out; omega)⟩
      obtain ⟨b, o, hAe, _, q0, q1, q2⟩ := ((HC.out.step HJ.out.1.bel).rq).tri hq
      have HTK := Lib.hid (take_filter (named name) qs i q hq)
      have HQ := Lib.hid hq
      have HX := Lib.hid (And.intro ((HC.out.step HJ.out.1.bel).vq q (List.mem_of_getElem? hq)) (qsize_mem12 (List.mem_of_getElem? hq)))
      simp only [fQ] at q0 q1 q2
      have ha : Below wr.heap.size wr (wr.alloc (.cells #[.string q.name, .slice q.L q.n q.c, .string q.vl] 30)) := (Below.refl _ wr).alloc (Nat.le_refl _) _
      have HJ2 := Lib.hid (HJ.out.1.step ha)
      have CL := Lib.hid (cloneProp_any q _ (HX.out.1.step ha) (Nat.le_trans HX.out.2 HM.out))
      have g1 := strEqL q.name name
      have hnm : named name q = decide (q.name.data.toList = name.data.toList) := rfl
      rw [← hnm] at g1
      have HB := Lib.hid (show ∃ b, named name q = b from ⟨_, rfl⟩)
      obtain ⟨bn, hbn⟩ := HB.out
      rw [hbn] at g1 HTK
      have HBN := Lib.hid hbn
      clear hq hnm ha hbn HB
      subst hAe
      cases bn
      · go_wp2
        go_round
        case rel => exact ⟨i + 1, by go_num, by omega, Lib.hid ⟨HJ2.out, by rw [HTK.out, HJ.out.2]; simp⟩⟩
        case measure => simp [intOf]; omega
      · go_wp2_with fail
        refine CL.out.mono ?_
        rintro e w5 ⟨q5, rfl, hq5, hz5, hh5, hb5⟩
        have HG := Lib.hid (And.intro hq5 (And.intro hz5 hh5))
        have HJ5 := Lib.hid (HJ2.out.step hb5)
        have HS := Lib.hid (show w.heap.size + 2 ≤ (wr.alloc (.cells #[.string q.name, .slice q.L q.n q.c, .string q.vl] 30)).heap.size by have := HJ2.out.rs.lt; omega)
        clear CL hq5 hz5 hh5 hb5 q0 q1 q2 HJ2
        obtain ⟨y0, y1, y2⟩ := HJ5.out.rs.cells
        have xf := HJ5.out.rs.frozen
        have HP := Lib.hid (p3_all (nm' := q5.name) (vl' := q5.vl) (L' := q5.L) (n' := q5.n) (c' := q5.c) HJ5.out.rs)
        go_wp2
        refine bodyPost_ret (results_two rfl _ rfl rfl (load_prop HP.out)) rfl ?_
        have hfl : qs.filter (named name) = q :: (qs.drop (i + 1)).filter (named name) := by
          conv => lhs; rw [← List.take_append_drop (i + 1) qs]
          rw [List.filter_append, HTK.out, HJ.out.2]
          simp
        refine ⟨?_, .inr ⟨q, _, q5, hfl, HG.out.1, by rw [HG.out.2.1]; exact HX.out.2, ?_, rfl⟩⟩
        · refine ((HJ5.out.bel.setCell (p := ⟨w.heap.size + 1, 0, none⟩) ?_ _).setCell (p := ⟨w.heap.size + 1, 1, none⟩) ?_ _).setCell (p := ⟨w.heap.size + 1, 2, none⟩) ?_ _ <;> (show w.heap.size ≤ w.heap.size + 1; omega)
        · refine (Held.next (HG.out.2.2) (by rw [set3_size]; exact Nat.le_refl _) (fun b hb _ => set3_other _ _ _ _ _ _ _ _ b (fun e => ?_))).here
          have h1 := HS.out
          have h2 : (wr.alloc (.cells #[.string q.name, .slice q.L q.n q.c, .string q.vl] 30)).heap.size ≤ b := hb
          omega
    · obtain rfl : i = n := by omega
      have ht : qs.take i = qs := List.take_of_length_le (by rw [HLN.out]; exact Nat.le_refl _)
      rw [ht] at HJ
      obtain ⟨y0, y1, y2⟩ := HJ.out.1.rs.cells
      have xf := HJ.out.1.rs.frozen
      have HP := Lib.hid (p3_all (nm' := ⟨#[]⟩) (vl' := ⟨#[]⟩) (L' := none) (n' := 0) (c' := 0) HJ.out.1.rs)
      go_wp2
      refine bodyPost_ret (results_two rfl _ rfl rfl (load_prop HP.out)) rfl ?_
      refine ⟨?_, .inl ⟨HJ.out.2, rfl⟩⟩
      refine ((HJ.out.1.bel.setCell (p := ⟨w.heap.size + 1, 0, none⟩) ?_ _).setCell (p := ⟨w.heap.size + 1, 1, none⟩) ?_ _).setCell (p := ⟨w.heap.size + 1, 2, none⟩) ?_ _ <;> (show w.heap.size ≤ w.heap.size + 1; omega)
end Go.Proofs.YtlfhhnjdfpgadaaGreatDoor

/-
  The document's lines of a component.
-/
namespace Go.Proofs.YtlfhhnjdfpgadaaGreatDoor
open Go.RowKit

theorem csizes_take : ∀ (cs : List CR) (j : Nat), csizes (cs.take j) ≤ csizes cs
  | [], j => by simp [csizes]
  | c :: cs, 0 => by simp [csizes]
  | c :: cs, j + 1 => by
    have := csizes_take cs j
    rw [List.take_succ_cons, csizes, csizes]
    omega
theorem lines_take (cs : List CR) (j : Nat) : (linesCs ((cs.map compOf).take j)).length ≤ 2 * csizes cs := by
  rw [← List.map_take, ← compsOf_map]
  have h1 := lines_lens (cs.take j)
  have h2 := csizes_take cs j
  omega
theorem one_cells (bs : List ByteArray) : ∀ u ∈ encS bs, u.oneCell' = true := by
  intro u hu
  unfold encS at hu
  obtain ⟨b, _, rfl⟩ := List.mem_map.1 hu
  rfl

set_option maxRecDepth 100000 in
set_option maxHeartbeats 4000000 in
theorem lines_any : ∀ (M : Nat) (r : CR) (w : World), csize r ≤ M → csize r ≤ 1048576 → COk w w.heap.size r → Calls Tryz.prog 24 #[.agg #[(fC r).1, (fC r).2.1, (fC r).2.2]] w (LinAns r w)
  | 0, .mk nm A n c qs K k kc cs, w, hN, _, _ => absurd hN (by simp [csize])
  | M + 1, .mk nm A n c qs K k kc cs, w, hN, hM, hC => by
    have HA := Lib.hid (CA.new hC)
    have HC0 := Lib.hid hC
    have HB : Hid (Below w.heap.size w (w.alloc (.cells #[.string nm, .slice A n c, .slice K k kc] 25))) := Lib.hid ((Below.refl _ w).alloc (Nat.le_refl _) _)
    have HN : Hid (csizes cs ≤ M ∧ csizes cs ≤ 1048576 ∧ qsizes qs ≤ 1048576 ∧ nm.size ≤ 1048576) := Lib.hid (by rw [csize] at hN hM; omega)
    have IH := Lib.hid (lines_any M)
    have hn : n ≤ 9223372036854775807 := by have := hC.nle; unfold maxLen at this; omega
    have hk : k ≤ 9223372036854775807 := by have := hC.kle; unfold maxLen at this; omega
    have HLQ := Lib.hid hC.rq.len3
    have HLC := Lib.hid hC.rc.len3
    have HNQ : Hid (n ≤ 1048576) := Lib.hid (by
      have h1 := qs_len qs
      have h2 := HLQ.out
      have h3 := HN.out.2.2.1
      omega)
    obtain ⟨i0, hi0, hz0, hz1, hz2⟩ := info_parts infoS
    have no1 : ¬ 9223372036854775807 < 6 + nm.size := by have := HN.out; omega
    have no2 : ¬ 9223372036854775807 < 4 + nm.size := by have := HN.out; omega
    have HT1 := Lib.hid (show (⟨#[66, 69, 71, 73, 78, 58]⟩ : ByteArray) ++ nm = ⟨(beginT ++ 58 :: nm.data.toList).toArray⟩ by
      rw [show (⟨#[66, 69, 71, 73, 78, 58]⟩ : ByteArray) = ⟨([66, 69, 71, 73, 78, 58] : List UInt8).toArray⟩ from rfl]
      conv => lhs; rw [← mk_toList nm, mk_appL]
      rfl)
    have HT2 := Lib.hid (show (⟨#[69, 78, 68, 58]⟩ : ByteArray) ++ nm = ⟨(endT ++ 58 :: nm.data.toList).toArray⟩ by
      rw [show (⟨#[69, 78, 68, 58]⟩ : ByteArray) = ⟨([69, 78, 68, 58] : List UInt8).toArray⟩ from rfl]
      conv => lhs; rw [← mk_toList nm, mk_appL]
      rfl)
    clear hC hN hM
    have s6 : (⟨#[66, 69, 71, 73, 78, 58]⟩ : ByteArray).size = 6 := rfl
    have s4 : (⟨#[69, 78, 68, 58]⟩ : ByteArray).size = 4 := rfl
    show Calls Tryz.prog 24 #[.agg #[.string nm, .slice A n c, .slice K k kc]] w _
    go_enter Tryz.func24, Tryz.ntmps24
    obtain ⟨p0, p1, p2⟩ := HA.out.bx.cells
    generalize hW : w.alloc (.cells #[.string nm, .slice A n c, .slice K k kc] 25) = w1 at *
    go_upto_region 2 with fail
    rw [HT1.out]
    have HJ : Hid (LN w (w1.alloc (.cells #[.string ⟨(beginT ++ 58 :: nm.data.toList).toArray⟩] 9)) nm A n c qs K k kc cs (some ⟨w1.heap.size, 0, none⟩) 1 1 [⟨(beginT ++ 58 :: nm.data.toList).toArray⟩]) := Lib.hid
      ⟨HA.out.bx.step ((Below.refl _ _).alloc (Nat.le_refl _) _), HC0.out.under (HB.out.alloc HB.out.size _), own_one w1 _ HB.out.size _, HB.out.alloc HB.out.size _⟩
    generalize hW2 : w1.alloc (.cells #[.string ⟨(beginT ++ 58 :: nm.data.toList).toArray⟩] 9) = w2 at *
    obtain ⟨g1, hg1⟩ : ∃ g1, w1.heap.size = g1 := ⟨_, rfl⟩
    rw [hg1] at HJ ⊢
    clear hW hW2 hg1 HA HB HC0 p0 p1 p2 no1 s6 HT1
    go_wp2
    go_loopw [3, 4] (fun s3 s4 wr => ∃ (i : Nat) (R : Option Addr) (C : Nat) (bs : List ByteArray), s3 = .slice R (1 + i) C ∧ s4 = .int .i64 i ∧ i ≤ n ∧ Hid (LN w wr nm A n c qs K k kc cs R (1 + i) C bs ∧ (bs.map fun b => b.data.toList) = (beginT ++ 58 :: nm.data.toList) :: ((qs.map proQ).take i).map prnL)) (fun _ s4 _ => n - (intOf s4).toNat)
    case atStart => exact ⟨0, _, _, _, rfl, rfl, Nat.zero_le _, Lib.hid ⟨HJ.out, by simp⟩⟩
    case round =>
      clear HJ
      obtain ⟨i, R, C, bs, rfl, rfl, hi, HJ⟩ := hrel
      obtain ⟨p0, p1, p2⟩ := HJ.out.1.bx.cells
      by_cases hlt : i < n
      · obtain ⟨q, hq⟩ : ∃ q, qs[i]? = some q := ⟨qs[i]'(by have := HLQ.out; omega), List.getElem?_eq_getElem (by have := HLQ.out; omega)⟩
        obtain ⟨b, o, hAe, q0, q1, q2⟩ := HJ.out.1.atQ hq
        have hmem := List.mem_of_getElem? hq
        have hsz : q.name.size + psizes q.ps + q.vl.size ≤ 1048576 := by
          have h1 := qsize_mem hmem
          have h2 := HN.out.2.2.1
          unfold qsize at h1
          omega
        have hok := (HJ.out.1.ok.upper HJ.out.1.bel.size).vq q hmem
        have cf := refPrint11_any q.name q.vl q.L q.n q.c q.ps _ hok.rd hok.vs hok.le hok.cap hsz
        have ht : (⟨(prnL (proOf q.name q.ps q.vl)).toArray⟩ : ByteArray).data.toList = prnL (proOf q.name q.ps q.vl) := list_mk _
        generalize (⟨(prnL (proOf q.name q.ps q.vl)).toArray⟩ : ByteArray) = T at cf ht
        have HTK := Lib.hid (show ((qs.map proQ).take (i + 1)).map prnL = ((qs.map proQ).take i).map prnL ++ [T.data.toList] by
          have hil : i < (qs.map proQ).length := by rw [List.length_map]; have := HLQ.out; omega
          rw [List.take_succ_eq_append_getElem hil, List.map_append, ht]
          have : (qs.map proQ)[i] = proQ q := by
            rw [List.getElem_map]
            congr 1
            exact Option.some.inj ((List.getElem?_eq_getElem (by simpa using hil)).symm.trans hq)
          rw [this]; rfl)
        rw [hAe] at p1
        clear hq hAe hmem hsz hok ht
        go_wp2_with fail
        refine cf.mono ?_
        rintro e w3 ⟨rfl, hb3⟩
        have HK := Lib.hid (HJ.out.1.step hb3)
        have HM := Lib.hid HJ.out.2
        have hn16 := HNQ.out
        clear hb3 HJ p0 p1 p2 q0 q1 q2 cf
        go_wp2_with (at_builtin; refine wpList_append_own _ rfl _ _ 46 rfl w.heap.size 9 i0 (.string ⟨#[]⟩) 1 16 Tryz.underlying46 hi0 hz0 hz1 hz2 rfl (by decide) _ _ _ rfl (own_alloc HK.out.row _) ⟨w3.heap.size, 0, none⟩ 1 1 [.string T] rfl rfl (cell_one_new _ _ _) (by simp [Value.oneCell']) (by unfold maxLen; omega) (by omega) (by have := HK.out.bx.lt; simp; omega) ?_; intro v' w7 hown7 hgrow7 _; obtain ⟨g7, c7, rfl⟩ := ownsRow_succ hown7)
        have HK7 := Lib.hid (HK.out.app (R' := some ⟨g7, 0, none⟩) (N' := 1 + i + 1) (C' := c7) (bs' := bs ++ [T]) ((Below.refl _ _).alloc (Nat.le_refl _) (.cells #[.string T] 9)) hgrow7 (by rw [encS_snoc]; exact hown7))
        clear hown7 hgrow7 HK
        go_round
        case rel => exact ⟨i + 1, some ⟨g7, 0, none⟩, c7, bs ++ [T], by first | rfl | (congr 1; omega), by go_num, by omega, Lib.hid ⟨(by rw [show 1 + (i + 1) = 1 + i + 1 by omega]; exact HK7.out), by rw [List.map_append, HM.out, HTK.out]; simp⟩⟩
        case measure => simp [intOf]; omega
      · obtain rfl : i = n := by omega
        have HM : Hid ((bs.map fun b => b.data.toList) = (beginT ++ 58 :: nm.data.toList) :: ((qs.map proQ).map prnL)) := Lib.hid (by
          rw [HJ.out.2, List.take_of_length_le (by rw [List.length_map, HLQ.out]; exact Nat.le_refl _)])
        have HQ0 := Lib.hid HJ.out.1
        clear HJ
        go_wp2
        clear p0 p1 p2
        go_loopw [3, 5] (fun s3 s5 wr => ∃ (j N : Nat) (R : Option Addr) (C : Nat) (bs : List ByteArray), s3 = .slice R N C ∧ s5 = .int .i64 j ∧ j ≤ k ∧ Hid (LN w wr nm A i c qs K k kc cs R N C bs ∧ (bs.map fun b => b.data.toList) = (beginT ++ 58 :: nm.data.toList) :: ((qs.map proQ).map prnL ++ linesCs ((cs.map compOf).take j)))) (fun _ s5 _ => k - (intOf s5).toNat)
        case atStart => exact ⟨0, _, _, _, _, rfl, rfl, Nat.zero_le _, Lib.hid ⟨HQ0.out, by rw [HM.out]; simp [linesCs]⟩⟩
        case round =>
          clear HQ0 HM
          obtain ⟨j, N, R, C, bs, rfl, rfl, hj, HJ⟩ := hrel
          obtain ⟨p0, p1, p2⟩ := HJ.out.1.bx.cells
          have hNb : N ≤ 4194304 := by
            have h1 := HJ.out.1.row.1
            rw [encS_length] at h1
            have h2 := congrArg List.length HJ.out.2
            simp only [List.length_map, List.length_cons, List.length_append] at h2
            have h3 := lines_take cs j
            have h4 := HN.out.2.1
            have h5 := HNQ.out
            have h6 := HLQ.out
            omega
          by_cases hjl : j < k
          · obtain ⟨x, hx⟩ : ∃ x, cs[j]? = some x := ⟨cs[j]'(by have := HLC.out; omega), List.getElem?_eq_getElem (by have := HLC.out; omega)⟩
            obtain ⟨b, o, hKe, q0, q1, q2⟩ := HJ.out.1.atC hx
            have hmem := List.mem_of_getElem? hx
            have hcx := csize_mem hmem
            have HCX : Hid (csize x ≤ 1048576) := Lib.hid (Nat.le_trans hcx HN.out.2.1)
            have cf := IH.out x _ (Nat.le_trans hcx HN.out.1) HCX.out ((HJ.out.1.ok.upper HJ.out.1.bel.size).vc x hmem)
            have HTK := Lib.hid (show linesCs ((cs.map compOf).take (j + 1)) = linesCs ((cs.map compOf).take j) ++ linesC (compOf x) by
              have hil : j < (cs.map compOf).length := by rw [List.length_map]; have := HLC.out; omega
              rw [List.take_succ_eq_append_getElem hil, linesCs_snoc]
              have : (cs.map compOf)[j] = compOf x := by
                rw [List.getElem_map]
                congr 1
                exact Option.some.inj ((List.getElem?_eq_getElem (by simpa using hil)).symm.trans hx)
              rw [this])
            rw [hKe] at p2
            clear hx hKe hmem hcx
            go_wp2_with fail
            refine cf.mono ?_
            rintro e w3 ⟨R2, m, c2, bs2, rfl, hbs2, hR2, hm2, hc2, hb3⟩
            have HK := Lib.hid (HJ.out.1.step hb3)
            have HM := Lib.hid HJ.out.2
            have HR2 := Lib.hid hR2
            have HB2 := Lib.hid hbs2
            have hmb : m ≤ 2097152 := by
              have h1 := hR2.lenS
              have h2 := congrArg List.length hbs2
              rw [List.length_map] at h2
              have h3 := lines_len x
              have h4 := HCX.out
              omega
            clear hb3 HJ p0 p1 p2 q0 q1 q2 cf hR2 hbs2
            go_wp2_with (at_builtin; refine wpList_append_reads _ rfl _ _ 46 rfl w.heap.size 9 i0 (.string ⟨#[]⟩) 1 16 Tryz.underlying46 hi0 hz0 hz1 hz2 rfl (by decide) _ _ _ rfl HK.out.row w3.heap.size R2 m c2 (encS bs2) rfl HR2.out (one_cells bs2) (by unfold maxLen; omega) (by omega) (by have := HK.out.bx.lt; omega) ?_; intro A7 c7 w7 hown7 hgrow7 _)
            have HK7 := Lib.hid (HK.out.app (R' := A7) (N' := N + m) (C' := c7) (bs' := bs ++ bs2) (Below.refl _ _) hgrow7 (by
              have e : encS (bs ++ bs2) = encS bs ++ encS bs2 := by simp [encS]
              rw [e]; exact hown7))
            clear hown7 hgrow7 HK
            go_round
            case rel => exact ⟨j + 1, N + m, A7, c7, bs ++ bs2, by first | rfl | (congr 1; omega), by go_num, by omega, Lib.hid ⟨HK7.out, by rw [List.map_append, HM.out, HTK.out, HB2.out]; simp⟩⟩
            case measure => simp [intOf]; omega
          · obtain rfl : j = k := by omega
            have HM : Hid ((bs.map fun b => b.data.toList) = (beginT ++ 58 :: nm.data.toList) :: ((qs.map proQ).map prnL ++ linesCs (cs.map compOf))) := Lib.hid (by
              rw [HJ.out.2, List.take_of_length_le (by rw [List.length_map, HLC.out]; exact Nat.le_refl _)])
            have HK := Lib.hid HJ.out.1
            have HE := Lib.hid (show linesC (compOf (.mk nm A i c qs K j kc cs)) = ((beginT ++ 58 :: nm.data.toList) :: ((qs.map proQ).map prnL ++ linesCs (cs.map compOf))) ++ [endT ++ 58 :: nm.data.toList] by
              rw [compOf_mk, linesC]; simp)
            clear HJ
            go_wp2_with (at_builtin; refine wpList_append_own _ rfl _ _ 46 rfl w.heap.size 9 i0 (.string ⟨#[]⟩) 1 16 Tryz.underlying46 hi0 hz0 hz1 hz2 rfl (by decide) _ _ _ rfl (own_alloc HK.out.row _) ⟨wr.heap.size, 0, none⟩ 1 1 [.string ((⟨#[69, 78, 68, 58]⟩ : ByteArray) ++ nm)] rfl rfl (cell_one_new _ _ _) (by simp [Value.oneCell']) (by unfold maxLen; omega) (by omega) (by have := HK.out.bx.lt; simp; omega) ?_; intro v' w7 hown7 hgrow7 _; obtain ⟨g7, c7, rfl⟩ := ownsRow_succ hown7)
            have HK7 := Lib.hid (HK.out.app (R' := some ⟨g7, 0, none⟩) (N' := N + 1) (C' := c7) (bs' := bs ++ [(⟨#[69, 78, 68, 58]⟩ : ByteArray) ++ nm]) ((Below.refl _ _).alloc (Nat.le_refl _) (.cells #[.string ((⟨#[69, 78, 68, 58]⟩ : ByteArray) ++ nm)] 9)) hgrow7 (by rw [encS_snoc]; exact hown7))
            obtain ⟨A9, c9, e9, h91, h92⟩ := own_slice HK7.out.row
            injection e9 with e91 e92 e93
            subst e91 e93
            clear hown7 hgrow7 HK
            go_ret
            exact ⟨_, _, _, bs ++ [(⟨#[69, 78, 68, 58]⟩ : ByteArray) ++ nm], rfl, by rw [HE.out, List.map_append, HM.out, HT2.out]; simp, Reads.of_own HK7.out.row, h91, h92, HK7.out.bel⟩

end Go.Proofs.YtlfhhnjdfpgadaaGreatDoor
