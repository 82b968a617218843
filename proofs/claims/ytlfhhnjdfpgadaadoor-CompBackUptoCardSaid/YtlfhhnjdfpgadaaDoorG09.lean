/-
  The program's Props, Comps and Prop: copies of what stands there by name.
-/
import Derived.Test.YtlfhhnjdfpgadaaDoorG08
import Derived.Test.YtlfhhnjdfpgadaaDoorG06
import Derived.Test.YtlfhhnjdfpgadaaDoorG03
import Derived.Test.YtlfhhnjdfpgadaaDoorG05
import Derived.Test.YtlfhhnjdfpgadaaDoorG04
import Derived.Deep.DeepCutAuto
import Derived.Deep.CutBlock
namespace Go.Proofs.YtlfhhnjdfpgadaaDoor
open Go.RowKit

/-- While elements are gathered: a row of the call's own, each element in blocks of its own. -/
structure G3 {α : Type} (f : α → Value × Value × Value) (ok : α → World → Prop) (t : TypeId) (w wr : World) (R : Option Addr) (N C : Nat) (l : List α) : Prop where
  row : wr.ownsRow (w.heap.size + 1) t 3 (.slice R N C) N (enc3 f l)
  ok : ∀ x ∈ l, Held (fun b => w.heap.size ≤ b ∧ (Value.slice R N C).ownBlock ≠ some b) wr (ok x)
section
variable {α : Type} {f : α → Value × Value × Value} {ok : α → World → Prop} {t : TypeId} {w wr w5 w7 : World} {R R' : Option Addr} {N C C' : Nat} {l : List α}
theorem G3.step (h : G3 f ok t w wr R N C l) (hb : Below wr.heap.size wr w5) : G3 f ok t w w5 R N C l := ⟨own_below h.row hb, fun x hx => (h.ok x hx).step hb⟩
theorem G3.app {y : α} (h : G3 f ok t w wr R N C l) (hwr : w.heap.size ≤ wr.heap.size) (hb : Below wr.heap.size wr w5) (hg : w5.grownBy w7 (Value.slice R N C).ownBlock) (hr : w7.ownsRow (w.heap.size + 1) t 3 (.slice R' (N + 1) C') (N + 1) (enc3 f l ++ [(f y).1, (f y).2.1, (f y).2.2]))
    (hor : (Value.slice R' (N + 1) C').ownBlock = (Value.slice R N C).ownBlock ∨ (Value.slice R' (N + 1) C').ownBlock = some w5.heap.size) (hy : Held (fun b => wr.heap.size ≤ b) w5 (ok y)) : G3 f ok t w w7 R' (N + 1) C' (l ++ [y]) := by
  have h5 := h.step hb
  have hrow := h.row.lt
  refine ⟨by rw [enc3_snoc]; exact hr, fun x hx => ?_⟩
  have key : ∀ x, Held (fun b => w.heap.size ≤ b ∧ (Value.slice R N C).ownBlock ≠ some b) w5 (ok x) → Held (fun b => w.heap.size ≤ b ∧ (Value.slice R' (N + 1) C').ownBlock ≠ some b) w7 (ok x) := fun x hx => by
    refine (hx.weak (S' := fun b => w.heap.size ≤ b ∧ b < w5.heap.size ∧ (Value.slice R N C).ownBlock ≠ some b) (fun b hb2 hb3 => ⟨hb2.1, hb3, hb2.2⟩)).next hg.size (fun b hb2 hb3 => hg.block b hb3 (fun e => hb2.2.2 e.symm)) |>.weak (fun b hb2 _ => ⟨hb2.1, ?_⟩)
    rcases hor with e | e
    · rw [e]; exact hb2.2.2
    · rw [e]; intro e2; injection e2 with e2; have := hb2.2.1; omega
  rcases List.mem_append.1 hx with h1 | h1
  · exact key x (h5.ok x h1)
  · rw [List.mem_singleton.1 h1]
    refine key y (hy.weak (fun b hb2 _ => ⟨by have : wr.heap.size ≤ b := hb2; omega, fun e => ?_⟩))
    have := (hrow b e).2
    have : wr.heap.size ≤ b := hb2
    omega
end
theorem sum_filter_le {α : Type} (wt : α → Nat) (p : α → Bool) : ∀ l : List α, ((l.filter p).map wt).sum ≤ (l.map wt).sum
  | [] => by simp
  | x :: l => by
    have ih := sum_filter_le wt p l
    by_cases h : p x = true <;> simp [h] <;> omega
theorem take_filter {α : Type} (p : α → Bool) (l : List α) (i : Nat) (x : α) (h : l[i]? = some x) : (l.take (i + 1)).filter p = (l.take i).filter p ++ (if p x = true then [x] else []) := by
  have hil : i < l.length := (List.getElem?_eq_some_iff.1 h).1
  have e : l[i] = x := Option.some.inj ((List.getElem?_eq_getElem hil).symm.trans h)
  rw [List.take_succ_eq_append_getElem hil, List.filter_append, e]
  by_cases hp : p x = true <;> simp [hp]
/-- The world while the program gathers. -/
structure PG {α β : Type} (f : α → Value × Value × Value) (ok : α → World → Prop) (g : α → β) (wt : α → Nat) (t : TypeId) (w wr : World) (nm : ByteArray) (A : Option Addr) (n c : Nat) (K : Option Addr) (k kc : Nat) (src : List α) (R : Option Addr) (N C : Nat) (l : List α) : Prop where
  bx : C3 wr w.heap.size nm A n c K k kc
  gs : G3 f ok t w wr R N C l
  sm : l.map g = src.map g
  sz : (l.map wt).sum = (src.map wt).sum
  bel : Below w.heap.size w wr
theorem PG.step {α β : Type} {f : α → Value × Value × Value} {ok : α → World → Prop} {g : α → β} {wt : α → Nat} {t : TypeId} {w wr w5 : World} {nm : ByteArray} {A : Option Addr} {n c : Nat} {K : Option Addr} {k kc : Nat} {src l : List α} {R : Option Addr} {N C : Nat} (h : PG f ok g wt t w wr nm A n c K k kc src R N C l) (hb : Below wr.heap.size wr w5) : PG f ok g wt t w w5 nm A n c K k kc src R N C l :=
  ⟨h.bx.step hb, h.gs.step hb, h.sm, h.sz, bstep h.bel hb⟩

/-- What a call of Comps answers. -/
def CCmAns (cs : List CR) (name : ByteArray) (w : World) (e : Ending) (w' : World) : Prop :=
  ∃ (R : Option Addr) (N C : Nat) (l : List CR), e = .returned (.slice R N C) ∧ Reads w' w'.heap.size 3 R N (enc3 fC l) ∧ (∀ x ∈ l, COk w' w'.heap.size x) ∧ N ≤ C ∧ C ≤ maxLen ∧ l.map compOf = (cs.filter (namedC name)).map compOf ∧ csizes l ≤ csizes cs ∧ Below w.heap.size w w'
/-- What a call of Props answers. -/
def CPrAns (qs : List QR) (name : ByteArray) (w : World) (e : Ending) (w' : World) : Prop :=
  ∃ (R : Option Addr) (N C : Nat) (l : List QR), e = .returned (.slice R N C) ∧ Reads w' w'.heap.size 3 R N (enc3 fQ l) ∧ (∀ q ∈ l, QOk w' w'.heap.size q) ∧ N ≤ C ∧ C ≤ maxLen ∧ l.map proQ = (qs.filter (named name)).map proQ ∧ qsizes l ≤ qsizes qs ∧ Below w.heap.size w w'
/-- What a call of Prop answers. -/
def CPpAns (qs : List QR) (name : ByteArray) (w : World) (e : Ending) (w' : World) : Prop :=
  Below w.heap.size w w' ∧ ((qs.filter (named name) = [] ∧ e = .returned (.tuple #[.agg #[.string ⟨#[]⟩, .slice none 0 0, .string ⟨#[]⟩], .bool false])) ∨
    ∃ q l q', qs.filter (named name) = q :: l ∧ proQ q' = proQ q ∧ qsize q' ≤ qsizes qs ∧ QOk w' w'.heap.size q' ∧ e = .returned (.tuple #[.agg #[.string q'.name, .slice q'.L q'.n q'.c, .string q'.vl], .bool true]))
set_option maxRecDepth 100000 in
set_option maxHeartbeats 4000000 in
theorem cComps_x (nm name : ByteArray) (A : Option Addr) (n c : Nat) (qs : List QR) (K : Option Addr) (k kc : Nat) (cs : List CR) (w : World) (hM : csize (.mk nm A n c qs K k kc cs) ≤ 1048576) (hC : COk w w.heap.size (.mk nm A n c qs K k kc cs)) :
    Calls Tryd.prog 14 #[.agg #[.string nm, .slice A n c, .slice K k kc], .string name] w (CCmAns cs name w) := by
  have HB : Hid (Below w.heap.size w (w.alloc (.cells #[.string nm, .slice A n c, .slice K k kc] 25))) := Lib.hid ((Below.refl _ w).alloc (Nat.le_refl _) _)
  have HC := Lib.hid hC
  have HBX := Lib.hid (C3.new w nm A n c K k kc)
  have HLN := Lib.hid hC.rc.len3
  have HM := Lib.hid (show qsizes qs ≤ 1048576 ∧ csizes cs ≤ 1048576 by rw [csize] at hM; omega)
  have hn : k ≤ 1048576 := by
    have h1 := cs_len cs
    have h2 := HLN.out
    have h3 := HM.out
    omega
  obtain ⟨i0, hi0, hz0, hz1, hz2⟩ := info_parts infoC
  clear hC hM
  go_enter Tryd.func14, Tryd.ntmps14
  generalize hW : w.alloc (.cells #[.string nm, .slice A n c, .slice K k kc] 25) = w1 at HB HBX
  obtain ⟨p0, p1, p2⟩ := HBX.out.cells
  have HJ : Hid (PG fC (fun x W => COk W W.heap.size x) compOf csize 25 w w1 nm A n c K k kc ((cs.take 0).filter (namedC name)) none 0 0 []) := Lib.hid ⟨HBX.out, ⟨own_nil, fun x hx => (by cases hx)⟩, rfl, rfl, HB.out⟩
  clear HBX HB
  go_wp2
  clear p0 p1 p2 hW
  go_loopw [5, 11] (fun s5 s11 wr => ∃ (i N : Nat) (R : Option Addr) (C : Nat) (l : List CR), s5 = .slice R N C ∧ s11 = .int .i64 i ∧ i ≤ k ∧ N ≤ i ∧ Hid (PG fC (fun x W => COk W W.heap.size x) compOf csize 25 w wr nm A n c K k kc ((cs.take i).filter (namedC name)) R N C l)) (fun _ s11 _ => k - (intOf s11).toNat)
  case atStart => exact ⟨0, 0, none, 0, [], rfl, rfl, Nat.zero_le _, Nat.le_refl _, HJ⟩
  case round =>
    clear HJ
    obtain ⟨i, N, R, C, l, rfl, rfl, hi, hNi, HJ⟩ := hrel
    by_cases hlt : i < k
    · obtain ⟨q, hq⟩ : ∃ q, cs[i]? = some q := ⟨cs[i]'(by have := HLN.out; omega), List.getElem?_eq_getElem (by have := HLN.out; omega)⟩
      obtain ⟨b, o, hAe, _, q0, q1, q2⟩ := ((HC.out.step HJ.out.bel).rc).tri hq
      have HTK := Lib.hid (take_filter (namedC name) cs i q hq)
      have HX := Lib.hid (And.intro ((HC.out.step HJ.out.bel).vc q (List.mem_of_getElem? hq)) (csize_mem (List.mem_of_getElem? hq)))
      obtain ⟨xn, xA, xa, xac, xqs, xK, xk, xkc, xcs⟩ := q
      simp only [fC] at q0 q1 q2
      have ha : Below wr.heap.size wr (wr.alloc (.cells #[.string xn, .slice xA xa xac, .slice xK xk xkc] 25)) := (Below.refl _ wr).alloc (Nat.le_refl _) _
      have HJ2 := Lib.hid (HJ.out.step ha)
      have CL := Lib.hid (clone12 1048576 (.mk xn xA xa xac xqs xK xk xkc xcs) _ (Nat.le_trans HX.out.2 HM.out.2) (Nat.le_refl _) (HX.out.1.step ha))
      have g1 := strEqL xn name
      have hnm : namedC name (.mk xn xA xa xac xqs xK xk xkc xcs) = decide (xn.data.toList = name.data.toList) := rfl
      rw [← hnm] at g1
      generalize namedC name (.mk xn xA xa xac xqs xK xk xkc xcs) = bn at HTK g1
      clear hq hnm ha
      subst hAe
      cases bn
      · go_wp2
        go_round
        case rel => exact ⟨i + 1, N, R, C, l, rfl, by go_num, by omega, by omega, Lib.hid (by rw [HTK.out]; simpa using HJ2.out)⟩
        case measure => simp [intOf]; omega
      · clear HJ
        go_wp2_with fail
        refine CL.out.mono ?_
        rintro e w5 ⟨⟨yn, yA, ya, yac, yqs, yK, yk, ykc, ycs⟩, rfl, hq5, hz5, hh5, hb5⟩
        simp only [fC]
        have HG := Lib.hid (And.intro hq5 (And.intro hz5 hh5))
        have HJ5 := Lib.hid (HJ2.out.step hb5)
        have HS := Lib.hid HJ2.out.bel.size
        generalize hwa : wr.alloc (.cells #[.string xn, .slice xA xa xac, .slice xK xk xkc] 25) = wa at HJ2 hb5 HG HS
        clear CL hq5 hz5 hh5
        have HR := Lib.hid HJ5.out.gs.row
        have HB5 := Lib.hid hb5
        clear hb5 q0 q1 q2
        go_wp2_with (at_builtin; refine wpList_append_reads _ rfl _ _ 23 rfl (w.heap.size + 1) 25 i0 (.agg #[.string ⟨#[]⟩, .slice none 0 0, .slice none 0 0]) 3 64 Tryd.underlying23 hi0 hz0 hz1 hz2 rfl (by decide) _ _ _ rfl (own_alloc HR.out _) _ (some ⟨w5.heap.size, 0, none⟩) 1 1 [.string yn, .slice yA ya yac, .slice yK yk ykc] rfl (reads_new w5 #[.string yn, .slice yA ya yac, .slice yK yk ykc] 25 1 3 rfl) (by simp [Value.oneCell']) (by unfold maxLen; omega) (by omega) (by have := HJ5.out.bx.lt; simp; omega) ?_; intro A7 c7 w7 hown7 hgrow7 hor7)
        have HK7 : Hid (PG fC (fun x W => COk W W.heap.size x) compOf csize 25 w w7 nm A n c (some ⟨b, o, none⟩) k kc ((cs.take (i + 1)).filter (namedC name)) A7 (N + 1) c7 (l ++ [.mk yn yA ya yac yqs yK yk ykc ycs])) := Lib.hid (by
          have hal : Below w5.heap.size w5 (w5.alloc (.cells #[.string yn, .slice yA ya yac, .slice yK yk ykc] 25)) := (Below.refl _ w5).alloc (Nat.le_refl _) _
          have h6 := HJ5.out.step hal
          have hgs := G3.app (y := .mk yn yA ya yac yqs yK yk ykc ycs) HJ2.out.gs HS.out (bstep HB5.out hal) hgrow7 hown7 hor7 (HG.out.2.2.step hal)
          have nb : (Value.slice R N C).ownBlock ≠ some w.heap.size := fun e => by have := own_row_ge h6.gs.row _ e; omega
          refine ⟨(hgrow7.block _ h6.bx.lt (Ne.symm nb)).trans h6.bx, hgs, ?_, ?_, h6.bel.trans ((Below.refl w.heap.size _).grown hgrow7 h6.bel.size (fun j ej => by have := own_row_ge h6.gs.row j ej; omega))⟩
          · rw [show (cs.take (i + 1)).filter (namedC name) = (cs.take i).filter (namedC name) ++ [.mk xn xA xa xac xqs xK xk xkc xcs] by rw [HTK.out]; simp, List.map_append, List.map_append, HJ2.out.sm, List.map_singleton, List.map_singleton, HG.out.1]
          · rw [show (cs.take (i + 1)).filter (namedC name) = (cs.take i).filter (namedC name) ++ [.mk xn xA xa xac xqs xK xk xkc xcs] by rw [HTK.out]; simp, List.map_append, List.map_append, List.sum_append, List.sum_append, HJ2.out.sz, List.map_singleton, List.map_singleton, HG.out.2.1])
        clear hown7 hgrow7 hor7 HG HJ5 HJ2 HR HB5 HS hwa
        go_round
        case rel => exact ⟨i + 1, N + 1, A7, c7, _, rfl, by go_num, by omega, by omega, HK7⟩
        case measure => simp [intOf]; omega
    · obtain rfl : i = k := by omega
      have ht : cs.take i = cs := List.take_of_length_le (by rw [HLN.out]; exact Nat.le_refl _)
      rw [ht] at HJ
      obtain ⟨A9, c9, e9, h91, h92⟩ := own_slice HJ.out.gs.row
      injection e9 with e91 e92 e93
      subst e91 e93
      go_wp2
      go_ret
      refine ⟨_, _, _, l, rfl, Reads.of_own HJ.out.gs.row, fun q hq => (HJ.out.gs.ok q hq).here, h91, h92, HJ.out.sm, ?_, HJ.out.bel⟩
      rw [csizes_sum, csizes_sum]
      rw [HJ.out.sz]
      exact sum_filter_le csize _ _
/-- The world while the first one is looked for. -/
structure PF (w wr : World) (nm : ByteArray) (A : Option Addr) (n c : Nat) (K : Option Addr) (k kc : Nat) : Prop where
  bx : C3 wr w.heap.size nm A n c K k kc
  rs : P3 wr (w.heap.size + 1) ⟨#[]⟩ ⟨#[]⟩ none 0 0
  bel : Below w.heap.size w wr
theorem PF.step {w wr w5 : World} {nm : ByteArray} {A : Option Addr} {n c : Nat} {K : Option Addr} {k kc : Nat} (h : PF w wr nm A n c K k kc) (hb : Below wr.heap.size wr w5) : PF w w5 nm A n c K k kc := ⟨h.bx.step hb, h.rs.step hb, bstep h.bel hb⟩
set_option maxRecDepth 100000 in
set_option maxHeartbeats 4000000 in
theorem cProp_x (nm name : ByteArray) (A : Option Addr) (n c : Nat) (qs : List QR) (K : Option Addr) (k kc : Nat) (cs : List CR) (w : World) (hM : csize (.mk nm A n c qs K k kc cs) ≤ 1048576) (hC : COk w w.heap.size (.mk nm A n c qs K k kc cs)) :
    Calls Tryd.prog 13 #[.agg #[.string nm, .slice A n c, .slice K k kc], .string name] w (CPpAns qs name w) := by
  have hb1 : Below w.heap.size w (w.alloc (.cells #[.string nm, .slice A n c, .slice K k kc] 25)) := (Below.refl _ w).alloc (Nat.le_refl _) _
  have hb2 := (Below.refl _ (w.alloc (.cells #[.string nm, .slice A n c, .slice K k kc] 25))).alloc (Nat.le_refl _) (.cells #[.string ⟨#[]⟩, .slice none 0 0, .string ⟨#[]⟩] 41)
  have P2 := P3.new (w.alloc (.cells #[.string nm, .slice A n c, .slice K k kc] 25)) ⟨#[]⟩ ⟨#[]⟩ none 0 0
  have hs0 : (w.alloc (.cells #[.string nm, .slice A n c, .slice K k kc] 25)).heap.size = w.heap.size + 1 := by simp
  rw [hs0] at P2
  have HJ : Hid (PF w ((w.alloc (.cells #[.string nm, .slice A n c, .slice K k kc] 25)).alloc (.cells #[.string ⟨#[]⟩, .slice none 0 0, .string ⟨#[]⟩] 41)) nm A n c K k kc) := Lib.hid ⟨(C3.new w nm A n c K k kc).step hb2, P2, bstep hb1 hb2⟩
  have HC := Lib.hid hC
  have HLN := Lib.hid hC.rq.len3
  have HM := Lib.hid (show qsizes qs ≤ 1048576 by rw [csize] at hM; omega)
  have hn : n ≤ 1048576 := by
    have h1 := qs_len qs
    have h2 := HLN.out
    have h3 := HM.out
    omega
  clear hC hM P2 hs0 hb1 hb2
  go_enter Tryd.func13, Tryd.ntmps13
  generalize hW : (w.alloc (.cells #[.string nm, .slice A n c, .slice K k kc] 25)).alloc (.cells #[.string ⟨#[]⟩, .slice none 0 0, .string ⟨#[]⟩] 41) = w1 at HJ
  obtain ⟨p0, p1, p2⟩ := HJ.out.bx.cells
  go_wp2
  clear p0 p1 p2 hW
  go_loopw [11] (fun s11 wr => ∃ i : Nat, s11 = .int .i64 i ∧ i ≤ n ∧ Hid (PF w wr nm A n c K k kc ∧ (qs.take i).filter (named name) = [])) (fun s11 _ => n - (intOf s11).toNat)
  case atStart => exact ⟨0, rfl, Nat.zero_le _, Lib.hid ⟨HJ.out, rfl⟩⟩
  case round =>
    clear HJ
    obtain ⟨i, rfl, hi, HJ⟩ := hrel
    by_cases hlt : i < n
    · obtain ⟨q, hq⟩ : ∃ q, qs[i]? = some q := ⟨qs[i]'(by have := HLN.out; omega), List.getElem?_eq_getElem (by have := HLN.out; omega)⟩
      obtain ⟨b, o, hAe, _, q0, q1, q2⟩ := ((HC.out.step HJ.out.1.bel).rq).tri hq
      have HTK := Lib.hid (take_filter (named name) qs i q hq)
      have HQ := Lib.hid hq
      have HX := Lib.hid (And.intro ((HC.out.step HJ.out.1.bel).vq q (List.mem_of_getElem? hq)) (qsize_mem12 (List.mem_of_getElem? hq)))
      simp only [fQ] at q0 q1 q2
      have ha : Below wr.heap.size wr (wr.alloc (.cells #[.string q.name, .slice q.L q.n q.c, .string q.vl] 41)) := (Below.refl _ wr).alloc (Nat.le_refl _) _
      have HJ2 := Lib.hid (HJ.out.1.step ha)
      have CL := Lib.hid (cloneProp_any q _ (HX.out.1.step ha) (Nat.le_trans HX.out.2 HM.out))
      have g1 := strEqL q.name name
      have hnm : named name q = decide (q.name.data.toList = name.data.toList) := rfl
      rw [← hnm] at g1
      have HB := Lib.hid (show ∃ b, named name q = b from ⟨_, rfl⟩)
      obtain ⟨bn, hbn⟩ := HB.out
      rw [hbn] at g1 HTK
      have HBN := Lib.hid hbn
      clear hq hnm ha hbn HB
      subst hAe
      cases bn
      · go_wp2
        go_round
        case rel => exact ⟨i + 1, by go_num, by omega, Lib.hid ⟨HJ2.out, by rw [HTK.out, HJ.out.2]; simp⟩⟩
        case measure => simp [intOf]; omega
      · go_wp2_with fail
        refine CL.out.mono ?_
        rintro e w5 ⟨q5, rfl, hq5, hz5, hh5, hb5⟩
        have HG := Lib.hid (And.intro hq5 (And.intro hz5 hh5))
        have HJ5 := Lib.hid (HJ2.out.step hb5)
        have HS := Lib.hid (show w.heap.size + 2 ≤ (wr.alloc (.cells #[.string q.name, .slice q.L q.n q.c, .string q.vl] 41)).heap.size by have := HJ2.out.rs.lt; omega)
        clear CL hq5 hz5 hh5 hb5 q0 q1 q2 HJ2
        obtain ⟨y0, y1, y2⟩ := HJ5.out.rs.cells
        have xf := HJ5.out.rs.frozen
        have HP := Lib.hid (p3_all (nm' := q5.name) (vl' := q5.vl) (L' := q5.L) (n' := q5.n) (c' := q5.c) HJ5.out.rs)
        go_wp2
        refine bodyPost_ret (results_two rfl _ rfl rfl (load_prop HP.out)) rfl ?_
        have hfl : qs.filter (named name) = q :: (qs.drop (i + 1)).filter (named name) := by
          conv => lhs; rw [← List.take_append_drop (i + 1) qs]
          rw [List.filter_append, HTK.out, HJ.out.2]
          simp
        refine ⟨?_, .inr ⟨q, _, q5, hfl, HG.out.1, by rw [HG.out.2.1]; exact HX.out.2, ?_, rfl⟩⟩
        · refine ((HJ5.out.bel.setCell (p := ⟨w.heap.size + 1, 0, none⟩) ?_ _).setCell (p := ⟨w.heap.size + 1, 1, none⟩) ?_ _).setCell (p := ⟨w.heap.size + 1, 2, none⟩) ?_ _ <;> (show w.heap.size ≤ w.heap.size + 1; omega)
        · refine (Held.next (HG.out.2.2) (by rw [set3_size]; exact Nat.le_refl _) (fun b hb _ => set3_other _ _ _ _ _ _ _ _ b (fun e => ?_))).here
          have h1 := HS.out
          have h2 : (wr.alloc (.cells #[.string q.name, .slice q.L q.n q.c, .string q.vl] 41)).heap.size ≤ b := hb
          omega
    · obtain rfl : i = n := by omega
      have ht : qs.take i = qs := List.take_of_length_le (by rw [HLN.out]; exact Nat.le_refl _)
      rw [ht] at HJ
      obtain ⟨y0, y1, y2⟩ := HJ.out.1.rs.cells
      have xf := HJ.out.1.rs.frozen
      have HP := Lib.hid (p3_all (nm' := ⟨#[]⟩) (vl' := ⟨#[]⟩) (L' := none) (n' := 0) (c' := 0) HJ.out.1.rs)
      go_wp2
      refine bodyPost_ret (results_two rfl _ rfl rfl (load_prop HP.out)) rfl ?_
      refine ⟨?_, .inl ⟨HJ.out.2, rfl⟩⟩
      refine ((HJ.out.1.bel.setCell (p := ⟨w.heap.size + 1, 0, none⟩) ?_ _).setCell (p := ⟨w.heap.size + 1, 1, none⟩) ?_ _).setCell (p := ⟨w.heap.size + 1, 2, none⟩) ?_ _ <;> (show w.heap.size ≤ w.heap.size + 1; omega)
end Go.Proofs.YtlfhhnjdfpgadaaDoor

/-
  The document's lines of a component.
-/
namespace Go.Proofs.YtlfhhnjdfpgadaaDoor
open Go.RowKit

theorem csizes_take : ∀ (cs : List CR) (j : Nat), csizes (cs.take j) ≤ csizes cs
  | [], j => by simp [csizes]
  | c :: cs, 0 => by simp [csizes]
  | c :: cs, j + 1 => by
    have := csizes_take cs j
    rw [List.take_succ_cons, csizes, csizes]
    omega
theorem lines_take (cs : List CR) (j : Nat) : (linesCs ((cs.map compOf).take j)).length ≤ 2 * csizes cs := by
  rw [← List.map_take, ← compsOf_map]
  have h1 := lines_lens (cs.take j)
  have h2 := csizes_take cs j
  omega
theorem one_cells (bs : List ByteArray) : ∀ u ∈ encS bs, u.oneCell' = true := by
  intro u hu
  unfold encS at hu
  obtain ⟨b, _, rfl⟩ := List.mem_map.1 hu
  rfl

end Go.Proofs.YtlfhhnjdfpgadaaDoor

/-
  Plain mathematics for layer 11 (line): lines folded, and unfolded.
-/
namespace Go.Proofs.YtlfhhnjdfpgadaaDoor
open Go.RowKit

/-- The bytes of the number of UTF-8 that stands first, one at least. -/
def stepL (l : List UInt8) : Nat := max 1 (runeL l)
/-- A line in pieces, n bytes standing in the one that is begun. -/
def foldF : Nat → List UInt8 → Nat → List UInt8
  | 0, _, _ => []
  | f + 1, l, n => if l = [] then [] else
      if 75 < n + stepL l then 13 :: 10 :: 32 :: (l.take (stepL l) ++ foldF f (l.drop (stepL l)) (1 + stepL l))
      else l.take (stepL l) ++ foldF f (l.drop (stepL l)) (n + stepL l)
def lineF (l : List UInt8) : List UInt8 := foldF l.length l 0 ++ [13, 10]
/-- What Fold writes. -/
def foldL (ls : List (List UInt8)) : List UInt8 := ls.flatMap lineF
def stripL (a : List UInt8) : List UInt8 := if a.getLast? = some 13 then a.dropLast else a
/-- Lines as they stand. -/
def rawG : List UInt8 → List UInt8 → List (List UInt8)
  | [], acc => if acc = [] then [] else [acc]
  | c :: l, acc => if c = 10 then stripL acc :: rawG l [] else rawG l (acc ++ [c])
def goesL (x : List UInt8) : Bool := x.head? == some 32 || x.head? == some 9
/-- Whole lines. -/
def unfG : List (List UInt8) → List (List UInt8) → List (List UInt8) × Int
  | [], out => (out, 0)
  | x :: xs, out =>
    if x = [] ∨ (goesL x = true ∧ out = []) then ([], 10)
    else if goesL x = true then
      (if 1024 < (out.getLastD [] ++ x.drop 1).length then ([], 12) else unfG xs (out.dropLast ++ [out.getLastD [] ++ x.drop 1]))
    else if out.length = 400 then ([], 27)
    else if 1024 < x.length then ([], 12)
    else unfG xs (out ++ [x])
/-- What Unfold tells. -/
def unfL (s : List UInt8) : List (List UInt8) × Int := if 8192 < s.length then ([], 12) else unfG (rawG s []) []
/-- A line that comes back as it was. -/
def lineOk (x : List UInt8) : Prop := x ≠ [] ∧ x.length ≤ 1024 ∧ goesL x = false ∧ ∀ c ∈ x, c ≠ 10 ∧ c ≠ 13

theorem runeL_4 (l : List UInt8) : runeL l ≤ 4 := by
  unfold runeL
  repeat (first | omega | split)
theorem stepL_pos (l : List UInt8) : 1 ≤ stepL l ∧ stepL l ≤ 4 := by
  have := runeL_4 l
  unfold stepL; omega
theorem stepL_le {l : List UInt8} (h : l ≠ []) : stepL l ≤ l.length := by
  have h0 : 0 < l.length := List.length_pos_iff.2 h
  have := runeL_le l h0
  unfold stepL; omega
theorem raw_feed : ∀ (a l acc : List UInt8), (∀ c ∈ a, c ≠ 10) → rawG (a ++ l) acc = rawG l (acc ++ a)
  | [], l, acc, _ => by simp
  | c :: a, l, acc, h => by
    rw [List.cons_append, rawG, if_neg (h c (by simp)), raw_feed a l _ (fun x hx => h x (by simp [hx]))]
    simp
theorem raw_end (acc R : List UInt8) : rawG (13 :: 10 :: R) acc = acc :: rawG R [] := by
  rw [rawG, if_neg (by decide), rawG, if_pos rfl]
  unfold stripL
  rw [if_pos (by simp)]
  simp
theorem goes_app {p l : List UInt8} (hp : p ≠ []) : goesL (p ++ l) = goesL p := by
  cases p with
  | nil => exact absurd rfl hp
  | cons c p => rfl
theorem goes_sp (q : List UInt8) : goesL (32 :: q) = true := rfl
/-- Within a line that goes on. -/
theorem unf_on : ∀ (f : Nat) (l q y : List UInt8) (n : Nat) (done : List (List UInt8)) (R : List UInt8), l.length ≤ f → (∀ c ∈ l, c ≠ 10 ∧ c ≠ 13) → (y ++ q ++ l).length ≤ 1024 →
    unfG (rawG (foldF f l n ++ 13 :: 10 :: R) (32 :: q)) (done ++ [y]) = unfG (rawG R []) (done ++ [y ++ q ++ l])
  | 0, l, q, y, n, done, R, hl, hc, hb => by
    have : l = [] := List.eq_nil_of_length_eq_zero (by omega)
    subst this
    simp only [foldF, List.nil_append, List.append_nil] at hb ⊢
    rw [raw_end, unfG, if_neg (by simp), if_pos (goes_sp _)]
    simp only [List.getLastD_concat, List.drop_one, List.tail_cons, List.dropLast_concat]
    rw [if_neg (by omega)]
  | f + 1, l, q, y, n, done, R, hl, hc, hb => by
    by_cases h0 : l = []
    · subst h0
      rw [foldF, if_pos rfl]
      simp only [List.nil_append, List.append_nil] at hb ⊢
      rw [raw_end, unfG, if_neg (by simp), if_pos (goes_sp _)]
      simp only [List.getLastD_concat, List.drop_one, List.tail_cons, List.dropLast_concat]
      rw [if_neg (by omega)]
    · have hk := stepL_pos l
      have hk2 := stepL_le h0
      have e : l.take (stepL l) ++ l.drop (stepL l) = l := List.take_append_drop _ _
      rw [foldF, if_neg h0]
      generalize stepL l = k at *
      have ht : ∀ c ∈ l.take k, c ≠ 10 := fun c h => (hc c (List.mem_of_mem_take h)).1
      by_cases hbr : 75 < n + k
      · rw [if_pos hbr]
        simp only [List.cons_append, List.append_assoc]
        rw [raw_end, unfG, if_neg (by simp), if_pos (goes_sp _)]
        simp only [List.getLastD_concat, List.drop_one, List.tail_cons, List.dropLast_concat]
        rw [if_neg (by simp at hb ⊢; omega)]
        rw [rawG, if_neg (by decide), raw_feed _ _ _ ht]
        have ih := unf_on f (l.drop k) (l.take k) (y ++ q) (1 + k) done R (by simp; omega) (fun c h => hc c (List.mem_of_mem_drop h)) (by rw [List.append_assoc, e]; exact hb)
        rw [List.append_assoc (y ++ q), e] at ih
        simp only [List.nil_append, List.singleton_append, List.append_assoc] at ih ⊢
        exact ih
      · rw [if_neg hbr]
        rw [List.append_assoc, raw_feed _ _ _ ht]
        have ih := unf_on f (l.drop k) (q ++ l.take k) y (n + k) done R (by simp; omega) (fun c h => hc c (List.mem_of_mem_drop h)) (by rw [List.append_assoc, List.append_assoc, e, ← List.append_assoc]; exact hb)
        rw [List.append_assoc y, List.append_assoc q, e, ← List.append_assoc y] at ih
        simp only [List.cons_append, List.append_assoc] at ih ⊢
        exact ih
/-- Within a line's first piece. -/
theorem unf_new : ∀ (f : Nat) (l p : List UInt8) (n : Nat) (done : List (List UInt8)) (R : List UInt8), l.length ≤ f → (∀ c ∈ l, c ≠ 10 ∧ c ≠ 13) → (p ++ l).length ≤ 1024 → p ++ l ≠ [] → goesL (p ++ l) = false → (p = [] → n = 0) → done.length < 400 →
    unfG (rawG (foldF f l n ++ 13 :: 10 :: R) p) done = unfG (rawG R []) (done ++ [p ++ l])
  | 0, l, p, n, done, R, hl, hc, hb, hne, hg, hp, hd => by
    have : l = [] := List.eq_nil_of_length_eq_zero (by omega)
    subst this
    simp only [foldF, List.nil_append, List.append_nil] at hb hne hg ⊢
    rw [raw_end, unfG, if_neg (by simp [hne, hg]), if_neg (by simp [hg]), if_neg (by omega), if_neg (by omega)]
  | f + 1, l, p, n, done, R, hl, hc, hb, hne, hg, hp, hd => by
    by_cases h0 : l = []
    · subst h0
      rw [foldF, if_pos rfl]
      simp only [List.nil_append, List.append_nil] at hb hne hg ⊢
      rw [raw_end, unfG, if_neg (by simp [hne, hg]), if_neg (by simp [hg]), if_neg (by omega), if_neg (by omega)]
    · have hk := stepL_pos l
      have hk2 := stepL_le h0
      have e : l.take (stepL l) ++ l.drop (stepL l) = l := List.take_append_drop _ _
      rw [foldF, if_neg h0]
      generalize stepL l = k at *
      have ht : ∀ c ∈ l.take k, c ≠ 10 := fun c h => (hc c (List.mem_of_mem_take h)).1
      by_cases hbr : 75 < n + k
      · have hpn : p ≠ [] := fun e => by have := hp e; omega
        have hgp : goesL p = false := by rw [← hg, goes_app hpn]
        rw [if_pos hbr]
        simp only [List.cons_append, List.append_assoc]
        rw [raw_end, unfG, if_neg (by simp [hpn, hgp]), if_neg (by simp [hgp]), if_neg (by omega), if_neg (by simp at hb; omega)]
        rw [rawG, if_neg (by decide), raw_feed _ _ _ ht]
        have ih := unf_on f (l.drop k) (l.take k) p (1 + k) done R (by simp; omega) (fun c h => hc c (List.mem_of_mem_drop h)) (by rw [List.append_assoc, e]; exact hb)
        rw [List.append_assoc p, e] at ih
        simp only [List.nil_append, List.singleton_append] at ih ⊢
        exact ih
      · rw [if_neg hbr]
        rw [List.append_assoc, raw_feed _ _ _ ht]
        have ht0 : l.take k ≠ [] := fun e => by
          have := congrArg List.length e
          rw [List.length_take, List.length_nil] at this
          omega
        have ih := unf_new f (l.drop k) (p ++ l.take k) (n + k) done R (by rw [List.length_drop]; omega) (fun c h => hc c (List.mem_of_mem_drop h)) (by rw [List.append_assoc, e]; exact hb) (by rw [List.append_assoc, e]; exact hne) (by rw [List.append_assoc, e]; exact hg)
          (fun e => by simp at e; exact absurd (by simpa using e.2) ht0) hd
        rw [List.append_assoc, e] at ih
        exact ih
theorem unf_lines : ∀ (ls done : List (List UInt8)), (∀ x ∈ ls, lineOk x) → done.length + ls.length ≤ 400 → unfG (rawG (foldL ls) []) done = (done ++ ls, 0)
  | [], done, _, _ => by simp [foldL, rawG, unfG]
  | x :: ls, done, h, hl => by
    obtain ⟨h1, h2, h3, h4⟩ := h x (by simp)
    have e : foldL (x :: ls) = foldF x.length x 0 ++ 13 :: 10 :: foldL ls := by simp [foldL, lineF]
    rw [e, unf_new x.length x [] 0 done _ (Nat.le_refl _) h4 (by simpa using h2) (by simpa using h1) (by simpa using h3) (fun _ => rfl) (by simp at hl; omega),
      List.nil_append, unf_lines ls (done ++ [x]) (fun y hy => h y (by simp [hy])) (by simp at hl ⊢; omega)]
    simp
/-- Unfold of Fold are the lines. -/
theorem unfold_fold {ls : List (List UInt8)} (h : ∀ x ∈ ls, lineOk x) (hl : ls.length ≤ 400) (hs : (foldL ls).length ≤ 8192) : unfL (foldL ls) = (ls, 0) := by
  unfold unfL
  rw [if_neg (by omega), unf_lines ls [] h (by simpa using hl)]
  simp

/-- No line that stands there is longer than 77 bytes, its end counted. -/
def scanL : List UInt8 → Nat → Bool
  | [], _ => true
  | c :: l, n => if c = 10 then decide (n + 1 ≤ 77) && scanL l 0 else scanL l (n + 1)
theorem scan_feed : ∀ (a l : List UInt8) (m n : Nat), m ≤ n → n + a.length ≤ 76 → (∀ m', m' ≤ n + a.length → scanL l m' = true) → scanL (a ++ l) m = true
  | [], l, m, n, hm, _, h => h m (by simpa using hm)
  | c :: a, l, m, n, hm, hn, h => by
    simp only [List.length_cons] at hn h
    rw [List.cons_append, scanL]
    split
    · rw [decide_eq_true (by omega), Bool.true_and]
      exact scan_feed a l 0 n (by omega) (by omega) (fun m' hm' => h m' (by omega))
    · exact scan_feed a l (m + 1) (n + 1) (by omega) (by omega) (fun m' hm' => h m' (by omega))
theorem scan_fold : ∀ (f : Nat) (l R : List UInt8) (n m : Nat), m ≤ n → n ≤ 75 → scanL R 0 = true → scanL (foldF f l n ++ 13 :: 10 :: R) m = true
  | 0, l, R, n, m, hm, hn, hR => by
    simp only [foldF, List.nil_append]
    rw [scanL, if_neg (by decide), scanL, if_pos rfl, decide_eq_true (by omega), hR]; rfl
  | f + 1, l, R, n, m, hm, hn, hR => by
    rw [foldF]
    split
    · simp only [List.nil_append]
      rw [scanL, if_neg (by decide), scanL, if_pos rfl, decide_eq_true (by omega), hR]; rfl
    · have hk := stepL_pos l
      have ht : (l.take (stepL l)).length ≤ stepL l := by simp; omega
      split
      · simp only [List.cons_append, List.append_assoc]
        rw [scanL, if_neg (by decide), scanL, if_pos rfl, decide_eq_true (by omega), Bool.true_and, scanL, if_neg (by decide)]
        exact scan_feed _ _ 1 1 (Nat.le_refl _) (by omega) (fun m' hm' => scan_fold f _ R (1 + stepL l) m' (by omega) (by omega) hR)
      · rw [List.append_assoc]
        exact scan_feed _ _ m n hm (by omega) (fun m' hm' => scan_fold f _ R (n + stepL l) m' (by omega) (by omega) hR)
/-- No piece that Fold writes is longer than 75 bytes, its end apart. -/
theorem scan_lines : ∀ (ls : List (List UInt8)), scanL (foldL ls) 0 = true
  | [] => rfl
  | x :: ls => by
    have e : foldL (x :: ls) = foldF x.length x 0 ++ 13 :: 10 :: foldL ls := by simp [foldL, lineF]
    rw [e]
    exact scan_fold x.length x _ 0 0 (Nat.le_refl _) (by omega) (scan_lines ls)

end Go.Proofs.YtlfhhnjdfpgadaaDoor

/-
  The document's own answers of layer 11 that layer 12 calls: lines folded.
-/
namespace Go.Proofs.YtlfhhnjdfpgadaaDoor
open Go.RowKit

theorem foldF_fuelC : ∀ (f f' : Nat) (l : List UInt8) (n : Nat), l.length ≤ f → l.length ≤ f' → foldF f l n = foldF f' l n
  | 0, 0, l, n, _, _ => rfl
  | 0, f' + 1, l, n, h, _ => by
    have : l = [] := List.length_eq_zero_iff.1 (by omega)
    subst this
    simp [foldF]
  | f + 1, 0, l, n, _, h => by
    have : l = [] := List.length_eq_zero_iff.1 (by omega)
    subst this
    simp [foldF]
  | f + 1, f' + 1, l, n, h, h' => by
    rw [foldF, foldF]
    split
    · rfl
    · have h1 := stepL_pos l
      have hd : (l.drop (stepL l)).length ≤ f ∧ (l.drop (stepL l)).length ≤ f' := by rw [List.length_drop]; omega
      rw [foldF_fuelC f f' _ _ hd.1 hd.2, foldF_fuelC f f' _ _ hd.1 hd.2]
def foldR (l : List UInt8) (n : Nat) : List UInt8 := foldF l.length l n
theorem ext_list (s : ByteArray) (a k : Nat) : s.extract a (a + k) = ⟨((s.data.toList.drop a).take k).toArray⟩ := by
  apply ByteArray.ext
  rw [← Array.toList_inj]
  show (s.extract a (a + k)).data.toList = _
  rw [ByteArray.data_extract, Array.toList_extract, List.extract_eq_take_drop]
  congr 1
  omega
theorem foldR_nil (n : Nat) : foldR [] n = [] := rfl
theorem foldR_step {l : List UInt8} (h : l ≠ []) (n : Nat) : foldR l n = if 75 < n + stepL l then 13 :: 10 :: 32 :: (l.take (stepL l) ++ foldR (l.drop (stepL l)) (1 + stepL l)) else l.take (stepL l) ++ foldR (l.drop (stepL l)) (n + stepL l) := by
  have h0 : 0 < l.length := List.length_pos_iff.2 h
  have h1 := stepL_pos l
  unfold foldR
  obtain ⟨k, hk⟩ : ∃ k, l.length = k + 1 := ⟨l.length - 1, by omega⟩
  rw [hk, foldF, if_neg h]
  have hd : (l.drop (stepL l)).length ≤ k := by rw [List.length_drop]; omega
  rw [foldF_fuelC k _ _ (1 + stepL l) hd (Nat.le_refl _), foldF_fuelC k _ _ (n + stepL l) hd (Nat.le_refl _)]
theorem foldL_snocC (ls : List (List UInt8)) (x : List UInt8) : foldL (ls ++ [x]) = foldL ls ++ (foldR x 0 ++ [13, 10]) := by
  unfold foldL
  rw [List.flatMap_append]
  simp [lineF, foldR]
theorem foldR_len (l : List UInt8) (n : Nat) : (foldR l n).length ≤ 4 * l.length := by
  have : ∀ (f : Nat) (l : List UInt8) (n : Nat), (foldF f l n).length ≤ 4 * l.length := by
    intro f
    induction f with
    | zero => intro l n; simp [foldF]
    | succ f ih =>
      intro l n
      rw [foldF]
      split
      · simp
      · rename_i h
        have h1 := stepL_pos l
        have h2 := stepL_le h
        have h3 := ih (l.drop (stepL l)) (1 + stepL l)
        have h4 := ih (l.drop (stepL l)) (n + stepL l)
        simp only [List.length_drop] at h3 h4
        split <;> simp only [List.length_cons, List.length_append, List.length_take] <;> omega
  exact this _ l n
theorem foldL_lenC : ∀ bs : List ByteArray, (foldL (bs.map fun b => b.data.toList)).length ≤ 4 * vsize bs
  | [] => by simp [foldL]
  | b :: bs => by
    have ih := foldL_lenC bs
    have h := foldR_len b.data.toList 0
    have hs := bsize b
    have e : foldL ((b :: bs).map fun b => b.data.toList) = lineF b.data.toList ++ foldL (bs.map fun b => b.data.toList) := by simp [foldL]
    have e2 : vsize (b :: bs) = b.size + 1 + vsize bs := by simp [vsize]
    rw [e, e2, List.length_append]
    have e3 : (lineF b.data.toList).length = (foldR b.data.toList 0).length + 2 := by simp [lineF, foldR]
    omega
theorem vsize_takeC : ∀ (bs : List ByteArray) (i : Nat), vsize (bs.take i) ≤ vsize bs
  | [], i => by simp
  | b :: bs, 0 => by simp [vsize]
  | b :: bs, i + 1 => by
    have := vsize_takeC bs i
    simp only [vsize, List.take_succ_cons, List.map_cons, List.sum_cons] at *
    omega
theorem blk_le12 : ∀ (bs : List ByteArray) (k : Nat), (blk bs k).size ≤ vsize bs
  | [], k => Nat.zero_le _
  | b :: bs, 0 => by simp [blk, vsize]; omega
  | b :: bs, k + 1 => by
    have h := blk_le12 bs k
    have e : blk (b :: bs) (k + 1) = blk bs k := by simp [blk]
    have e2 : vsize (b :: bs) = b.size + 1 + vsize bs := by simp [vsize]
    rw [e, e2]; omega

end Go.Proofs.YtlfhhnjdfpgadaaDoor

/-
  Which components can be, and their texts.
-/
namespace Go.Proofs.YtlfhhnjdfpgadaaDoor
open Go.RowKit

def fitT (c : CM) : Bool := fitC 12 c && (decide ((linesC c).length ≤ 400) && decide ((foldL (linesC c)).length ≤ 8192))
def prnC (c : CM) : List UInt8 := if fitT c = true then foldL (linesC c) else []
theorem prn_len (q : QR) : (prnL (proQ q)).length + 1 ≤ 5 * qsize q := by
  have h1 := preL_len q.name q.ps q.ps.length
  have h2 := preL_all (nm := q.name) (vl := q.vl) (l := q.ps) (i := q.ps.length) (Nat.le_refl _)
  have h3 := congrArg List.length h2
  rw [List.length_append, List.length_cons, ← bsize] at h3
  unfold prnL proQ qsize
  split
  · omega
  · simp only [List.length_nil]; omega
def lsum (l : List (List UInt8)) : Nat := (l.map fun x => x.length + 1).sum
theorem lsum_app (a b : List (List UInt8)) : lsum (a ++ b) = lsum a + lsum b := by simp [lsum]
theorem lsum_q : ∀ qs : List QR, lsum ((qs.map proQ).map prnL) ≤ 5 * qsizes qs
  | [] => by simp [lsum, qsizes]
  | q :: qs => by
    have h1 := prn_len q
    have h2 := lsum_q qs
    have e : qsizes (q :: qs) = qsize q + qsizes qs := by simp [qsizes]
    have e2 : lsum (((q :: qs).map proQ).map prnL) = (prnL (proQ q)).length + 1 + lsum ((qs.map proQ).map prnL) := by simp [lsum]
    rw [e, e2]; omega
mutual
theorem lines_sum : ∀ r : CR, lsum (linesC (compOf r)) ≤ 12 * csize r
  | .mk nm A n c qs K k kc cs => by
    have h1 := lines_sums cs
    have h2 := lsum_q qs
    have hs := bsize nm
    rw [compOf, linesC, csize]
    have e : lsum ((beginT ++ 58 :: nm.data.toList) :: ((qs.map proQ).map prnL ++ (linesCs (compsOf cs) ++ [endT ++ 58 :: nm.data.toList]))) = (nm.size + 7) + (lsum ((qs.map proQ).map prnL) + (lsum (linesCs (compsOf cs)) + (nm.size + 5))) := by
      have e1 : ∀ (x : List UInt8) (l : List (List UInt8)), lsum (x :: l) = x.length + 1 + lsum l := fun x l => by simp [lsum]
      have e2 : lsum [] = 0 := rfl
      rw [e1, lsum_app, lsum_app, e1, e2, hs]
      simp only [List.length_append, List.length_cons, beginT, endT, List.length_nil]
      omega
    rw [e]; omega
theorem lines_sums : ∀ cs : List CR, lsum (linesCs (compsOf cs)) ≤ 12 * csizes cs
  | [] => by simp [compsOf, linesCs, lsum]
  | c :: cs => by
    have h1 := lines_sum c
    have h2 := lines_sums cs
    rw [compsOf, linesCs, csizes, lsum_app]
    omega
end
theorem vsize_lsum : ∀ bs : List ByteArray, vsize bs = lsum (bs.map fun b => b.data.toList)
  | [] => rfl
  | b :: bs => by
    have ih := vsize_lsum bs
    have hs := bsize b
    simp only [vsize, lsum, List.map_cons, List.sum_cons] at ih ⊢
    rw [ih, hs]

end Go.Proofs.YtlfhhnjdfpgadaaDoor
