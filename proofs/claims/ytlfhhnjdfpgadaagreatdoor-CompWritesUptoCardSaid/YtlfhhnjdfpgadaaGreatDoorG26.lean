/-
  The program's Parse.
-/
import Derived.Test.YtlfhhnjdfpgadaaGreatDoorG16
import Derived.Test.YtlfhhnjdfpgadaaGreatDoorG22
import Derived.Test.YtlfhhnjdfpgadaaGreatDoorG25
namespace Go.Proofs.YtlfhhnjdfpgadaaGreatDoor
open Go.RowKit

/-- A component as it lies in blocks from lo on: in any world in which these are as they were. -/
def COh (lo : Nat) (w : World) (r : CR) : Prop := ∀ W : World, w.heap.size ≤ W.heap.size → (∀ b, lo ≤ b → b < w.heap.size → W.heap[b]? = w.heap[b]?) → COk W W.heap.size r
theorem COh.ok {lo : Nat} {w : World} {r : CR} (h : COh lo w r) : COk w w.heap.size r := h w (Nat.le_refl _) (fun _ _ _ => rfl)
/-- What a call of Parse answers. -/
def CParAns (s : ByteArray) (w : World) (e : Ending) (w' : World) : Prop :=
  ∃ (r : CR) (k : Int), e = .returned (.tuple #[.agg #[(fC r).1, (fC r).2.1, (fC r).2.2], .int .i64 k]) ∧ COh w.heap.size w' r ∧ csize r ≤ 1048576 ∧ Below w.heap.size w w' ∧
    (match parC s.data.toList with
      | .ok c => k = 0 ∧ compOf r = c
      | .error e => k = e ∧ e ≠ 0)
theorem cpar_err {s : ByteArray} {w w' : World} {k : Int} (h : parC s.data.toList = .error k) (hk : k ≠ 0) (hb : Below w.heap.size w w') : CParAns s w (.returned (.tuple #[.agg #[.string ⟨#[]⟩, .slice none 0 0, .slice none 0 0], .int .i64 k])) w' :=
  ⟨.mk ⟨#[]⟩ none 0 0 [] none 0 0 [], k, rfl, fun W _ _ => .mk Reads.nil (fun q hq => (by cases hq)) (Nat.le_refl _) (by unfold maxLen; omega) Reads.nil (fun x hx => (by cases hx)) (Nat.le_refl _) (by unfold maxLen; omega), by decide, hb, by rw [h]; exact ⟨rfl, hk⟩⟩
theorem run_bad {fs : List Frm} {x : List UInt8} {xs : List (List UInt8)} (h : (parL x).2 ≠ 0) : endF (runF fs (x :: xs)) = .error (parL x).2 := by rw [runF, if_pos h]; rfl
theorem run_on {fs fs' : List Frm} {x : List UInt8} {xs : List (List UInt8)} (h : (parL x).2 = 0) (hs : stepF fs (parL x).1 = .ok fs') : endF (runF fs (x :: xs)) = endF (runF fs' xs) := by rw [runF, if_neg (by simp [h]), hs]
theorem run_stop {fs : List Frm} {x : List UInt8} {xs : List (List UInt8)} {e : Int} (h : (parL x).2 = 0) (hs : stepF fs (parL x).1 = .error e) : endF (runF fs (x :: xs)) = .error e := by rw [runF, if_neg (by simp [h]), hs]; rfl
theorem pinv_start (w2 : World) : PInv w2 w2.heap.size (w2.alloc (.cells #[.string ⟨#[]⟩, .slice none 0 0, .slice none 0 0] 25)) 0 [root []] (some ⟨w2.heap.size, 0, none⟩) 1 1 [.mk ⟨#[]⟩ none 0 0 [] none 0 0 []] (fun _ => False) := by
  refine ⟨World.ownsRow_lit w2 #[.string ⟨#[]⟩, .slice none 0 0, .slice none 0 0] 1 (Nat.le_refl _) (by unfold maxLen; omega) rfl, fun b _ h => h, ⟨fun _ => False, fun _ => False, fun b h => h, fun b h => h, fun b h => h.elim, ⟨own_nil, fun b hb => (by cases hb), own_nil, fun b hb => (by cases hb), fun q hq => (by cases hq), fun x hx => (by cases hx)⟩, trivial⟩, fun b h => h.elim, rfl, rfl, fun r hr => ?_, Nat.le_refl _, (Below.refl _ w2).alloc (Nat.le_refl _) _⟩
  rw [List.mem_singleton.1 hr]
  exact ⟨Nat.le_refl _, Nat.le_refl _⟩
theorem unmarked_iff {p : Pro} {n : Nat} {l : List PR} (hp : p.pars = l.map parOf) (hn : l.length = n) {b : Bool} (hb : b = true ↔ (n = 0 ∧ nameB (upL p.value) = true)) : unmarked p ↔ b = false := by
  unfold unmarked
  rw [hp]
  cases b with
  | true =>
    have := hb.1 rfl
    have h0 : l = [] := List.eq_nil_of_length_eq_zero (by omega)
    simp [h0, this.2]
  | false =>
    simp only [iff_true]
    by_cases h : n = 0
    · right
      cases hx : nameB (upL p.value) with
      | false => rfl
      | true => exact absurd (hb.2 ⟨h, hx⟩) (by simp)
    · left
      intro e
      have := congrArg List.length e
      simp only [List.length_map, List.length_nil] at this
      omega
theorem unfQ_len {s : List UInt8} (h : (unfQ s).2 = 0) : s.length ≤ 8192 := by
  unfold unfQ at h
  split at h
  · exact absurd h (by decide)
  · omega
theorem stepR_no {f : Frm} {p : Pro} (h : p.name ≠ beginT ∨ f.cs ≠ []) : stepF [f] p = .error 10 := by rw [stepF, if_pos h]
theorem stepR_un {f : Frm} {p : Pro} (h : p.name = beginT) (h2 : f.cs = []) (h3 : unmarked p) : stepF [f] p = .error 10 := by rw [stepF, if_neg (by simp [h, h2]), if_pos h3]
theorem stepR_ok {f : Frm} {p : Pro} (h : p.name = beginT) (h2 : f.cs = []) (h3 : ¬ unmarked p) : stepF [f] p = .ok [⟨upL p.value, [], []⟩, f] := by rw [stepF, if_neg (by simp [h, h2]), if_neg h3]
theorem step_prop {f g : Frm} {st : List Frm} {p : Pro} (h : p.name ≠ beginT) (h2 : p.name ≠ endT) : stepF (f :: g :: st) p = .ok ({ f with ps := f.ps ++ [p] } :: g :: st) := by rw [stepF, if_pos ⟨h, h2⟩]
theorem step_un {f g : Frm} {st : List Frm} {p : Pro} (h : ¬ (p.name ≠ beginT ∧ p.name ≠ endT)) (h3 : unmarked p) : stepF (f :: g :: st) p = .error 10 := by rw [stepF, if_neg h, if_pos h3]
theorem step_deep {f g : Frm} {st : List Frm} {p : Pro} (h : p.name = beginT) (h3 : ¬ unmarked p) (h4 : 12 ≤ st.length + 1) : stepF (f :: g :: st) p = .error 24 := by rw [stepF, if_neg (fun x => x.1 h), if_neg h3, if_pos h, if_pos h4]
theorem step_begin {f g : Frm} {st : List Frm} {p : Pro} (h : p.name = beginT) (h3 : ¬ unmarked p) (h4 : ¬ 12 ≤ st.length + 1) : stepF (f :: g :: st) p = .ok (⟨upL p.value, [], []⟩ :: f :: g :: st) := by rw [stepF, if_neg (fun x => x.1 h), if_neg h3, if_pos h, if_neg h4]
theorem step_match {f g : Frm} {st : List Frm} {p : Pro} (h : p.name ≠ beginT) (h2 : p.name = endT) (h3 : ¬ unmarked p) (h4 : upL p.value ≠ f.name) : stepF (f :: g :: st) p = .error 31 := by rw [stepF, if_neg (fun x => x.2 h2), if_neg h3, if_neg h, if_pos h4]
theorem step_end {f g : Frm} {st : List Frm} {p : Pro} (h : p.name ≠ beginT) (h2 : p.name = endT) (h3 : ¬ unmarked p) (h4 : upL p.value = f.name) : stepF (f :: g :: st) p = .ok ({ g with cs := g.cs ++ [f.whole] } :: st) := by rw [stepF, if_neg (fun x => x.2 h2), if_neg h3, if_neg h, if_neg (by simp [h4])]
theorem prop_blk {w wr wa w7 : World} {B i g C N : Nat} {F : Nat → Prop} {fs : List Frm} {rn : ByteArray} {rA rK : Option Addr} {ra rac rk rkc : Nat} {rqs : List QR} {rcs st : List CR} (h : PInv w B wr i fs (some ⟨g, 0, none⟩) N C (.mk rn rA ra rac rqs rK rk rkc rcs :: st) F) (hba : Below wr.heap.size wr wa) (hg7 : wa.grownBy w7 (Value.slice rA ra rac).ownBlock) : w7.heap[g]? = wr.heap[g]? := by
  obtain ⟨F1, F2, h1, h2, h3, h4, h5⟩ := h.st
  have h4 : FrOk F1 wr B rA ra rac rqs rK rk rkc rcs := h4
  have hgl : g < wr.heap.size := own_rowlt h.row g rfl
  exact (hg7.block g (Nat.lt_of_lt_of_le hgl hba.size) (fun e => h.rF g rfl (h1 g (h4.fa g e.symm)))).trans (hba.block g hgl)
theorem prop_cell {w wr wa w7 : World} {B i g C N o : Nat} {v : Value} {F : Nat → Prop} {fs : List Frm} {rn : ByteArray} {rA rK : Option Addr} {ra rac rk rkc : Nat} {rqs : List QR} {rcs st : List CR} (h : PInv w B wr i fs (some ⟨g, 0, none⟩) N C (.mk rn rA ra rac rqs rK rk rkc rcs :: st) F) (hba : Below wr.heap.size wr wa) (hg7 : wa.grownBy w7 (Value.slice rA ra rac).ownBlock)
    (hv : wr.cell? ⟨g, o, none⟩ = some v) : w7.cell? ⟨g, o, none⟩ = some v := (World.cell?_of_block (a := ⟨g, o, none⟩) (prop_blk h hba hg7)).trans hv
theorem prop_frozen {w wr wa w7 : World} {B i g C N : Nat} {F : Nat → Prop} {fs : List Frm} {rn : ByteArray} {rA rK : Option Addr} {ra rac rk rkc : Nat} {rqs : List QR} {rcs st : List CR} (h : PInv w B wr i fs (some ⟨g, 0, none⟩) N C (.mk rn rA ra rac rqs rK rk rkc rcs :: st) F) (hba : Below wr.heap.size wr wa) (hg7 : wa.grownBy w7 (Value.slice rA ra rac).ownBlock)
    (o : Nat) : w7.frozen? ⟨g, o, none⟩ = false := (World.frozen?_of_block (a := ⟨g, o, none⟩) (prop_blk h hba hg7)).trans (World.ownsRow.frozenAt h.row o)
/-- The innermost one's cells. -/
def TopC (w : World) (g M : Nat) (rn : ByteArray) (rA : Option Addr) (ra rac : Nat) (rK : Option Addr) (rk rkc : Nat) : Prop := w.cell? ⟨g, M * 3, none⟩ = some (.string rn) ∧ w.cell? ⟨g, M * 3 + 1, none⟩ = some (.slice rA ra rac) ∧ w.cell? ⟨g, M * 3 + 2, none⟩ = some (.slice rK rk rkc)
theorem TopC.step {w w' : World} {g M : Nat} {rn : ByteArray} {rA : Option Addr} {ra rac : Nat} {rK : Option Addr} {rk rkc : Nat} (h : TopC w g M rn rA ra rac rK rk rkc) (hb : Below w.heap.size w w') : TopC w' g M rn rA ra rac rK rk rkc := ⟨cell_keep h.1 hb, cell_keep h.2.1 hb, cell_keep h.2.2 hb⟩
theorem topC {w wr : World} {B i g M C : Nat} {fs : List Frm} {F : Nat → Prop} {rn : ByteArray} {rA rK : Option Addr} {ra rac rk rkc : Nat} {rqs : List QR} {rcs st : List CR} (h : PInv w B wr i fs (some ⟨g, 0, none⟩) (M + 1) C (.mk rn rA ra rac rqs rK rk rkc rcs :: st) F) : TopC wr g M rn rA ra rac rK rk rkc := by
  obtain ⟨g', hge, _, _, _, hcc⟩ := own_cells h.row (by omega)
  have hgg : g' = g := by injection hge with hge; injection hge with hge; exact hge.symm
  rw [hgg] at hcc
  have hl : st.length = M := by have := h.ln; simp only [List.length_cons] at this; omega
  have hx : ((.mk rn rA ra rac rqs rK rk rkc rcs :: st : List CR).reverse)[M]? = some (.mk rn rA ra rac rqs rK rk rkc rcs) := by
    rw [List.reverse_cons, List.getElem?_append_right (by simp [hl]), show (M - st.reverse.length) = 0 by simp [hl]]
    rfl
  obtain ⟨e0, e1, e2⟩ := enc3_get (f := fC) hx
  exact ⟨hcc _ _ e0, hcc _ _ e1, hcc _ _ e2⟩
theorem top_lens {w wr : World} {B i g M C : Nat} {fs : List Frm} {F : Nat → Prop} {rn : ByteArray} {rA rK : Option Addr} {ra rac rk rkc : Nat} {rqs : List QR} {rcs st : List CR} (h : PInv w B wr i fs (some ⟨g, 0, none⟩) (M + 1) C (.mk rn rA ra rac rqs rK rk rkc rcs :: st) F) : rcs.length = rk ∧ ra ≤ i ∧ rk ≤ i ∧ wr.ownsRow B 30 3 (.slice rA ra rac) ra (enc3 fQ rqs) := by
  obtain ⟨F1, F2, h1, h2, h3, h4, h5⟩ := h.st
  have h4 : FrOk F1 wr B rA ra rac rqs rK rk rkc rcs := h4
  have := h.ct _ (List.mem_cons_self ..)
  exact ⟨by have := h4.rk.1; rw [enc3_length] at this; omega, this.1, this.2, h4.ra⟩
theorem lit_begin : (⟨#[66, 69, 71, 73, 78]⟩ : ByteArray).data.toList = beginT := rfl
theorem lit_end : (⟨#[69, 78, 68]⟩ : ByteArray).data.toList = endT := rfl

set_option maxRecDepth 100000 in
set_option maxHeartbeats 8000000 in
theorem cParse_x (s : ByteArray) (w : World) (hs : s.size ≤ 1048576) (hf : Forms w) (hM : MaxLn w) : Calls Tryz.prog 20 #[.string s] w (CParAns s w) := by
  have hmx : Tryz.prog.follows .mixedOrders = true := by kernel_rfl
  have ha := (Below.refl w.heap.size w).alloc (Nat.le_refl _) (.cells #[.string ⟨#[]⟩, .slice none 0 0, .slice none 0 0] 25)
  have R0 := Lib.hid (C3.new w ⟨#[]⟩ none 0 0 none 0 0)
  have cu := pUnfold_x s (by omega) _ (hM.step ha)
  have HF0 := Lib.hid hf
  have HA := Lib.hid ha
  clear ha hf hM hs
  go_enter Tryz.func20, Tryz.ntmps20
  go_wp2
  go_step3
  go_wp2_with fail
  refine cu.mono ?_
  rintro e w2 ⟨A, n, c, bs, rfl, hbs, hR, hnc, hc, hb2⟩
  have RS := Lib.hid (R0.out.step hb2)
  have R0L := Lib.hid RS.out.lt
  have HB2 := Lib.hid (bstep HA.out hb2)
  obtain ⟨k, hk⟩ : ∃ k, (unfQ s.data.toList).2 = k := ⟨_, rfl⟩
  rw [hk]
  have HU := Lib.hid hk
  clear cu hb2 R0 HA hk
  by_cases hk0 : k = 0
  · subst hk0
    have HRD := Lib.hid hR
    have HBS := Lib.hid hbs
    have HFM := Lib.hid (HF0.out.step HB2.out)
    have HPC := Lib.hid (parC_run s.data.toList HU.out)
    obtain ⟨u1, u2, u3⟩ := unfQ_snd (s := s.data.toList) (ls := (unfQ s.data.toList).1) (by rw [← HU.out])
    have HLN := Lib.hid hR.lenS
    have hn4 : n ≤ 400 := by
      have h1 := congrArg List.length hbs
      rw [List.length_map] at h1
      have h2 := HLN.out
      omega
    have hnm : n ≤ 9223372036854775807 := by omega
    clear hbs hR u1 u2 u3 hnc hc HF0
    go_upto_region 5 with fail
    have P0 := Lib.hid (pinv_start w2)
    obtain ⟨i0, hi0, hz0, hz1, hz2⟩ := info_parts infoC
    obtain ⟨j0, hj0, hy0, hy1, hy2⟩ := info_parts infoQ
    have HR0 := Lib.hid (show endF (runF [root []] ((bs.drop 0).map fun b => b.data.toList)) = parC s.data.toList by rw [HPC.out, List.drop_zero, HBS.out])
    generalize w2.alloc (.cells #[.string ⟨#[]⟩, .slice none 0 0, .slice none 0 0] 25) = w3 at P0 ⊢
    clear HPC
    go_step3
    go_wp2
    go_loopw [6, 27] (fun s6 s27 wr => ∃ (i : Nat) (fs : List Frm) (R : Option Addr) (N C : Nat) (crs : List CR) (F : Nat → Prop), s6 = .slice R N C ∧ s27 = .int .i64 i ∧ i ≤ n ∧ Hid (PInv w2 w2.heap.size wr i fs R N C crs F) ∧ Hid (endF (runF fs ((bs.drop i).map fun b => b.data.toList)) = parC s.data.toList) ∧ Hid (1 ≤ N ∧ N ≤ i + 1)) (fun _ s27 _ => n - (intOf s27).toNat)
    case atStart => exact ⟨0, _, _, 1, 1, _, _, rfl, rfl, Nat.zero_le _, P0, HR0, Lib.hid ⟨Nat.le_refl _, Nat.le_refl _⟩⟩
    case round =>
      clear P0 HR0
      obtain ⟨i, fs, R, N, C, crs, F, rfl, rfl, hi, HP, HRN, HNI⟩ := hrel
      by_cases hlt : i < n
      · obtain ⟨b1, o1, rfl, _, g1⟩ := (HRD.out.step HP.out.bel).str hlt
        obtain ⟨x, hx⟩ : ∃ x, blk bs i = x := ⟨_, rfl⟩
        rw [hx] at g1
        have hbi : bs[i]? = some x := by
          rw [← hx]; unfold blk
          rw [List.getD_eq_getElem?_getD, List.getElem?_eq_getElem (by have := HLN.out; omega)]; rfl
        have hil : i < bs.length := (List.getElem?_eq_some_iff.1 hbi).1
        have hxe : bs[i] = x := Option.some.inj ((List.getElem?_eq_getElem hil).symm.trans hbi)
        have HRX := Lib.hid (show endF (runF fs (x.data.toList :: (bs.drop (i + 1)).map fun b => b.data.toList)) = parC s.data.toList by
          rw [← HRN.out, List.drop_eq_getElem_cons hil, List.map_cons, hxe])
        have cp := pParse_anyF x wr (HFM.out.step HP.out.bel)
        clear hx hbi hil hxe HRN
        obtain ⟨M, rfl⟩ : ∃ M, N = M + 1 := ⟨N - 1, by have := HNI.out; omega⟩
        obtain ⟨g, hRe, -⟩ := own_cells HP.out.row (Nat.succ_pos M)
        subst hRe
        obtain ⟨⟨rn, rA, ra, rac, rqs, rK, rk, rkc, rcs⟩, st, rfl⟩ : ∃ r st, crs = r :: st := by
          cases crs with
          | nil => have := HP.out.ln; simp at this
          | cons r st => exact ⟨r, st, rfl⟩
        obtain ⟨fs2, rfl⟩ : ∃ fs2, fs = frmOf (.mk rn rA ra rac rqs rK rk rkc rcs) :: fs2 := ⟨st.map frmOf, by rw [← HP.out.fr]; rfl⟩
        have HFS := Lib.hid (show st.map frmOf = fs2 by have := HP.out.fr; rw [List.map_cons] at this; injection this)
        have HTL := Lib.hid (And.intro (top_lens HP.out).1 (And.intro (top_lens HP.out).2.1 (top_lens HP.out).2.2.1))
        have hM4 : M ≤ 400 := by have := HNI.out; omega
        have m1 : (M : Int) + 1 - 1 = (M : Int) := by omega
        have m3 : ¬ (M : Int) < 0 := by omega
        have m4 : (M : Int) < (M : Int) + 1 := by omega
        go_wp2_with fail
        refine cp.mono ?_
        rintro e w4 ⟨nm, vl, L, np, nc, l, rfl, hpq, hph, hle, hcap, hb4⟩
        have hb5 : Below w4.heap.size w4 (w4.alloc (.cells #[.string nm, .slice L np nc, .string vl] 30)) := (Below.refl _ _).alloc (Nat.le_refl _) _
        have HP5 := Lib.hid (HP.out.step (bstep hb4 hb5))
        have HX5 := Lib.hid ((topC HP.out).step (bstep hb4 hb5))
        have X5 := Lib.hid (P3.new w4 nm vl L np nc)
        have HQH : Hid (Held (fun b => wr.heap.size ≤ b) w4 (fun W => QOk W W.heap.size ⟨nm, L, np, nc, vl, l⟩)) := Lib.hid (fun W h1 h2 => have h3 := hph W h1 h2; ⟨h3.1, h3.2, hle, hcap⟩)
        have HLP : Hid (l.length = np) := Lib.hid (by have := (hph w4 (Nat.le_refl _) (fun _ _ _ => rfl)).1.1; rw [encP_length] at this; omega)
        have HX4 := Lib.hid hb5.size
        have HX4b := Lib.hid hb5
        have HW4 := Lib.hid hb4
        obtain ⟨k, hk⟩ : ∃ k, (parL x.data.toList).2 = k := ⟨_, rfl⟩
        rw [hk]
        have HPQ := Lib.hid hpq
        have HW45 := Lib.hid (bstep hb4 hb5)
        clear cp hpq hph hle hcap hb4 hb5 g1
        go_upto_region 10 with fail
        obtain ⟨w5, hw5⟩ : ∃ w5, w4.alloc (.cells #[.string nm, .slice L np nc, .string vl] 30) = w5 := ⟨_, rfl⟩
        rw [hw5] at HP5 HX5 X5 HX4 HX4b HW45 ⊢
        clear hw5
        obtain ⟨X4, hX4⟩ : ∃ X, w4.heap.size = X := ⟨_, rfl⟩
        rw [hX4] at X5 ⊢
        clear hX4
        obtain ⟨x0, x1, x2⟩ := HX5.out
        obtain ⟨q0, q1, q2⟩ := X5.out.cells
        by_cases hk0 : k = 0
        · subst hk0
          have HK0 := Lib.hid hk
          clear hk
          have HVL : Hid (vl.size ≤ 1048576) := Lib.hid (by
            have h1 := parL_snd (l := x.data.toList) (p := (parL x.data.toList).1) (by rw [← HK0.out])
            rw [HPQ.out] at h1
            have h2 := h1.1.2.2.2.2
            simp only [textL, List.length_append, List.length_cons] at h2
            rw [bsize vl]; omega)
          have g1 := strNe nm ⟨#[66, 69, 71, 73, 78]⟩
          have f1 := strEqL nm ⟨#[66, 69, 71, 73, 78]⟩
          have t1 : (⟨#[66, 69, 71, 73, 78]⟩ : ByteArray).toList = [66, 69, 71, 73, 78] := by simp
          rw [t1, lit_begin] at g1 f1
          have g2 := strNe nm ⟨#[69, 78, 68]⟩
          have t2 : (⟨#[69, 78, 68]⟩ : ByteArray).toList = [69, 78, 68] := by simp
          have f2 := strEqL nm ⟨#[69, 78, 68]⟩
          rw [t2, lit_end] at g2 f2
          clear t1 t2
          by_cases hN1 : M = 0
          · have m5 : ((M : Int) + 1 == 1) = true := by rw [beq_iff_eq]; omega
            obtain rfl : fs2 = [] := (by have h1 := HFS.out; have h2 := HP5.out.ln; simp only [List.length_cons] at h2; have h3 : st = [] := List.eq_nil_of_length_eq_zero (by omega); rw [← h1, h3]; rfl)
            have HN1 := Lib.hid hN1
            clear hN1
            by_cases hnb : nm.data.toList = beginT
            · rw [decide_eq_true hnb, Bool.not_true] at g1
              rw [decide_eq_true hnb] at f1
              by_cases hrk : rk = 0
              · have m6 : ¬ ((rk : Int) > 0) := by omega
                have m7 : ¬ (0 < rk) := by omega
                have m8 : decide ((0 : Int) < (rk : Int)) = false := by simp; omega
                have m9 : decide (0 < rk) = false := by simp; omega
                have HCN : Hid (rcs.map compOf = []) := Lib.hid (by rw [List.eq_nil_of_length_eq_zero (show rcs.length = 0 by rw [HTL.out.1]; exact hrk)]; rfl)
                have HRK := Lib.hid hrk
                clear hrk
                have HNB := Lib.hid hnb
                clear hnb
                clear g2 f2
                have cm := marked_any nm vl L np nc w5 HVL.out (HFM.out.step HP5.out.bel)
                go_upto_region 17 with (go_at_call 34; refine cm.mono ?_; rintro e w6 ⟨tn, bk, rfl, hbk, htn, hb6⟩)
                have HP6 := Lib.hid (HP5.out.step hb6)
                have HX6 := Lib.hid (HX5.out.step hb6)
                have X6 := Lib.hid (X5.out.step hb6)
                have HBK := Lib.hid (unmarked_iff (p := (⟨nm.data.toList, l.map parOf, vl.data.toList⟩ : Pro)) (n := np) (l := l) rfl HLP.out (b := bk) hbk)
                have HTN := Lib.hid htn
                clear cm hbk htn hb6 HP5 HX5 X5 x0 x1 x2 q0 q1 q2
                obtain ⟨x0, x1, x2⟩ := HX6.out
                obtain ⟨q0, q1, q2⟩ := X6.out.cells
                cases bk
                · have HE := Lib.hid (show parC s.data.toList = .error 10 from (HRX.out.symm.trans (run_stop HK0.out (by rw [HPQ.out]; exact stepR_un HNB.out HCN.out (HBK.out.2 rfl)))))
                  have RS := Lib.hid (RS.out.step HP6.out.bel)
                  have HB9 := Lib.hid (bstep HB2.out HP6.out.bel)
                  obtain ⟨r0, r1, r2⟩ := RS.out.cells
                  have rf := fun o => RS.out.frozen o
                  have r := RS.out
                  unfold C3 at r
                  have e0 := set_same (i := 0) (v := .string ⟨#[]⟩) r rfl
                  have e1 := set_same (i := 1) (v := .slice none 0 0) r rfl
                  have e2 := set_same (i := 2) (v := .slice none 0 0) r rfl
                  have LP := Lib.hid (load_comp RS.out)
                  clear r
                  go_wp2
                  try rw [Exit.noGoto_ret]
                  refine bodyPost_ret (results_two rfl _ rfl rfl LP.out) rfl ?_
                  exact cpar_err HE.out (by decide) HB9.out
                · have m10 : ¬ ((12 : Int) < (M : Int) + 1) := by have := HN1.out; omega
                  have m11 : decide ((12 : Int) < (M : Int) + 1) = false := by rw [decide_eq_false_iff_not]; exact m10
                  go_wp2_with (at_builtin; refine wpList_append_reads _ rfl _ _ 23 rfl w2.heap.size 25 i0 (.agg #[.string ⟨#[]⟩, .slice none 0 0, .slice none 0 0]) 3 64 Tryz.underlying23 hi0 hz0 hz1 hz2 rfl (by decide) _ _ _ rfl (own_alloc HP6.out.row _) _ (some ⟨w6.heap.size, 0, none⟩) 1 1 [.string tn, .slice none 0 0, .slice none 0 0] rfl (reads_new w6 #[.string tn, .slice none 0 0, .slice none 0 0] 25 1 3 rfl) (by simp [Value.oneCell']) (by unfold maxLen; omega) (by omega) (by have := HP6.out.bel.size; simp; omega) ?_; intro R7 C7 w7 hrow7 hg7 hor7)
                  have HP8 := Lib.hid (PInv.begun HP6.out ((Below.refl w6.heap.size w6).alloc (Nat.le_refl _) (.cells #[.string tn, .slice none 0 0, .slice none 0 0] 25)) hg7 hrow7 hor7)
                  rw [HTN.out rfl] at HP8
                  have HR8 := Lib.hid ((run_on HK0.out (by rw [HPQ.out]; exact stepR_ok HNB.out HCN.out (fun e => absurd (HBK.out.1 e) (by simp)))).symm.trans HRX.out)
                  clear hrow7 hg7 hor7 HP6
                  go_round
                  case rel => exact ⟨i + 1, _, R7, M + 1 + 1, C7, _, _, rfl, by go_num, by omega, HP8, HR8, Lib.hid ⟨by omega, by have := HNI.out; omega⟩⟩
                  case measure => simp [intOf]; omega
              · have m6 : (0 : Int) < (rk : Int) := by omega
                have m7 : 0 < rk := by omega
                have m8 : decide ((0 : Int) < (rk : Int)) = true := by simp; omega
                have HCN : Hid (rcs.map compOf ≠ []) := Lib.hid (fun e => hrk (by rw [← HTL.out.1, List.map_eq_nil_iff.1 e]; rfl))
                clear hrk
                have HE := Lib.hid (show parC s.data.toList = .error 10 from (HRX.out.symm.trans (run_stop HK0.out (by rw [HPQ.out]; exact stepR_no (.inr HCN.out)))))
                have RS := Lib.hid (RS.out.step HP5.out.bel)
                have HB9 := Lib.hid (bstep HB2.out HP5.out.bel)
                obtain ⟨r0, r1, r2⟩ := RS.out.cells
                have rf := fun o => RS.out.frozen o
                have r := RS.out
                unfold C3 at r
                have e0 := set_same (i := 0) (v := .string ⟨#[]⟩) r rfl
                have e1 := set_same (i := 1) (v := .slice none 0 0) r rfl
                have e2 := set_same (i := 2) (v := .slice none 0 0) r rfl
                have LP := Lib.hid (load_comp RS.out)
                clear r
                go_wp2
                try rw [Exit.noGoto_ret]
                refine bodyPost_ret (results_two rfl _ rfl rfl LP.out) rfl ?_
                exact cpar_err HE.out (by decide) HB9.out
            · rw [decide_eq_false hnb, Bool.not_false] at g1
              rw [decide_eq_false hnb] at f1
              have HNB := Lib.hid hnb
              clear hnb g2 f2
              have HE := Lib.hid (show parC s.data.toList = .error 10 from (HRX.out.symm.trans (run_stop HK0.out (by rw [HPQ.out]; exact stepR_no (.inl HNB.out)))))
              have RS := Lib.hid (RS.out.step HP5.out.bel)
              have HB9 := Lib.hid (bstep HB2.out HP5.out.bel)
              obtain ⟨r0, r1, r2⟩ := RS.out.cells
              have rf := fun o => RS.out.frozen o
              have r := RS.out
              unfold C3 at r
              have e0 := set_same (i := 0) (v := .string ⟨#[]⟩) r rfl
              have e1 := set_same (i := 1) (v := .slice none 0 0) r rfl
              have e2 := set_same (i := 2) (v := .slice none 0 0) r rfl
              have LP := Lib.hid (load_comp RS.out)
              clear r
              go_wp2
              try rw [Exit.noGoto_ret]
              refine bodyPost_ret (results_two rfl _ rfl rfl LP.out) rfl ?_
              exact cpar_err HE.out (by decide) HB9.out
          · have m5 : ((M : Int) + 1 == 1) = false := by rw [beq_eq_false_iff_ne]; omega
            obtain ⟨M2, rfl⟩ : ∃ M2, M = M2 + 1 := ⟨M - 1, by omega⟩
            clear hN1
            obtain ⟨⟨pn, pA, pa, pac, pqs, pK, pk, pkc, pcs⟩, st2, rfl⟩ : ∃ r st2, st = r :: st2 := by
              cases st with
              | nil => have := HP5.out.ln; simp at this
              | cons r st2 => exact ⟨r, st2, rfl⟩
            obtain ⟨fs3, rfl⟩ : ∃ fs3, fs2 = frmOf (.mk pn pA pa pac pqs pK pk pkc pcs) :: fs3 := ⟨st2.map frmOf, by rw [← HFS.out]; rfl⟩
            have HL3 : Hid (fs3.length = M2) := Lib.hid (by have h1 := HFS.out; have h2 := HP5.out.ln; simp only [List.length_cons] at h2; rw [List.map_cons] at h1; injection h1 with _ h1; rw [← h1, List.length_map]; omega)
            by_cases hnb : nm.data.toList = beginT
            · rw [decide_eq_true hnb, Bool.not_true] at g1
              rw [decide_eq_true hnb] at f1
              clear g2 f2
              have HNB := Lib.hid hnb
              clear hnb
              have cm := marked_any nm vl L np nc w5 HVL.out (HFM.out.step HP5.out.bel)
              go_upto_region 17 with (go_at_call 34; refine cm.mono ?_; rintro e w6 ⟨tn, bk, rfl, hbk, htn, hb6⟩)
              have HP6 := Lib.hid (HP5.out.step hb6)
              have HX6 := Lib.hid (HX5.out.step hb6)
              have X6 := Lib.hid (X5.out.step hb6)
              have HBK := Lib.hid (unmarked_iff (p := (⟨nm.data.toList, l.map parOf, vl.data.toList⟩ : Pro)) (n := np) (l := l) rfl HLP.out (b := bk) hbk)
              have HTN := Lib.hid htn
              clear cm hbk htn hb6 HP5 HX5 X5 x0 x1 x2 q0 q1 q2
              obtain ⟨x0, x1, x2⟩ := HX6.out
              obtain ⟨q0, q1, q2⟩ := X6.out.cells
              cases bk
              · have HE := Lib.hid (show parC s.data.toList = .error 10 from (HRX.out.symm.trans (run_stop HK0.out (by rw [HPQ.out]; exact step_un (fun h => h.1 HNB.out) (HBK.out.2 rfl)))))
                have RS := Lib.hid (RS.out.step HP6.out.bel)
                have HB9 := Lib.hid (bstep HB2.out HP6.out.bel)
                obtain ⟨r0, r1, r2⟩ := RS.out.cells
                have rf := fun o => RS.out.frozen o
                have r := RS.out
                unfold C3 at r
                have e0 := set_same (i := 0) (v := .string ⟨#[]⟩) r rfl
                have e1 := set_same (i := 1) (v := .slice none 0 0) r rfl
                have e2 := set_same (i := 2) (v := .slice none 0 0) r rfl
                have LP := Lib.hid (load_comp RS.out)
                clear r
                go_wp2
                try rw [Exit.noGoto_ret]
                refine bodyPost_ret (results_two rfl _ rfl rfl LP.out) rfl ?_
                exact cpar_err HE.out (by decide) HB9.out
              · by_cases h12 : 12 < M2 + 1 + 1
                · have m12 : (12 : Int) < (M2 : Int) + 1 + 1 := by omega
                  have m11 : decide ((12 : Int) < (M2 : Int) + 1 + 1) = true := decide_eq_true m12
                  have H12 := Lib.hid h12
                  have HE := Lib.hid (show parC s.data.toList = .error 24 from (HRX.out.symm.trans (run_stop HK0.out (by rw [HPQ.out]; exact step_deep HNB.out (fun e => absurd (HBK.out.1 e) (by simp)) (by rw [HL3.out]; have := H12.out; omega)))))
                  have RS := Lib.hid (RS.out.step HP6.out.bel)
                  have HB9 := Lib.hid (bstep HB2.out HP6.out.bel)
                  obtain ⟨r0, r1, r2⟩ := RS.out.cells
                  have rf := fun o => RS.out.frozen o
                  have r := RS.out
                  unfold C3 at r
                  have e0 := set_same (i := 0) (v := .string ⟨#[]⟩) r rfl
                  have e1 := set_same (i := 1) (v := .slice none 0 0) r rfl
                  have e2 := set_same (i := 2) (v := .slice none 0 0) r rfl
                  have LP := Lib.hid (load_comp RS.out)
                  clear r
                  go_wp2
                  try rw [Exit.noGoto_ret]
                  refine bodyPost_ret (results_two rfl _ rfl rfl LP.out) rfl ?_
                  exact cpar_err HE.out (by decide) HB9.out
                · have m12 : ¬ (12 : Int) < (M2 : Int) + 1 + 1 := by omega
                  have m11 : decide ((12 : Int) < (M2 : Int) + 1 + 1) = false := decide_eq_false m12
                  have H12 := Lib.hid h12
                  go_wp2_with (at_builtin; refine wpList_append_reads _ rfl _ _ 23 rfl w2.heap.size 25 i0 (.agg #[.string ⟨#[]⟩, .slice none 0 0, .slice none 0 0]) 3 64 Tryz.underlying23 hi0 hz0 hz1 hz2 rfl (by decide) _ _ _ rfl (own_alloc HP6.out.row _) _ (some ⟨w6.heap.size, 0, none⟩) 1 1 [.string tn, .slice none 0 0, .slice none 0 0] rfl (reads_new w6 #[.string tn, .slice none 0 0, .slice none 0 0] 25 1 3 rfl) (by simp [Value.oneCell']) (by unfold maxLen; omega) (by omega) (by have := HP6.out.bel.size; simp; omega) ?_; intro R7 C7 w7 hrow7 hg7 hor7)
                  have HP8 := Lib.hid (PInv.begun HP6.out ((Below.refl w6.heap.size w6).alloc (Nat.le_refl _) (.cells #[.string tn, .slice none 0 0, .slice none 0 0] 25)) hg7 hrow7 hor7)
                  rw [HTN.out rfl] at HP8
                  have HR8 := Lib.hid ((run_on HK0.out (by rw [HPQ.out]; exact step_begin HNB.out (fun e => absurd (HBK.out.1 e) (by simp)) (by rw [HL3.out]; have := H12.out; omega))).symm.trans HRX.out)
                  clear hrow7 hg7 hor7 HP6
                  go_round
                  case rel => exact ⟨i + 1, _, R7, M2 + 1 + 1 + 1, C7, _, _, rfl, by go_num, by omega, HP8, HR8, Lib.hid ⟨by omega, by have := HNI.out; omega⟩⟩
                  case measure => simp [intOf]; omega
            · rw [decide_eq_false hnb, Bool.not_false] at g1
              rw [decide_eq_false hnb] at f1
              by_cases hne : nm.data.toList = endT
              · rw [decide_eq_true hne, Bool.not_true] at g2
                rw [decide_eq_true hne] at f2
                have HNB := Lib.hid hnb
                have HNE := Lib.hid hne
                clear hnb hne
                have cm := marked_any nm vl L np nc w5 HVL.out (HFM.out.step HP5.out.bel)
                go_upto_region 17 with (go_at_call 34; refine cm.mono ?_; rintro e w6 ⟨tn, bk, rfl, hbk, htn, hb6⟩)
                have HP6 := Lib.hid (HP5.out.step hb6)
                have HX6 := Lib.hid (HX5.out.step hb6)
                have X6 := Lib.hid (X5.out.step hb6)
                have HBK := Lib.hid (unmarked_iff (p := (⟨nm.data.toList, l.map parOf, vl.data.toList⟩ : Pro)) (n := np) (l := l) rfl HLP.out (b := bk) hbk)
                have HTN := Lib.hid htn
                clear cm hbk htn hb6 HP5 HX5 X5 x0 x1 x2 q0 q1 q2
                obtain ⟨x0, x1, x2⟩ := HX6.out
                obtain ⟨q0, q1, q2⟩ := X6.out.cells
                cases bk
                · have HE := Lib.hid (show parC s.data.toList = .error 10 from (HRX.out.symm.trans (run_stop HK0.out (by rw [HPQ.out]; exact step_un (fun h => h.2 HNE.out) (HBK.out.2 rfl)))))
                  have RS := Lib.hid (RS.out.step HP6.out.bel)
                  have HB9 := Lib.hid (bstep HB2.out HP6.out.bel)
                  obtain ⟨r0, r1, r2⟩ := RS.out.cells
                  have rf := fun o => RS.out.frozen o
                  have r := RS.out
                  unfold C3 at r
                  have e0 := set_same (i := 0) (v := .string ⟨#[]⟩) r rfl
                  have e1 := set_same (i := 1) (v := .slice none 0 0) r rfl
                  have e2 := set_same (i := 2) (v := .slice none 0 0) r rfl
                  have LP := Lib.hid (load_comp RS.out)
                  clear r
                  go_wp2
                  try rw [Exit.noGoto_ret]
                  refine bodyPost_ret (results_two rfl _ rfl rfl LP.out) rfl ?_
                  exact cpar_err HE.out (by decide) HB9.out
                · have g3 := strNe tn rn
                  have f3 := strEqL tn rn
                  rw [HTN.out rfl] at g3 f3
                  by_cases hnn : upL vl.data.toList = rn.data.toList
                  · rw [decide_eq_true hnn, Bool.not_true] at g3
                    rw [decide_eq_true hnn] at f3
                    have HNN := Lib.hid hnn
                    clear hnn
                    have cz := ended_any (M := M2) HP6.out (by omega) (by have := HNI.out; omega)
                    go_upto_region 26 with (go_at_call 35; refine cz.mono ?_; rintro e w7 ⟨rfl, crs7, F7, hp7⟩)
                    have HP8 := Lib.hid hp7
                    have HR8 := Lib.hid ((run_on HK0.out (by rw [HPQ.out]; exact step_end HNB.out HNE.out (fun e => absurd (HBK.out.1 e) (by simp)) HNN.out)).symm.trans HRX.out)
                    clear cz hp7 HP6 HX6 X6 x0 x1 x2 q0 q1 q2
                    go_wp2
                    go_round
                    case rel => exact ⟨i + 1, _, _, M2 + 1, C, _, _, rfl, by go_num, by omega, HP8, HR8, Lib.hid ⟨by omega, by have := HNI.out; omega⟩⟩
                    case measure => simp [intOf]; omega
                  · rw [decide_eq_false hnn, Bool.not_false] at g3
                    rw [decide_eq_false hnn] at f3
                    have HNN := Lib.hid hnn
                    clear hnn
                    have HE := Lib.hid (show parC s.data.toList = .error 31 from (HRX.out.symm.trans (run_stop HK0.out (by rw [HPQ.out]; exact step_match HNB.out HNE.out (fun e => absurd (HBK.out.1 e) (by simp)) HNN.out))))
                    have RS := Lib.hid (RS.out.step HP6.out.bel)
                    have HB9 := Lib.hid (bstep HB2.out HP6.out.bel)
                    obtain ⟨r0, r1, r2⟩ := RS.out.cells
                    have rf := fun o => RS.out.frozen o
                    have r := RS.out
                    unfold C3 at r
                    have e0 := set_same (i := 0) (v := .string ⟨#[]⟩) r rfl
                    have e1 := set_same (i := 1) (v := .slice none 0 0) r rfl
                    have e2 := set_same (i := 2) (v := .slice none 0 0) r rfl
                    have LP := Lib.hid (load_comp RS.out)
                    clear r
                    go_wp2
                    try rw [Exit.noGoto_ret]
                    refine bodyPost_ret (results_two rfl _ rfl rfl LP.out) rfl ?_
                    exact cpar_err HE.out (by decide) HB9.out
              · rw [decide_eq_false hne, Bool.not_false] at g2
                rw [decide_eq_false hne] at f2
                have HNB := Lib.hid hnb
                have HNE := Lib.hid hne
                clear hnb hne
                have XX := Lib.hid HX5.out
                have QQ := Lib.hid X5.out.cells
                go_upto_region 15 with fail
                clear x0 x1 x2 q0 q1 q2
                refine wp_region_till (fun _ => True) 999 11 hmx (by kernel_rfl) ?_
                have HS : Below w5.heap.size w5 w5.drew := (Below.refl _ _).drew
                refine till_any (i := 0) _ (.pointer (some ⟨g, (M2 + 1) * 3, none⟩)) rfl (by kernel_rfl) (by kernel_rfl) (by kernel_rfl) (fun _ _ _ h => h) (.inl ⟨by rfl, fun w' hS => ?_⟩) ?_
                · go_simp
                try simp only [Act.put, List.setIfInBounds_toArray, List.set_cons_zero, List.set_cons_succ]
                refine till_weak (S := fun w' => Below w5.heap.size w5 w') (k := 7) ?_
                refine till_take (i := 1) _ (.pointer (some ⟨g, (M2 + 1) * 3, none⟩)) [4,3,2,1] rfl (by kernel_rfl) (by kernel_rfl) (by kernel_rfl) (by kernel_rfl) (fun _ _ _ h => h) (.inl ⟨by rfl, fun w' hS => ?_⟩) HS ?_
                · go_simp
                try simp only [Act.put, List.setIfInBounds_toArray, List.set_cons_zero, List.set_cons_succ]
                refine till_take (i := 2) _ (.pointer (some ⟨g, (M2 + 1) * 3, none⟩)) [4,3,2] rfl (by kernel_rfl) (by kernel_rfl) (by kernel_rfl) (by kernel_rfl) (fun _ _ _ h => h) (.inl ⟨by rfl, fun w' hS => ?_⟩) HS ?_
                · go_simp
                try simp only [Act.put, List.setIfInBounds_toArray, List.set_cons_zero, List.set_cons_succ]
                refine till_take (i := 3) _ (.pointer (some ⟨g, (M2 + 1) * 3 + 1, none⟩)) [4,3] rfl (by kernel_rfl) (by kernel_rfl) (by kernel_rfl) (by kernel_rfl) (fun _ _ _ h => h) (.inl ⟨by rfl, fun w' hS => ?_⟩) HS ?_
                · go_simp
                try simp only [Act.put, List.setIfInBounds_toArray, List.set_cons_zero, List.set_cons_succ]
                refine till_take (i := 4) _ (.slice rA ra rac) [4] rfl (by kernel_rfl) (by kernel_rfl) (by kernel_rfl) (by kernel_rfl) (fun _ _ _ h => h) (.inl ⟨by rfl, fun w' hS => ?_⟩) HS ?_
                · have x1 := cell_keep XX.out.2.1 hS
                  go_simp
                try simp only [Act.put, List.setIfInBounds_toArray, List.set_cons_zero, List.set_cons_succ]
                refine till_take (i := 5) _ (.agg #[.string nm, .slice L np nc, .string vl]) [6,5] rfl (by kernel_rfl) (by kernel_rfl) (by kernel_rfl) (by kernel_rfl) (fun _ _ _ h => h) (.inl ⟨by rfl, fun w' hS => ?_⟩) HS ?_
                · have q0 := cell_keep QQ.out.1 hS
                  have q1 := cell_keep QQ.out.2.1 hS
                  have q2 := cell_keep QQ.out.2.2 hS
                  go_simp
                try simp only [Act.put, List.setIfInBounds_toArray, List.set_cons_zero, List.set_cons_succ]
                refine till_one (i := 6) _ (by kernel_rfl) rfl rfl (fun K0 hK => ?_)
                go_simp
                have hal : Below w5.heap.size w5 (w5.alloc (.cells #[.string nm, .slice L np nc, .string vl] 30)).drew := ((Below.refl _ _).alloc (Nat.le_refl _) _).drew
                refine hK.out _ _ (fun _ _ => hal) ?_
                try simp only [Act.put, List.setIfInBounds_toArray, List.set_cons_zero, List.set_cons_succ]
                clear hK K0 HS
                refine till_one (i := 7) _ (by kernel_rfl) rfl rfl (fun K0 hK => ?_)
                have hra := Lib.hid (own_below (top_lens HP5.out).2.2.2 hal)
                refine oper_append_reads _ _ _ 22 rfl w2.heap.size 30 j0 (.agg #[.string ⟨#[]⟩, .slice none 0 0, .string ⟨#[]⟩]) 3 56 Tryz.underlying22 hj0 hy0 hy1 hy2 rfl (by decide) (.slice rA ra rac) ra (enc3 fQ rqs) rfl hra.out _ (some ⟨w5.heap.size, 0, none⟩) 1 1 [.string nm, .slice L np nc, .string vl] rfl (reads_new w5 #[.string nm, .slice L np nc, .string vl] 30 1 3 rfl) (by simp [Value.oneCell']) (by have := HTL.out; unfold maxLen; omega) (by have := HTL.out; omega) (by have := HP5.out.bel.size; have := hal.size; omega) ?_
                intro A7 ac7 w7 hrow7 hg7 hor7
                refine hK.out _ _ (fun h _ => absurd rfl h) ?_
                try simp only [Act.put, List.setIfInBounds_toArray, List.set_cons_zero, List.set_cons_succ]
                clear hK K0
                refine till_switch (by kernel_rfl) ?_
                have hst : (CR.mk pn pA pa pac pqs pK pk pkc pcs :: st2).length = M2 + 1 := by have := HP5.out.ln; simp only [List.length_cons] at this ⊢; omega
                have HP8 := PInv.addQ (w := w2) (q := (⟨nm, L, np, nc, vl, l⟩ : QR)) (A' := A7) (c' := ac7) HP.out (bstep HW45.out hal) hg7 hrow7 hor7 (HQH.out.next (Nat.le_trans HX4.out hal.size) (fun b hb hl => (hal.block b (Nat.lt_of_lt_of_le hl HX4.out)).trans ((HX4b.out).block b hl)))
                rw [hst] at HP8
                have hq1 : w7.cell? ⟨g, (M2 + 1) * 3 + 1, none⟩ = some (.slice rA ra rac) := prop_cell HP5.out hal hg7 XX.out.2.1
                have hqf : w7.frozen? ⟨g, (M2 + 1) * 3 + 1, none⟩ = false := prop_frozen HP5.out hal hg7 _
                have HP9 := Lib.hid HP8
                clear HP8 hrow7 hg7 hor7 hra hal hst
                refine till_any (i := 8) _ (.pointer (some ⟨g, (M2 + 1) * 3, none⟩)) rfl (by kernel_rfl) (by kernel_rfl) (by kernel_rfl) (fun _ _ _ h => h) (.inl ⟨by rfl, fun w' hS => ?_⟩) ?_
                · go_simp
                try simp only [Act.put, List.setIfInBounds_toArray, List.set_cons_zero, List.set_cons_succ]
                refine till_any (i := 9) _ (.pointer (some ⟨g, (M2 + 1) * 3 + 1, none⟩)) rfl (by kernel_rfl) (by kernel_rfl) (by kernel_rfl) (fun _ _ _ h => h) (.inl ⟨by rfl, fun w' hS => ?_⟩) ?_
                · go_simp
                try simp only [Act.put, List.setIfInBounds_toArray, List.set_cons_zero, List.set_cons_succ]
                refine till_one (i := 10) _ (by kernel_rfl) rfl rfl (fun K0 hK => ?_)
                go_simp
                refine hK.out _ _ (fun _ _ => trivial) ?_
                try simp only [Act.put, List.setIfInBounds_toArray, List.set_cons_zero, List.set_cons_succ]
                clear hK K0
                refine till_done (by kernel_rfl) ?_
                obtain ⟨F9, hF9⟩ := HP9.out
                have HP10 := Lib.hid hF9
                have HR8 := Lib.hid ((run_on HK0.out (by rw [HPQ.out]; exact step_prop HNB.out HNE.out)).symm.trans HRX.out)
                clear HP9 hF9 hq1 hqf XX QQ
                go_wp2
                go_round
                case rel => exact ⟨i + 1, _, _, M2 + 1 + 1, C, _, _, rfl, by go_num, by omega, HP10, HR8, Lib.hid ⟨by omega, by have := HNI.out; omega⟩⟩
                case measure => simp [intOf]; omega
        · have hke : (k != 0) = true := by simp only [bne_iff_ne, ne_eq]; exact hk0
          have HK := Lib.hid hk0
          have HKK := Lib.hid hk
          clear hk0 hk
          have HE := Lib.hid (show parC s.data.toList = .error k from (HRX.out.symm.trans ((run_bad (by rw [HKK.out]; exact HK.out)).trans (by rw [HKK.out]))))
          have RS := Lib.hid (RS.out.step HP5.out.bel)
          have HB9 := Lib.hid (bstep HB2.out HP5.out.bel)
          obtain ⟨r0, r1, r2⟩ := RS.out.cells
          have rf := fun o => RS.out.frozen o
          have r := RS.out
          unfold C3 at r
          have e0 := set_same (i := 0) (v := .string ⟨#[]⟩) r rfl
          have e1 := set_same (i := 1) (v := .slice none 0 0) r rfl
          have e2 := set_same (i := 2) (v := .slice none 0 0) r rfl
          have LP := Lib.hid (load_comp RS.out)
          clear r
          go_wp2
          try rw [Exit.noGoto_ret]
          refine bodyPost_ret (results_two rfl _ rfl rfl LP.out) rfl ?_
          exact cpar_err HE.out (HK.out) HB9.out
      · obtain rfl : i = n := by omega
        have HT := Lib.hid (show tellF fs = parC s.data.toList by have := HRN.out; rw [List.drop_eq_nil_of_le (by rw [HLN.out]; exact Nat.le_refl _)] at this; exact this)
        clear HRN
        obtain ⟨rt, hrt⟩ : ∃ r, crs.getLast? = some r := by
          cases h : crs.getLast? with
          | none => have h1 := HP.out.ln; have h2 := HNI.out; rw [List.getLast?_eq_none_iff] at h; subst h; simp at h1; omega
          | some r => exact ⟨r, rfl⟩
        obtain ⟨F1, hF1, hfr⟩ := StOk.last HP.out.st hrt
        obtain ⟨g, hRe, hgB, hgl, _, hcs⟩ := own_cells HP.out.row (by have := HNI.out; omega)
        subst hRe
        have hx0 : crs.reverse[0]? = some rt := by rw [← List.head?_eq_getElem?, List.head?_reverse]; exact hrt
        obtain ⟨e0, e1, e2⟩ := enc3_get (f := fC) hx0
        have HTL := Lib.hid (show tellF fs = match (frmOf rt).cs with | [] => .error 11 | c :: _ => .ok c by
          unfold tellF
          rw [← HP.out.fr, List.getLast?_map, hrt]
          rfl)
        obtain ⟨tn, tA, ta, tac, tqs, tK, tk, tkc, tcs⟩ := rt
        have hfr : FrOk F1 wr w2.heap.size tA ta tac tqs tK tk tkc tcs := hfr
        have c2 := hcs _ _ e2
        simp only [fC] at c2
        have hN0 : (0 : Int) < (N : Int) := by have := HNI.out; omega
        have hN1 : 0 < N := by have := HNI.out; omega
        have hN2 : ¬ ((N : Int) ≤ 0) := by omega
        have RS := Lib.hid (RS.out.step HP.out.bel)
        have HB9 := Lib.hid (bstep HB2.out HP.out.bel)
        have hkl : tcs.length = tk := by have := hfr.rk.1; rw [enc3_length] at this; omega
        clear hcs e0 e1 e2 hx0 hrt hgB hgl
        by_cases htk : tk = 0
        · have hnil : tcs = [] := List.eq_nil_of_length_eq_zero (by omega)
          have HE := Lib.hid (show parC s.data.toList = .error 11 by rw [← HT.out, HTL.out]; simp [frmOf, hnil])
          have mt : ((tk : Int) == 0) = true := by rw [beq_iff_eq]; omega
          clear htk hnil hkl hfr
          obtain ⟨r0, r1, r2⟩ := RS.out.cells
          have rf := fun o => RS.out.frozen o
          have r := RS.out
          unfold C3 at r
          have e0 := set_same (i := 0) (v := .string ⟨#[]⟩) r rfl
          have e1 := set_same (i := 1) (v := .slice none 0 0) r rfl
          have e2 := set_same (i := 2) (v := .slice none 0 0) r rfl
          have LP := Lib.hid (load_comp RS.out)
          clear r
          go_wp2
          try rw [Exit.noGoto_ret]
          refine bodyPost_ret (results_two rfl _ rfl rfl LP.out) rfl ?_
          exact cpar_err HE.out (by decide) HB9.out
        · obtain ⟨y, tcs2, rfl⟩ : ∃ y l2, tcs = y :: l2 := by
            cases tcs with
            | nil => simp at hkl; omega
            | cons y l2 => exact ⟨y, l2, rfl⟩
          have HE := Lib.hid (show parC s.data.toList = .ok (compOf y) by rw [← HT.out, HTL.out]; simp [frmOf])
          have HY := Lib.hid (hfr.hc y (List.mem_cons_self ..))
          obtain ⟨gk, hKe, hgk, hgkl, _, hck⟩ := own_cells hfr.rk (by omega)
          subst hKe
          obtain ⟨yn, yA, ya, yac, yqs, yK, yk, ykc, ycs⟩ := y
          have k0 := hck 0 (.string yn) rfl
          have k1 := hck 1 (.slice yA ya yac) rfl
          have k2 := hck 2 (.slice yK yk ykc) rfl
          have mt : ((tk : Int) == 0) = false := by rw [beq_eq_false_iff_ne]; omega
          have mt2 : (0 : Int) < (tk : Int) := by omega
          have mt3 : 0 < tk := by omega
          have mt4 : ¬ ((tk : Int) ≤ 0) := by omega
          have HFB := Lib.hid (fun b (h : F1 b) => HP.out.fB b (hF1 b h))
          clear htk hkl hfr hck hF1 hgk hgkl
          obtain ⟨r0, r1, r2⟩ := RS.out.cells
          have rf := fun o => RS.out.frozen o
          have HPP := Lib.hid (c3_all (nm' := yn) (A' := yA) (n' := ya) (c' := yac) (K' := yK) (k' := yk) (kc' := ykc) RS.out)
          go_wp2
          try rw [Exit.noGoto_ret]
          refine bodyPost_ret (results_two rfl _ rfl rfl (load_comp HPP.out)) rfl ?_
          refine ⟨.mk yn yA ya yac yqs yK yk ykc ycs, 0, rfl, ?_, ?_, ?_, by rw [HE.out]; exact ⟨rfl, rfl⟩⟩
          · have hw2 : w.heap.size < w2.heap.size := R0L.out
            have h1 : Held (fun b => w2.heap.size ≤ b) wr (fun W => COk W W.heap.size (.mk yn yA ya yac yqs yK yk ykc ycs)) := HY.out.weak (fun b hb _ => (HFB.out b hb.1).1)
            exact (h1.next (by rw [set3_size]; exact Nat.le_refl _) (fun b hb _ => set3_other _ _ _ _ _ _ _ _ b (fun e => by have : w2.heap.size ≤ b := hb; omega))).weak (fun b hb _ => by show w.heap.size ≤ b; have : w2.heap.size ≤ b := hb; omega)
          · rw [csize_w]
            have h1 := parC_size HE.out
            have h2 := unfQ_len HU.out
            omega
          · refine ((HB9.out.setCell (p := ⟨w.heap.size, 0, none⟩) ?_ _).setCell (p := ⟨w.heap.size, 1, none⟩) ?_ _).setCell (p := ⟨w.heap.size, 2, none⟩) ?_ _ <;> exact Nat.le_refl _
  · have HK := Lib.hid hk0
    clear hR hnc hc hk0 hbs
    have HE := Lib.hid (show parC s.data.toList = .error k by unfold parC; rw [if_pos (by rw [HU.out]; exact HK.out), HU.out])
    have hne : (k != 0) = true := by simp only [bne_iff_ne, ne_eq]; exact HK.out
    obtain ⟨r0, r1, r2⟩ := RS.out.cells
    have rf := fun o => RS.out.frozen o
    have r := RS.out
    unfold C3 at r
    have e0 := set_same (i := 0) (v := .string ⟨#[]⟩) r rfl
    have e1 := set_same (i := 1) (v := .slice none 0 0) r rfl
    have e2 := set_same (i := 2) (v := .slice none 0 0) r rfl
    have LP := Lib.hid (load_comp RS.out)
    clear r
    go_wp2
    try rw [Exit.noGoto_ret]
    refine bodyPost_ret (results_two rfl _ rfl rfl LP.out) rfl ?_
    exact cpar_err HE.out HK.out HB2.out
end Go.Proofs.YtlfhhnjdfpgadaaGreatDoor
