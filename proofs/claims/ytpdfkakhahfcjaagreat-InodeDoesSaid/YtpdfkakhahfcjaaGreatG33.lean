/-
  The document's own answer: an inode made shorter.
-/
import Derived.Test.YtpdfkakhahfcjaaGreatG32
namespace Go.Proofs.YtpdfkakhahfcjaaGreat
open Go.RowKit

theorem elemI : Tryz.prog.underlying 49 = some (.slice (Tryz.prog.elem 49)) := by kernel_rfl
theorem sizeElI (w : World) : (sizeOf (Tryz.prog.elem 49)).run Tryz.prog w = .ok 1 w := by kernel_rfl
theorem slice_rest (A : Option Addr) {L c q : Nat} (h : q ≤ L) (hA : A = none ∨ ∃ b, A = some ⟨b, 0, none⟩) (w : World) : (Instr.slice 49 (.slice A L c) (some (.int .i64 (q : Int))) none none).run Tryz.prog w = .ok (.slice (restA A q c) (L - q) (c - q)) w := by
 rw [run_slice_l w 49 A L c elemI .i64 (q : Int) (by omega) (by omega), sizeElI]
 simp only [Result.andThen_ok, sliced, Int.toNat_natCast]
 rcases hA with rfl | ⟨b, rfl⟩
 ·simp [restA]
 ·by_cases hc : c = q
  ·simp [restA, hc]
  ·by_cases h0 : q = 0
   ·subst h0
    have hc2 : ¬ c = 0 := hc
    simp [restA, hc2, Addr.add]
   ·simp [restA, hc, h0, Addr.add]
theorem slice_head (A : Option Addr) {L c q : Nat} (h : q ≤ c) (w : World) : (Instr.slice 49 (.slice A L c) none (some (.int .i64 (q : Int))) none).run Tryz.prog w = .ok (.slice A q c) w := by
 rw [run_slice_h w 49 A L c elemI .i64 (q : Int) (by omega) (by omega), sizeElI]
 simp only [Result.andThen_ok, sliced, Int.toNat_natCast]
 cases A with
 | none => simp
 | some a => simp [Addr.add]
theorem wp_make_full {P : Program} (w : World) {o : Oper} {a : Act} {K : Act → World → Prop} {Q : Exit → Act → World → Prop}
  (l c : Operand) (t : TypeId) (hop : o.op = Op.makeSlice t l c)
  (base : Nat) (e : TypeId) (i : TypeInfo) (z : Value) (size : Nat) (h1 : P.underlying t = some (.slice e)) (h2 : P.info? e = some i) (h3 : i.zero = some z) (h4 : i.size = size)
  (kl kc : IntKind) (L C : Int) (n : Nat) (hl : a.eval l = .int kl L) (hc : a.eval c = .int kc C) (hL : L = (n : Int)) (hC : C = (n : Int)) (b2 : i.bytes * n ≤ 281474976710656) (b3 : n ≤ maxLen) (b4 : base ≤ w.heap.size)
  (hK : ∀ w', w'.ownsRow base e size (.slice (some ⟨w.heap.size, 0, none⟩) n n) n (madeCells z.cells (n * size)).toList → w.grownBy w' none → K (a.put o.dst (.slice (some ⟨w.heap.size, 0, none⟩) n n)) w') : Oper.wp P o a w K Q := by
 obtain ⟨w', hrun, r1, r2⟩ := run_make_full (P := P) w base t e i z size h1 h2 h3 h4 kl kc n b2 b3 b4
 subst hL
 subst hC
 unfold Oper.wp
 simp [execOp, hop, hl, hc, hrun, Result.andThen]
 exact hK w' r1 r2
/-- A row of zeros, just made. -/
def zerV (B z : Nat) : Value → World → Prop := fun v w => ∃ b, v = .slice (some ⟨b, 0, none⟩) z z ∧ w.ownsRow B 5 1 (.slice (some ⟨b, 0, none⟩) z z) z (madeCells #[.int .u8 0] z).toList
theorem zerV_out {B z : Nat} {v : Value} {w : World} (h : zerV B z v w) : ∃ b, v = .slice (some ⟨b, 0, none⟩) z z ∧ w.ownsRow B 5 1 (.slice (some ⟨b, 0, none⟩) z z) z (madeCells #[.int .u8 0] z).toList := h
theorem zerV.step {B z : Nat} {v : Value} {w w' : World} (h : zerV B z v w) (hb : Below w.heap.size w w') : zerV B z v w' := by
 obtain ⟨b, e, h⟩ := h
 exact ⟨b, e, own_below h hb⟩
/-- An image of the call's own, as a value. -/
def imgU (B n : Nat) (img : List ByteArray) : Value → World → Prop := fun v w => ∃ x : Nat × Nat, v = .slice (some ⟨x.1, 0, none⟩) n x.2 ∧ OwI w B x.1 n x.2 img
theorem imgU_out {B n : Nat} {img : List ByteArray} {v : Value} {w : World} (h : imgU B n img v w) : ∃ x : Nat × Nat, v = .slice (some ⟨x.1, 0, none⟩) n x.2 ∧ OwI w B x.1 n x.2 img := h
theorem imgU.step {B n : Nat} {img : List ByteArray} {v : Value} {w w' : World} (h : imgU B n img v w) (hb : Below w.heap.size w w') : imgU B n img v w' := by
 obtain ⟨x, e, h⟩ := h
 exact ⟨x, e, h.step hb⟩
def shuV (B g n c7 L c3 q b3 o3 b keep z : Nat) (A3 : Option Addr) (s : ByteArray) : Nat → Value → World → Prop
 | 0 => eqV (.slice (some ⟨g, 0, none⟩) n c7)
 | 1 => eqV (.slice A3 L c3)
 | 2 => eqV (.int .i64 (q : Int))
 | 3 => eqV (.int .i64 ((q : Int) - 1))
 | 4 => eqV (.pointer (some ⟨b3, o3 + (q - 1), none⟩))
 | 5 => eqV (.int .i64 (b : Int))
 | 6 => eqV (.slice (some ⟨g, 0, none⟩) n c7)
 | 7 => eqV (.slice A3 L c3)
 | 8 => eqV (.int .i64 (q : Int))
 | 9 => eqV (.int .i64 ((q : Int) - 1))
 | 10 => eqV (.pointer (some ⟨b3, o3 + (q - 1), none⟩))
 | 11 => eqV (.int .i64 (b : Int))
 | 12 => eqV (.pointer (some ⟨g, b, none⟩))
 | 13 => eqV (.string s)
 | 14 => eqV (.int .i64 (keep : Int))
 | 15 => eqV (.string (s.extract 0 keep))
 | 16 => eqV (.int .i64 (keep : Int))
 | 17 => eqV (.int .i64 (z : Int))
 | 18 => zerV B z
 | 19 => eqV (.string (zeroN z))
 | 20 => eqV (.string (s.extract 0 keep ++ zeroN z))
 | 21 => eqV (.pointer (some ⟨g, b, none⟩))
 | _ => fun _ _ => True
theorem shuV_stable (B g n c7 L c3 q b3 o3 b keep z : Nat) (A3 : Option Addr) (s : ByteArray) (j : Nat) (v : Value) (w w' : World) (hs : Below w.heap.size w w') (h : shuV B g n c7 L c3 q b3 o3 b keep z A3 s j v w) : shuV B g n c7 L c3 q b3 o3 b keep z A3 s j v w' := by
 match j, h with
 | 0, h => exact h
 | 1, h => exact h
 | 2, h => exact h
 | 3, h => exact h
 | 4, h => exact h
 | 5, h => exact h
 | 6, h => exact h
 | 7, h => exact h
 | 8, h => exact h
 | 9, h => exact h
 | 10, h => exact h
 | 11, h => exact h
 | 12, h => exact h
 | 13, h => exact h
 | 14, h => exact h
 | 15, h => exact h
 | 16, h => exact h
 | 17, h => exact h
 | 18, h => exact h.step hs
 | 19, h => exact h
 | 20, h => exact h
 | 21, h => exact h
 | _ + 22, _ => trivial
def shwV (B g n c7 k size L c3 q : Nat) (ind : Int) (A3 : Option Addr) (r : RecI) (fin : List ByteArray) : Nat → Value → World → Prop
 | 0 => eqV (.slice (some ⟨g, 0, none⟩) n c7)
 | 1 => eqV (.int .i64 (k : Int))
 | 2 => eqV (valI r)
 | 3 => eqV (.int .i64 (size : Int))
 | 4 => eqV (.slice A3 L c3)
 | 5 => eqV (.int .i64 (q : Int))
 | 6 => eqV (.slice A3 q c3)
 | 7 => eqV (.int .i64 ind)
 | 8 => imgU B n fin
 | 9 => imgU B n fin
 | 10 => eqV (.int .i64 0)
 | _ => fun _ _ => True
theorem shwV_stable (B g n c7 k size L c3 q : Nat) (ind : Int) (A3 : Option Addr) (r : RecI) (fin : List ByteArray) (j : Nat) (v : Value) (w w' : World) (hs : Below w.heap.size w w') (h : shwV B g n c7 k size L c3 q ind A3 r fin j v w) : shwV B g n c7 k size L c3 q ind A3 r fin j v w' := by
 match j, h with
 | 0, h => exact h
 | 1, h => exact h
 | 2, h => exact h
 | 3, h => exact h
 | 4, h => exact h
 | 5, h => exact h
 | 6, h => exact h
 | 7, h => exact h
 | 8, h => exact h.step hs
 | 9, h => exact h.step hs
 | 10, h => exact h
 | _ + 11, _ => trivial

set_option maxRecDepth 100000 in
set_option maxHeartbeats 30000000 in
theorem refShrink_any (A : Option Addr) (n c : Nat) (img : List ByteArray) (k size : Nat) (w : World) (h : Reads w w.heap.size 1 A n (encS img)) (hs : SoundP img) (hk : k < cntA img.length) (hkd : (recI img k).kind ≠ 0) (h1 : size ≤ (recI img k).size) :
  Calls Tryz.prog 15 #[.slice A n c, .int .i64 (k : Int), .int .i64 (size : Int)] w fun e w' => ImgsO w w' (shrinkI img (recI img k) size).1 (shrinkI img (recI img k) size).2 e := by
 have hmx : Tryz.prog.follows .mixedOrders = true := by kernel_rfl
 have hz7 := (zero_of_info info7).1
 obtain ⟨i0, hj0, hy0, hy1, hy2⟩ := info_parts infoI
 have hl := h.lenS
 have h8 : 8 ≤ n := by have := hs.fit.1; omega
 have h5 : n ≤ 512 := by have := hs.fit.1; omega
 obtain ⟨m, ind, p⟩ := shrP_of hs hk hkd h1
 have hg : getI img (k : Int) = (recI img k, 0) := by unfold getI; rw [if_neg (by omega), Int.toNat_natCast]
 have cH := refHeld_any A n c img (k : Int) w h hs.fit
 rw [show heldS img (k : Int) = (recI img k, 0) by unfold heldS; rw [hg]; simp [hkd]] at cH
 unfold GetP valI at cH
 have hC := (first_le hs.fit.1.1 hs.fit.1.2).2.2.2.1
 have hcd := shaped_cond (sound_shaped hs hk)
 have hdr := dataS_rec hs.fit (show k ≤ 1024 by omega) hcd.2.1 (fun h4 => ⟨hcd.2.2.1.1 h4, hcd.2.2.2 (hcd.2.2.1.1 h4)⟩)
 have cN := fun W hW => refNamed_any A n c img (recI img k) W hW hs.fit p.ok.bl p.n68 (fun h4 => by rw [← hl]; exact p.indlt)
 rw [hdr] at cN
 unfold RowP valI at cN
 have cS := fun W => refNeeds_any size (by have := p.small; omega) W
 have cV := fun B nb cb W hW hB hm => refGiveO_any A B n c nb cb img (castN (backI (recI img k) size)) W hW hs.fit.map hB hm
 rw [p.give] at cV
 have hnb := encI_nat (backI (recI img k) size)
 have hkn : k < cntA n := by rw [← hl]; exact hk
 rw [p.res]
 obtain ⟨X, hX⟩ : ∃ X, X = saveR (if 0 < size % 128 then putI m (((dataR (recI img k)).take (needN size)).getD (needN size - 1) 0) (size % 128) (zeroN (128 - size % 128)) else m) (nameR (recI img k) size ((dataR (recI img k)).take (needN size)) ind) := ⟨_, rfl⟩
 rw [← hX]
 have hnum : ({ recI img k with num := k } : RecI) = recI img k := rfl
 have hml : m.length = n := by rw [← p.len, hl]
 have hind : (recI img k).ind < n := by rw [← hl]; exact p.indlt
 have hlt : ∀ x ∈ dataR (recI img k), x < n := fun x hx => by rw [← hl]; exact p.lt x hx
 have hlp := fun b (hb : b < n) (h0 : 0 < needN size) => last_put (m := m) (b := b) (size := size) (by omega) (p.blks _ (by unfold blk; rw [List.getD_eq_getElem?_getD, List.getElem?_eq_getElem (by omega)]; exact List.getElem_mem _)) h0
 have hok := p.ok
 have hnd := p.nd
 have hnle := p.nle
 have h68 := p.n68
 have hblk := p.blks
 have hind4 := p.ind4
 have hinde := p.inde
 have hsml := p.small
 have HB : Hid (backI (recI img k) size = (dataR (recI img k)).drop (needN size) ++ if needN size ≤ 4 ∧ (recI img k).ind ≠ 0 then [(recI img k).ind] else []) := Lib.hid rfl
 clear hs hcd hdr p hg hkd
 generalize backI (recI img k) size = back at *
 generalize recI img k = r at *
 have HK := Lib.hid (And.intro hk hkn)
 have H := Lib.hid h
 have HR := Lib.hid hok
 have HNUM := Lib.hid hnum
 have HLP := Lib.hid hlp
 have HLT := Lib.hid hlt
 have HBLK := Lib.hid hblk
 have HNB := Lib.hid hnb
 have HIND := Lib.hid (And.intro hind4 hinde)
 have HX := Lib.hid hX
 have HS := Lib.hid (And.intro hnd (And.intro hnle (And.intro h68 hsml)))
 obtain ⟨L, hL⟩ : ∃ L, L = needN r.size := ⟨_, rfl⟩
 obtain ⟨q, hq⟩ : ∃ q, q = needN size := ⟨_, rfl⟩
 have HLQ := Lib.hid (And.intro hL hq)
 rw [← hL] at hnd hnle h68
 rw [← hq] at cS hnle
 have hdl : (dataR r).length = L := hnd
 clear h hok hnum hlp hlt hblk hnb hind4 hinde hk hkn hL hC hq hX
 have hx0 : decide ((size : Int) < 0) = false := decide_eq_false (by omega)
 have hx1 : decide ((8704 : Int) < (size : Int)) = false := decide_eq_false (by omega)
 have hx2 : decide ((size : Int) ≤ (r.size : Int)) = true := decide_eq_true (by omega)
 go_enter Tryz.func15, Tryz.ntmps15
 go_wp2_with fail
 refine cH.mono ?_
 rintro e w1 ⟨rfl, hb1⟩
 have hh1 := heap_alloc_new w1 (.cells (cellsI (zeroR 0)).toArray 47)
 obtain ⟨gx, hgx⟩ : ∃ gx, gx = w1.heap.size := ⟨_, rfl⟩
 have K2 := bstep hb1 (((Below.refl w1.heap.size w1).alloc (Nat.le_refl _) (.cells (cellsI (zeroR 0)).toArray 47)).trans (below_setRow _ (Nat.le_refl _) (cellsI r).toArray))
 have B2 := (BI.new w1 (zeroR 0)).setRow r
 have K2 := Lib.hid (And.intro K2 B2)
 clear hb1 cH B2
 go_upto_region 8 with (refine wpList_store_row rfl _ _ _ rfl w1.heap.size (cellsI r).toArray rfl rfl _ (cellsI (zeroR 0)).toArray hh1 (sizeI HR.out) (holdI okz HR.out) (all_oneCell_toArray (cellsI_one _)) ?_)
 clear hh1
 rw [← hgx] at K2 ⊢
 generalize (w1.alloc (.cells (cellsI (zeroR 0)).toArray 47)).setRow gx (cellsI r).toArray = w2 at K2 ⊢
 clear hgx
 go_wp2_with (refine wpList_load_mid rfl _ _ rfl gx 0 rfl (cellsI r) _ (K2.out.2.range) Tryz.underlying47 rfl (by rw [cellsI_length HR.out]; exact sizeIn) ?_)
 refine (cN w2 (H.out.step K2.out.1)).mono ?_
 rintro e w3 ⟨A3, c3, rfl, ho3, hb3⟩
 rw [hdl] at ho3 ⊢
 have HO := own_nil_or ho3
 have hLc := own_le ho3
 have K3 := Lib.hid (And.intro (bstep K2.out.1 hb3) (And.intro (K2.out.2.step hb3) (own_base ho3 K2.out.1.size)))
 have hc6 := K3.out.2.1.ind HR.out.bl
 have hc1 := K3.out.2.1.size
 have hgx3 : gx < w3.heap.size := K3.out.2.1.lt
 clear ho3 hb3 K2 cN
 obtain ⟨A4, hA4⟩ : ∃ A4, A4 = restA A3 q c3 := ⟨_, rfl⟩
 obtain ⟨p, hp⟩ : ∃ p, p = L - q := ⟨_, rfl⟩
 obtain ⟨cc, hcc⟩ : ∃ cc, cc = c3 - q := ⟨_, rfl⟩
 have hrs := reads_rest K3.out.2.2 (q := q) (by omega)
 have hsl := slice_rest A3 (L := L) (c := c3) (q := q) (by omega) (by rcases HO with ⟨h, _, _⟩ | h; exact .inl h; exact .inr h)
 have hsh := slice_head A3 (L := L) (c := c3) (q := q) (by omega)
 rw [← hA4, ← hp, ← hcc] at hsl
 rw [← hA4, ← hp] at hrs
 have HP := Lib.hid hp
 have HRS := Lib.hid hrs
 clear HO hA4 hp hcc hrs
 have hp69 : p ≤ 68 := by have := HP.out; omega
 go_upto_region 14 with (first | (go_at_call 24; refine (cS _).mono ?_; rintro e w4 ⟨rfl, rfl⟩) | (at_builtin; refine wpList_append_reads _ rfl (.tmp 55) (.tmp 58) 49 rfl w3.heap.size 3 i0 _ 1 8 Tryz.underlying49 hj0 hy0 hy1 hy2 rfl (by omega) (.slice none 0 0) 0 [] rfl own_nil _ A4 p cc (encN ((dataR r).drop q)) rfl HRS.out (encN_one _) (by unfold maxLen; omega) (by omega) (by omega) ?_; intro A5 c5 w4 ho4 hg4 _; simp only [Nat.zero_add, List.nil_append] at ho4 ⊢))
 have K4 := Lib.hid (And.intro (bstep K3.out.1 ((Below.refl _ _).grown hg4 (Nat.le_refl _) (by intro k hk; cases hk))) (And.intro (K3.out.2.1.step ((Below.refl _ _).grown hg4 (Nat.le_refl _) (by intro k hk; cases hk))) (And.intro (own_below K3.out.2.2 ((Below.refl _ _).grown hg4 (Nat.le_refl _) (by intro k hk; cases hk))) ho4)))
 have HO3 := Lib.hid K3.out.2.2
 have HB34 := Lib.hid (show Below w3.heap.size w3 w4 from (Below.refl _ _).grown hg4 (Nat.le_refl _) (by intro k hk; cases hk))
 have hw03 : w.heap.size ≤ w3.heap.size := K3.out.1.size
 have h34 : w3.heap.size ≤ w4.heap.size := (Below.grown (Below.refl _ w3) hg4 (Nat.le_refl _) (by intro k hk; cases hk)).size
 have hgx4 : gx < w4.heap.size := by omega
 clear ho4 hg4 K3 hc6 hc1 HRS cS hsl
 by_cases hi0 : r.ind = 0
 ·have hie : ind = r.ind := by rw [HIND.out.2, if_neg (fun h => h.2 hi0)]
  subst hie
  have hid : decide ((0 : Int) < (r.ind : Int)) = false := decide_eq_false (by omega)
  have hin0 : ¬ 0 < r.ind := by omega
  have hin1 : decide (0 < r.ind) = false := decide_eq_false hin0
  have hin3 : ¬ (0 : Int) < (r.ind : Int) := by omega
  have HI0 := Lib.hid hi0
  clear hi0
  obtain ⟨w6, hw6⟩ : ∃ w6, w6 = w4 := ⟨_, rfl⟩
  rw [← hw6] at K4 ⊢
  have K6 := Lib.hid (show Below w.heap.size w w6 ∧ BI w6 gx r ∧ w6.ownsRow w.heap.size 3 1 (.slice A3 L c3) L (encN (dataR r)) ∧ w6.ownsRow w3.heap.size 3 1 (.slice A5 p c5) p (encN back) from by
   have hbk : back = (dataR r).drop q := by rw [HB.out, if_neg (fun h => h.2 HI0.out), List.append_nil, ← HLQ.out.2]
   rw [hbk]
   exact K4.out)
  clear K4 hw6
  go_wp2_with fail
  refine (cV A5 p c5 w6 (H.out.step K6.out.1) (by have h9 := Reads.of_own K6.out.2.2.2; rw [← show encI (castN back) = encN back from HNB.out] at h9; exact h9) (by omega)).mono ?_
  rintro e w7 ⟨g, n7, c7, rfl, hO7, hn7, hb7⟩
  have en : n = n7 := by have := hO7.len; omega
  subst en
  have K7 := Lib.hid (And.intro hO7 hb7)
  have HL6 := Lib.hid (Reads.of_own K6.out.2.2.1)
  have hg6 := hO7.ge
  clear hO7 hb7 cV hn7
  by_cases hq0 : q = 0
  ·have hqd : decide ((0 : Int) < (q : Int)) = false := decide_eq_false (by omega)
   have hqn : ¬ (0 : Int) < (q : Int) := by omega
   have hqe : decide (0 < q) = false := decide_eq_false (by omega)
   have HQ0 := Lib.hid hq0
   clear hq0
   have HRES : Hid (X = saveR m (nameR r size ((dataR r).take q) r.ind)) := Lib.hid (by
    have e := HLQ.out.2
    have hq0 := HQ0.out
    rw [HX.out, ← e, if_neg (by unfold needN at e; omega)])
   have K8 := Lib.hid (show OwI w7 w6.heap.size g n c7 m ∧ BI w7 gx r ∧ Reads w7 w7.heap.size 1 A3 L (encN (dataR r)) ∧ Below w6.heap.size w6 w7 from ⟨K7.out.1, K6.out.2.1.step K7.out.2, HL6.out.step K7.out.2, K7.out.2⟩)
   have cL : ∀ W, Reads W W.heap.size 1 (some ⟨g, 0, none⟩) n (encS m) → Reads W W.heap.size 1 A3 L (encN (dataR r)) → Calls Tryz.prog 48 #[.slice (some ⟨g, 0, none⟩) n c7, .int .i64 (k : Int), .agg (cellsI r).toArray, .int .i64 (size : Int), .slice A3 q c3, .int .i64 (r.ind : Int)] W fun e w' => ∃ g c, e = .returned (.slice (some ⟨g, 0, none⟩) n c) ∧ OwI w' W.heap.size g n c (saveR m (nameR r size ((dataR r).take q) r.ind)) ∧ Below W.heap.size W w' := fun W hW1 hW2 => by
    have h9 := refLaid_any (some ⟨g, 0, none⟩) A3 n c7 q c3 m k r size r.ind ((dataR r).take q) W hW1 (reads_take hW2 (by omega)) HBLK.out h8 h5 HK.out.2 HR.out (by have := HS.out; omega) (fun x hx => by have := HLT.out x (List.mem_of_mem_take hx); omega) (by omega) (fun h => by have := HIND.out.1 h; have := HLQ.out.2; omega) (by omega) (by omega)
    rw [HNUM.out] at h9
    exact h9
   go_upto_region 21 with fail
   try simp only [hid, hin1, hqd, hqe]
   clear hid hin0 hin1 hin3 hqe hqd hqn
   refine wp_region_rel (fun w' => Below w7.heap.size w7 w') (fun _ wa wb => Below wa.heap.size wa wb) (shwV w7.heap.size g n c7 k size L c3 q (r.ind : Int) A3 r (saveR (m) (nameR r size ((dataR r).take q) r.ind))) hmx (by kernel_rfl) ((Below.refl _ _).drew) (fun i wa wb hC hs => bstep hC hs) (fun i j v wa wb _ hs h => shwV_stable w7.heap.size g n c7 k size L c3 q (r.ind : Int) A3 r (saveR (m) (nameR r size ((dataR r).take q) r.ind)) j v wa wb hs h) ?_ ?_
   ·refine ⟨?_, ?_, ?_, ?_, ?_, ?_, ?_, ?_, ?_, ?_, ?_, trivial⟩
    ·intro V W hC hd K hK
     clear hd
     simp only [laidL, Act.put, List.setIfInBounds_toArray, List.set_cons_zero, List.set_cons_succ] at hK ⊢
     go_simp
     exact hK _ _ ⟨Below.refl _ _, rfl⟩
    ·intro V W hC hd K hK
     clear hd
     simp only [laidL, Act.put, List.setIfInBounds_toArray, List.set_cons_zero, List.set_cons_succ] at hK ⊢
     go_simp
     exact hK _ _ ⟨Below.refl _ _, rfl⟩
    ·intro V W hC hd K hK
     clear hd
     simp only [laidL, Act.put, List.setIfInBounds_toArray, List.set_cons_zero, List.set_cons_succ] at hK ⊢
     refine wp_load_mid 47 (.tmp 8) rfl _ 0 rfl (cellsI r) _ (K8.out.2.1.step hC).range Tryz.underlying47 rfl (by rw [cellsI_length HR.out]; exact sizeIn) ?_
     exact hK (valI r) _ ⟨Below.refl _ _, rfl⟩
    ·intro V W hC hd K hK
     clear hd
     simp only [laidL, Act.put, List.setIfInBounds_toArray, List.set_cons_zero, List.set_cons_succ] at hK ⊢
     go_simp
     exact hK _ _ ⟨Below.refl _ _, rfl⟩
    ·intro V W hC hd K hK
     clear hd
     simp only [laidL, Act.put, List.setIfInBounds_toArray, List.set_cons_zero, List.set_cons_succ] at hK ⊢
     go_simp
     exact hK _ _ ⟨Below.refl _ _, rfl⟩
    ·intro V W hC hd K hK
     clear hd
     simp only [laidL, Act.put, List.setIfInBounds_toArray, List.set_cons_zero, List.set_cons_succ] at hK ⊢
     go_simp
     exact hK _ _ ⟨Below.refl _ _, rfl⟩
    ·intro V W hC hd K hK
     have q4 : shwV w7.heap.size g n c7 k size L c3 q (r.ind : Int) A3 r (saveR (m) (nameR r size ((dataR r).take q) r.ind)) 4 (V 4) W := hd.1
     have e4 : V 4 = .slice A3 L c3 := q4
     clear q4
     have q5 : shwV w7.heap.size g n c7 k size L c3 q (r.ind : Int) A3 r (saveR (m) (nameR r size ((dataR r).take q) r.ind)) 5 (V 5) W := hd.2.1
     have e5 : V 5 = .int .i64 (q : Int) := q5
     clear q5
     clear hd
     simp only [laidL, Act.put, List.setIfInBounds_toArray, List.set_cons_zero, List.set_cons_succ] at hK ⊢
     generalize V 4 = v4 at e4 hK ⊢
     subst e4
     generalize V 5 = v5 at e5 hK ⊢
     subst e5
     go_simp
     exact hK _ _ ⟨Below.refl _ _, rfl⟩
    ·intro V W hC hd K hK
     clear hd
     simp only [laidL, Act.put, List.setIfInBounds_toArray, List.set_cons_zero, List.set_cons_succ] at hK ⊢
     go_simp
     exact hK _ _ ⟨Below.refl _ _, rfl⟩
    ·intro V W hC hd K hK
     have q0 : shwV w7.heap.size g n c7 k size L c3 q (r.ind : Int) A3 r (saveR (m) (nameR r size ((dataR r).take q) r.ind)) 0 (V 0) W := hd.1
     have e0 : V 0 = .slice (some ⟨g, 0, none⟩) n c7 := q0
     clear q0
     have q1 : shwV w7.heap.size g n c7 k size L c3 q (r.ind : Int) A3 r (saveR (m) (nameR r size ((dataR r).take q) r.ind)) 1 (V 1) W := hd.2.1
     have e1 : V 1 = .int .i64 (k : Int) := q1
     clear q1
     have q2 : shwV w7.heap.size g n c7 k size L c3 q (r.ind : Int) A3 r (saveR (m) (nameR r size ((dataR r).take q) r.ind)) 2 (V 2) W := hd.2.2.1
     have e2 : V 2 = valI r := q2
     clear q2
     have q3 : shwV w7.heap.size g n c7 k size L c3 q (r.ind : Int) A3 r (saveR (m) (nameR r size ((dataR r).take q) r.ind)) 3 (V 3) W := hd.2.2.2.1
     have e3 : V 3 = .int .i64 (size : Int) := q3
     clear q3
     have q6 : shwV w7.heap.size g n c7 k size L c3 q (r.ind : Int) A3 r (saveR (m) (nameR r size ((dataR r).take q) r.ind)) 6 (V 6) W := hd.2.2.2.2.1
     have e6 : V 6 = .slice A3 q c3 := q6
     clear q6
     have q7 : shwV w7.heap.size g n c7 k size L c3 q (r.ind : Int) A3 r (saveR (m) (nameR r size ((dataR r).take q) r.ind)) 7 (V 7) W := hd.2.2.2.2.2.1
     have e7 : V 7 = .int .i64 (r.ind : Int) := q7
     clear q7
     clear hd
     simp only [laidL, Act.put, List.setIfInBounds_toArray, List.set_cons_zero, List.set_cons_succ] at hK ⊢
     generalize V 0 = v0 at e0 hK ⊢
     subst e0
     generalize V 1 = v1 at e1 hK ⊢
     subst e1
     generalize V 2 = v2 at e2 hK ⊢
     subst e2
     generalize V 3 = v3 at e3 hK ⊢
     subst e3
     generalize V 6 = v6 at e6 hK ⊢
     subst e6
     generalize V 7 = v7 at e7 hK ⊢
     subst e7
     go_simp
     go_at_call 48
     unfold valI
     refine (cL _ (K8.out.1.reads.step hC) (K8.out.2.2.1.step hC)).mono ?_
     rintro e w9 ⟨g9, c9, rfl, hO9, hb9⟩
     exact hK _ _ ⟨hb9, (g9, c9), rfl, hO9.low hC.size⟩
    ·intro V W hC hd K hK
     have q8 : shwV w7.heap.size g n c7 k size L c3 q (r.ind : Int) A3 r (saveR (m) (nameR r size ((dataR r).take q) r.ind)) 8 (V 8) W := hd.1
     have q8 : imgU w7.heap.size n (saveR (m) (nameR r size ((dataR r).take q) r.ind)) (V 8) W := q8
     have p8 := imgU_out q8
     clear q8
     cases p8
     rename_i b8 hh
     have e8 := hh.1
     have h8x := hh.2
     clear hh
     clear hd
     simp only [laidL, Act.put, List.setIfInBounds_toArray, List.set_cons_zero, List.set_cons_succ] at hK ⊢
     generalize V 8 = v8 at e8 hK ⊢
     subst e8
     go_simp
     exact hK _ _ ⟨Below.refl _ _, _, rfl, h8x⟩
    ·intro V W hC hd K hK
     clear hd
     simp only [laidL, Act.put, List.setIfInBounds_toArray, List.set_cons_zero, List.set_cons_succ] at hK ⊢
     go_simp
     exact hK _ _ ⟨Below.refl _ _, rfl⟩
   ·intro V9 w9 hC9 hV9
    have e9 : imgU w7.heap.size n (saveR (m) (nameR r size ((dataR r).take q) r.ind)) (V9 9) w9 := hV9 9 (show 9 < 11 by decide)
    have e10 : V9 10 = .int .i64 0 := hV9 10 (show 10 < 11 by decide)
    obtain ⟨⟨g9, c9⟩, e9, hO9⟩ := e9
    have KF := Lib.hid (And.intro (hO9.low (Nat.le_trans K6.out.1.size (Nat.le_trans K8.out.2.2.2.size (Nat.le_refl _)))) ((bstep (K6.out.1.trans (K8.out.2.2.2.mono K6.out.1.size)) hC9)))
    clear hV9 hC9 hO9 cL
    simp only [laidL, Act.put, List.setIfInBounds_toArray, List.set_cons_zero, List.set_cons_succ]
    generalize V9 9 = v9 at e9 ⊢
    generalize V9 10 = v10 at e10 ⊢
    subst e9
    subst e10
    go_wp2
    go_ret2
    rw [HRES.out]
    exact ⟨g9, n, c9, rfl, KF.out.1, h5, KF.out.2⟩
  ·have hqd : decide ((0 : Int) < (q : Int)) = true := decide_eq_true (by omega)
   have hqn : (0 : Int) < (q : Int) := by omega
   have hqe : decide (0 < q) = true := decide_eq_true (by omega)
   have hqL : q - 1 < L := by omega
   obtain ⟨b, hb⟩ : ∃ b, b = ((dataR r).take q).getD (q - 1) 0 := ⟨_, rfl⟩
   obtain ⟨keep, hke⟩ : ∃ keep, keep = size - (q - 1) * 128 := ⟨_, rfl⟩
   have hbd : b = (dataR r).getD (q - 1) 0 := by rw [hb, List.getD_eq_getElem?_getD, List.getD_eq_getElem?_getD, List.getElem?_take, if_pos (by omega)]
   have hbn : b < n := by rw [hbd]; exact HLT.out _ (by rw [List.getD_eq_getElem?_getD, List.getElem?_eq_getElem (by omega)]; exact List.getElem_mem _)
   obtain ⟨s, hs⟩ : ∃ s, s = blk m b := ⟨_, rfl⟩
   have hss : s.size = 128 := by rw [hs]; exact HBLK.out _ (by unfold blk; rw [List.getD_eq_getElem?_getD, List.getElem?_eq_getElem (by omega)]; exact List.getElem_mem _)
   have HKQ : Hid (size = keep + (q - 1) * 128) := Lib.hid (by have e := HLQ.out.2; unfold needN at e; omega)
   have hkq : keep ≤ 128 := by have e := HLQ.out.2; unfold needN at e; omega
   obtain ⟨z, hz⟩ : ∃ z, z = 128 - keep := ⟨_, rfl⟩
   have HRES : Hid (X = saveR (m.set b (s.extract 0 keep ++ zeroN z)) (nameR r size ((dataR r).take q) r.ind)) := Lib.hid (by
    have e := HLQ.out.2
    have h9 := HLP.out b hbn (by omega)
    rw [HX.out]
    rw [← e] at h9 ⊢
    rw [← hb, ← h9, hz, hke, hs])
   have HMS : Hid (∀ x ∈ m.set b (s.extract 0 keep ++ zeroN z), x.size = 128) := Lib.hid (fun x hx => by
    rcases List.mem_or_eq_of_mem_set hx with h | h
    ·exact HBLK.out x h
    ·rw [h, ByteArray.size_append, ByteArray.size_extract, zeroN_mkB, mkB_size, List.length_replicate]; omega)
   have HBV := Lib.hid hbd
   have HZ := Lib.hid hz
   have HSV := Lib.hid hs
   have hzk : z + keep = 128 := by omega
   clear hb hbd hs hz hke
   obtain ⟨u0, hu0, hv0, hv1, hv2⟩ := info_parts infoUA
   obtain ⟨b3, o3, rfl, hb36, _⟩ := HL6.out.nat hqL
   have hkI : (size : Int) - ((q : Int) - 1) * 128 = (keep : Int) := by have := HKQ.out; omega
   have hw1 : IntKind.i64.wrap ((q : Int) - 1) = (q : Int) - 1 := by rw [IntKind.wrap_i64]; omega
   have hw2 : IntKind.i64.wrap (((q : Int) - 1) * 128) = ((q : Int) - 1) * 128 := by rw [IntKind.wrap_i64]; omega
   have hw3 : IntKind.i64.wrap ((size : Int) - ((q : Int) - 1) * 128) = (size : Int) - ((q : Int) - 1) * 128 := by rw [IntKind.wrap_i64]; omega
   go_upto_region 20 with fail
   try rw [hkI]
   have hzI : (128 : Int) - (keep : Int) = (z : Int) := by omega
   have hw4 : IntKind.i64.wrap ((128 : Int) - (keep : Int)) = (z : Int) := by rw [IntKind.wrap_i64]; omega
   have hw5 : IntKind.i64.wrap (z : Int) = (z : Int) := by rw [IntKind.wrap_i64]; omega
   have hq1 : ((q : Int) - 1).toNat = q - 1 := by omega
   have hq2 : (0 : Int) ≤ (q : Int) - 1 := by omega
   have hq5 : (1 : Int) ≤ (q : Int) := by omega
   have hq3 : (q : Int) - 1 < (L : Int) := by omega
   have hk0 : (0 : Int) ≤ (keep : Int) := by omega
   have hk1 : (keep : Int) ≤ 128 := by omega
   have hbnI : (b : Int) < (n : Int) := by omega
   clear hkI hw2 hw3
   try simp only [hid, hin1, hqd, hqe]
   clear hid hin0 hin1 hin3 hqe hqd hqn
   refine wp_region_last [[], [], [], [2], [1, 3], [4], [], [], [], [8], [7, 9], [10], [6, 11], [12], [], [13, 14], [], [16], [17, 17], [18], [15, 19], [0, 5, 0, 1, 2, 3, 4, 5, 6, 7, 8, 9, 10, 11, 12, 13, 14, 15, 16, 17, 18, 19, 20], [21, 20, 0, 1, 2, 3, 4, 5, 6, 7, 8, 9, 10, 11, 12, 13, 14, 15, 16, 17, 18, 19, 20]] 22 (fun W => OwI W w6.heap.size g n c7 m ∧ Below w6.heap.size w6 W) (fun W => OwI W w6.heap.size g n c7 (m.set b (s.extract 0 keep ++ zeroN z)) ∧ Below w6.heap.size w6 W) (shuV w6.heap.size g n c7 L c3 q b3 o3 b keep z (some ⟨b3, o3, none⟩) s) hmx (by kernel_rfl) (by kernel_rfl) rfl (by decide) (by decide) ⟨K7.out.1.step (Below.refl _ _).drew, K7.out.2.drew⟩ (fun W W' hb hD => ⟨hD.1.step hb, bstep hD.2 hb⟩) (fun j v W W' hb h => shuV_stable w6.heap.size g n c7 L c3 q b3 o3 b keep z (some ⟨b3, o3, none⟩) s j v W W' hb h) ?_ ?_
   ·refine ⟨?_, ?_, ?_, ?_, ?_, ?_, ?_, ?_, ?_, ?_, ?_, ?_, ?_, ?_, ?_, ?_, ?_, ?_, ?_, ?_, ?_, ?_, ?_, trivial⟩
    ·intro V W hC hd K hK
     clear hd
     simp only [laidL, Act.put, List.setIfInBounds_toArray, List.set_cons_zero, List.set_cons_succ] at hK ⊢
     go_simp
     exact hK _ _ ⟨fun _ => ⟨Below.refl _ _, rfl⟩, fun h => absurd h (by decide)⟩
    ·intro V W hC hd K hK
     clear hd
     simp only [laidL, Act.put, List.setIfInBounds_toArray, List.set_cons_zero, List.set_cons_succ] at hK ⊢
     go_simp
     exact hK _ _ ⟨fun _ => ⟨Below.refl _ _, rfl⟩, fun h => absurd h (by decide)⟩
    ·intro V W hC hd K hK
     clear hd
     simp only [laidL, Act.put, List.setIfInBounds_toArray, List.set_cons_zero, List.set_cons_succ] at hK ⊢
     go_simp
     exact hK _ _ ⟨fun _ => ⟨Below.refl _ _, rfl⟩, fun h => absurd h (by decide)⟩
    ·intro V W hC hd K hK
     have q2 : shuV w6.heap.size g n c7 L c3 q b3 o3 b keep z (some ⟨b3, o3, none⟩) s 2 (V 2) W := hd.1
     have e2 : V 2 = .int .i64 (q : Int) := q2
     clear q2
     clear hd
     simp only [laidL, Act.put, List.setIfInBounds_toArray, List.set_cons_zero, List.set_cons_succ] at hK ⊢
     generalize V 2 = v2 at e2 hK ⊢
     subst e2
     go_simp
     exact hK _ _ ⟨fun _ => ⟨Below.refl _ _, rfl⟩, fun h => absurd h (by decide)⟩
    ·intro V W hC hd K hK
     have q1 : shuV w6.heap.size g n c7 L c3 q b3 o3 b keep z (some ⟨b3, o3, none⟩) s 1 (V 1) W := hd.1
     have e1 : V 1 = .slice (some ⟨b3, o3, none⟩) L c3 := q1
     clear q1
     have q3 : shuV w6.heap.size g n c7 L c3 q b3 o3 b keep z (some ⟨b3, o3, none⟩) s 3 (V 3) W := hd.2.1
     have e3 : V 3 = .int .i64 ((q : Int) - 1) := q3
     clear q3
     clear hd
     simp only [laidL, Act.put, List.setIfInBounds_toArray, List.set_cons_zero, List.set_cons_succ] at hK ⊢
     generalize V 1 = v1 at e1 hK ⊢
     subst e1
     generalize V 3 = v3 at e3 hK ⊢
     subst e3
     go_simp
     refine hK _ _ ⟨fun _ => ⟨Below.refl _ _, ?_⟩, fun h => absurd h (by decide)⟩
     exact congrArg (fun x => Value.pointer (some ⟨b3, x, none⟩)) (by omega)
    ·intro V W hC hd K hK
     have q4 : shuV w6.heap.size g n c7 L c3 q b3 o3 b keep z (some ⟨b3, o3, none⟩) s 4 (V 4) W := hd.1
     have e4 : V 4 = .pointer (some ⟨b3, o3 + (q - 1), none⟩) := q4
     clear q4
     clear hd
     simp only [laidL, Act.put, List.setIfInBounds_toArray, List.set_cons_zero, List.set_cons_succ] at hK ⊢
     generalize V 4 = v4 at e4 hK ⊢
     subst e4
     have hc := (HL6.out.step hC.2)
     have hcell : W.cell? ⟨b3, o3 + (q - 1), none⟩ = some (.int .i64 (b : Int)) := by
      obtain ⟨b9, o9, e9, _, h9⟩ := hc.nat hqL
      injection e9 with e9
      injection e9 with e1 e2
      rw [← e1, ← e2] at h9
      rw [h9, HBV.out]
     clear hc
     go_simp
     exact hK _ _ ⟨fun _ => ⟨Below.refl _ _, rfl⟩, fun h => absurd h (by decide)⟩
    ·intro V W hC hd K hK
     clear hd
     simp only [laidL, Act.put, List.setIfInBounds_toArray, List.set_cons_zero, List.set_cons_succ] at hK ⊢
     go_simp
     exact hK _ _ ⟨fun _ => ⟨Below.refl _ _, rfl⟩, fun h => absurd h (by decide)⟩
    ·intro V W hC hd K hK
     clear hd
     simp only [laidL, Act.put, List.setIfInBounds_toArray, List.set_cons_zero, List.set_cons_succ] at hK ⊢
     go_simp
     exact hK _ _ ⟨fun _ => ⟨Below.refl _ _, rfl⟩, fun h => absurd h (by decide)⟩
    ·intro V W hC hd K hK
     clear hd
     simp only [laidL, Act.put, List.setIfInBounds_toArray, List.set_cons_zero, List.set_cons_succ] at hK ⊢
     go_simp
     exact hK _ _ ⟨fun _ => ⟨Below.refl _ _, rfl⟩, fun h => absurd h (by decide)⟩
    ·intro V W hC hd K hK
     have q8 : shuV w6.heap.size g n c7 L c3 q b3 o3 b keep z (some ⟨b3, o3, none⟩) s 8 (V 8) W := hd.1
     have e8 : V 8 = .int .i64 (q : Int) := q8
     clear q8
     clear hd
     simp only [laidL, Act.put, List.setIfInBounds_toArray, List.set_cons_zero, List.set_cons_succ] at hK ⊢
     generalize V 8 = v8 at e8 hK ⊢
     subst e8
     go_simp
     exact hK _ _ ⟨fun _ => ⟨Below.refl _ _, rfl⟩, fun h => absurd h (by decide)⟩
    ·intro V W hC hd K hK
     have q7 : shuV w6.heap.size g n c7 L c3 q b3 o3 b keep z (some ⟨b3, o3, none⟩) s 7 (V 7) W := hd.1
     have e7 : V 7 = .slice (some ⟨b3, o3, none⟩) L c3 := q7
     clear q7
     have q9 : shuV w6.heap.size g n c7 L c3 q b3 o3 b keep z (some ⟨b3, o3, none⟩) s 9 (V 9) W := hd.2.1
     have e9 : V 9 = .int .i64 ((q : Int) - 1) := q9
     clear q9
     clear hd
     simp only [laidL, Act.put, List.setIfInBounds_toArray, List.set_cons_zero, List.set_cons_succ] at hK ⊢
     generalize V 7 = v7 at e7 hK ⊢
     subst e7
     generalize V 9 = v9 at e9 hK ⊢
     subst e9
     go_simp
     refine hK _ _ ⟨fun _ => ⟨Below.refl _ _, ?_⟩, fun h => absurd h (by decide)⟩
     exact congrArg (fun x => Value.pointer (some ⟨b3, x, none⟩)) (by omega)
    ·intro V W hC hd K hK
     have q10 : shuV w6.heap.size g n c7 L c3 q b3 o3 b keep z (some ⟨b3, o3, none⟩) s 10 (V 10) W := hd.1
     have e10 : V 10 = .pointer (some ⟨b3, o3 + (q - 1), none⟩) := q10
     clear q10
     clear hd
     simp only [laidL, Act.put, List.setIfInBounds_toArray, List.set_cons_zero, List.set_cons_succ] at hK ⊢
     generalize V 10 = v10 at e10 hK ⊢
     subst e10
     have hc := (HL6.out.step hC.2)
     have hcell : W.cell? ⟨b3, o3 + (q - 1), none⟩ = some (.int .i64 (b : Int)) := by
      obtain ⟨b9, o9, e9, _, h9⟩ := hc.nat hqL
      injection e9 with e9
      injection e9 with e1 e2
      rw [← e1, ← e2] at h9
      rw [h9, HBV.out]
     clear hc
     go_simp
     exact hK _ _ ⟨fun _ => ⟨Below.refl _ _, rfl⟩, fun h => absurd h (by decide)⟩
    ·intro V W hC hd K hK
     have q6 : shuV w6.heap.size g n c7 L c3 q b3 o3 b keep z (some ⟨b3, o3, none⟩) s 6 (V 6) W := hd.1
     have e6 : V 6 = .slice (some ⟨g, 0, none⟩) n c7 := q6
     clear q6
     have q11 : shuV w6.heap.size g n c7 L c3 q b3 o3 b keep z (some ⟨b3, o3, none⟩) s 11 (V 11) W := hd.2.1
     have e11 : V 11 = .int .i64 (b : Int) := q11
     clear q11
     clear hd
     simp only [laidL, Act.put, List.setIfInBounds_toArray, List.set_cons_zero, List.set_cons_succ] at hK ⊢
     generalize V 6 = v6 at e6 hK ⊢
     subst e6
     generalize V 11 = v11 at e11 hK ⊢
     subst e11
     go_simp
     exact hK _ _ ⟨fun _ => ⟨Below.refl _ _, rfl⟩, fun h => absurd h (by decide)⟩
    ·intro V W hC hd K hK
     have q12 : shuV w6.heap.size g n c7 L c3 q b3 o3 b keep z (some ⟨b3, o3, none⟩) s 12 (V 12) W := hd.1
     have e12 : V 12 = .pointer (some ⟨g, b, none⟩) := q12
     clear q12
     clear hd
     simp only [laidL, Act.put, List.setIfInBounds_toArray, List.set_cons_zero, List.set_cons_succ] at hK ⊢
     generalize V 12 = v12 at e12 hK ⊢
     subst e12
     have hcell : W.cell? ⟨g, b, none⟩ = some (.string s) := by
      have h9 := hC.1.cell b hbn
      rw [HSV.out]; exact h9
     go_simp
     exact hK _ _ ⟨fun _ => ⟨Below.refl _ _, rfl⟩, fun h => absurd h (by decide)⟩
    ·intro V W hC hd K hK
     clear hd
     simp only [laidL, Act.put, List.setIfInBounds_toArray, List.set_cons_zero, List.set_cons_succ] at hK ⊢
     go_simp
     exact hK _ _ ⟨fun _ => ⟨Below.refl _ _, rfl⟩, fun h => absurd h (by decide)⟩
    ·intro V W hC hd K hK
     have q13 : shuV w6.heap.size g n c7 L c3 q b3 o3 b keep z (some ⟨b3, o3, none⟩) s 13 (V 13) W := hd.1
     have e13 : V 13 = .string s := q13
     clear q13
     have q14 : shuV w6.heap.size g n c7 L c3 q b3 o3 b keep z (some ⟨b3, o3, none⟩) s 14 (V 14) W := hd.2.1
     have e14 : V 14 = .int .i64 (keep : Int) := q14
     clear q14
     clear hd
     simp only [laidL, Act.put, List.setIfInBounds_toArray, List.set_cons_zero, List.set_cons_succ] at hK ⊢
     generalize V 13 = v13 at e13 hK ⊢
     subst e13
     generalize V 14 = v14 at e14 hK ⊢
     subst e14
     go_simp
     exact hK _ _ ⟨fun _ => ⟨Below.refl _ _, rfl⟩, fun h => absurd h (by decide)⟩
    ·intro V W hC hd K hK
     clear hd
     simp only [laidL, Act.put, List.setIfInBounds_toArray, List.set_cons_zero, List.set_cons_succ] at hK ⊢
     go_simp
     exact hK _ _ ⟨fun _ => ⟨Below.refl _ _, rfl⟩, fun h => absurd h (by decide)⟩
    ·intro V W hC hd K hK
     have q16 : shuV w6.heap.size g n c7 L c3 q b3 o3 b keep z (some ⟨b3, o3, none⟩) s 16 (V 16) W := hd.1
     have e16 : V 16 = .int .i64 (keep : Int) := q16
     clear q16
     clear hd
     simp only [laidL, Act.put, List.setIfInBounds_toArray, List.set_cons_zero, List.set_cons_succ] at hK ⊢
     generalize V 16 = v16 at e16 hK ⊢
     subst e16
     go_simp
     exact hK _ _ ⟨fun _ => ⟨Below.refl _ _, rfl⟩, fun h => absurd h (by decide)⟩
    ·intro V W hC hd K hK
     have q17 : shuV w6.heap.size g n c7 L c3 q b3 o3 b keep z (some ⟨b3, o3, none⟩) s 17 (V 17) W := hd.1
     have e17 : V 17 = .int .i64 (z : Int) := q17
     clear q17
     have q17 : shuV w6.heap.size g n c7 L c3 q b3 o3 b keep z (some ⟨b3, o3, none⟩) s 17 (V 17) W := hd.1
     have e17 : V 17 = .int .i64 (z : Int) := q17
     clear q17
     clear hd
     simp only [laidL, Act.put, List.setIfInBounds_toArray, List.set_cons_zero, List.set_cons_succ] at hK ⊢
     generalize V 17 = v17 at e17 hK ⊢
     subst e17
     generalize V 17 = v17 at e17 hK ⊢
     subst e17
     refine wp_make_full W _ _ 53 rfl w6.heap.size 5 u0 (.int .u8 0) 1 Tryz.underlying53 hu0 hv0 hv1 .i64 .i64 z z z rfl rfl rfl rfl ?_ ?_ hC.2.size ?_
     ·rw [hv2]; omega
     ·simp only [maxLen]; omega
     intro w' ho' hg'
     refine hK _ _ ⟨fun _ => ⟨(Below.refl _ _).grown hg' (Nat.le_refl _) (by intro k hk; cases hk), _, rfl, ?_⟩, fun h => absurd h (by decide)⟩
     rw [Nat.mul_one] at ho'
     exact ho'
    ·intro V W hC hd K hK
     have q18 : shuV w6.heap.size g n c7 L c3 q b3 o3 b keep z (some ⟨b3, o3, none⟩) s 18 (V 18) W := hd.1
     have q18 : zerV w6.heap.size z (V 18) W := q18
     have p18 := zerV_out q18
     clear q18
     cases p18
     rename_i b18 hh
     have e18 := hh.1
     have h18 := hh.2
     clear hh
     clear hd
     simp only [laidL, Act.put, List.setIfInBounds_toArray, List.set_cons_zero, List.set_cons_succ] at hK ⊢
     generalize V 18 = v18 at e18 hK ⊢
     subst e18
     have hcv := made_conv (w := w6) h18
     go_simp
     exact hK _ _ ⟨fun _ => ⟨Below.refl _ _, rfl⟩, fun h => absurd h (by decide)⟩
    ·intro V W hC hd K hK
     have q15 : shuV w6.heap.size g n c7 L c3 q b3 o3 b keep z (some ⟨b3, o3, none⟩) s 15 (V 15) W := hd.1
     have e15 : V 15 = .string (s.extract 0 keep) := q15
     clear q15
     have q19 : shuV w6.heap.size g n c7 L c3 q b3 o3 b keep z (some ⟨b3, o3, none⟩) s 19 (V 19) W := hd.2.1
     have e19 : V 19 = .string (zeroN z) := q19
     clear q19
     clear hd
     simp only [laidL, Act.put, List.setIfInBounds_toArray, List.set_cons_zero, List.set_cons_succ] at hK ⊢
     generalize V 15 = v15 at e15 hK ⊢
     subst e15
     generalize V 19 = v19 at e19 hK ⊢
     subst e19
     have hno2 : ¬ 9223372036854775807 < keep + (zeroN z).size := by rw [zeroN_mkB, mkB_size, List.length_replicate]; omega
     go_simp
     exact hK _ _ ⟨fun _ => ⟨Below.refl _ _, rfl⟩, fun h => absurd h (by decide)⟩
    ·intro V W hC hd K hK
     have q0 : shuV w6.heap.size g n c7 L c3 q b3 o3 b keep z (some ⟨b3, o3, none⟩) s 0 (V 0) W := hd.1
     have e0 : V 0 = .slice (some ⟨g, 0, none⟩) n c7 := q0
     clear q0
     have q5 : shuV w6.heap.size g n c7 L c3 q b3 o3 b keep z (some ⟨b3, o3, none⟩) s 5 (V 5) W := hd.2.1
     have e5 : V 5 = .int .i64 (b : Int) := q5
     clear q5
     clear hd
     simp only [laidL, Act.put, List.setIfInBounds_toArray, List.set_cons_zero, List.set_cons_succ] at hK ⊢
     generalize V 0 = v0 at e0 hK ⊢
     subst e0
     generalize V 5 = v5 at e5 hK ⊢
     subst e5
     go_simp
     exact hK _ _ ⟨fun _ => ⟨Below.refl _ _, rfl⟩, fun h => absurd h (by decide)⟩
    ·intro V W hC hd K hK
     have q21 : shuV w6.heap.size g n c7 L c3 q b3 o3 b keep z (some ⟨b3, o3, none⟩) s 21 (V 21) W := hd.1
     have e21 : V 21 = .pointer (some ⟨g, b, none⟩) := q21
     clear q21
     have q20 : shuV w6.heap.size g n c7 L c3 q b3 o3 b keep z (some ⟨b3, o3, none⟩) s 20 (V 20) W := hd.2.1
     have e20 : V 20 = .string (s.extract 0 keep ++ zeroN z) := q20
     clear q20
     clear hd
     simp only [laidL, Act.put, List.setIfInBounds_toArray, List.set_cons_zero, List.set_cons_succ] at hK ⊢
     generalize V 21 = v21 at e21 hK ⊢
     subst e21
     generalize V 20 = v20 at e20 hK ⊢
     subst e20
     have hO := hC.1
     have hB6 := hC.2
     have hc1 := hO.cell b hbn
     have hc2 := hO.free b
     generalize s.extract 0 keep ++ zeroN z = u at hK ⊢
     go_simp
     exact hK undef _ ⟨fun h => absurd rfl h, fun _ => ⟨hO.set b u, hO.below_set b _ (Nat.le_refl _) hB6⟩⟩
   ·intro V w8 hE
    have K8 := Lib.hid (show OwI w8 w6.heap.size g n c7 (m.set b (s.extract 0 keep ++ zeroN z)) ∧ BI w8 gx r ∧ Reads w8 w8.heap.size 1 (some ⟨b3, o3, none⟩) L (encN (dataR r)) ∧ Below w6.heap.size w6 w8 from ⟨hE.1, K6.out.2.1.step hE.2, HL6.out.step hE.2, hE.2⟩)
    clear hE
    have cL : ∀ W, Reads W W.heap.size 1 (some ⟨g, 0, none⟩) n (encS (m.set b (s.extract 0 keep ++ zeroN z))) → Reads W W.heap.size 1 (some ⟨b3, o3, none⟩) L (encN (dataR r)) → Calls Tryz.prog 48 #[.slice (some ⟨g, 0, none⟩) n c7, .int .i64 (k : Int), .agg (cellsI r).toArray, .int .i64 (size : Int), .slice (some ⟨b3, o3, none⟩) q c3, .int .i64 (r.ind : Int)] W fun e w' => ∃ g c, e = .returned (.slice (some ⟨g, 0, none⟩) n c) ∧ OwI w' W.heap.size g n c (saveR (m.set b (s.extract 0 keep ++ zeroN z)) (nameR r size ((dataR r).take q) r.ind)) ∧ Below W.heap.size W w' := fun W hW1 hW2 => by
     have h9 := refLaid_any (some ⟨g, 0, none⟩) (some ⟨b3, o3, none⟩) n c7 q c3 (m.set b (s.extract 0 keep ++ zeroN z)) k r size r.ind ((dataR r).take q) W hW1 (reads_take hW2 (by omega)) HMS.out h8 h5 HK.out.2 HR.out (by have := HS.out; omega) (fun x hx => by have := HLT.out x (List.mem_of_mem_take hx); omega) (by omega) (fun h => by have := HIND.out.1 h; have := HLQ.out.2; omega) (by omega) (by omega)
     rw [HNUM.out] at h9
     exact h9
    simp only [laidL, Act.put, List.setIfInBounds_toArray, List.set_cons_zero, List.set_cons_succ]
    go_upto_region 21 with fail
    refine wp_region_rel (fun w' => Below w8.heap.size w8 w') (fun _ wa wb => Below wa.heap.size wa wb) (shwV w8.heap.size g n c7 k size L c3 q (r.ind : Int) (some ⟨b3, o3, none⟩) r (saveR (m.set b (s.extract 0 keep ++ zeroN z)) (nameR r size ((dataR r).take q) r.ind))) hmx (by kernel_rfl) ((Below.refl _ _).drew) (fun i wa wb hC hs => bstep hC hs) (fun i j v wa wb _ hs h => shwV_stable w8.heap.size g n c7 k size L c3 q (r.ind : Int) (some ⟨b3, o3, none⟩) r (saveR (m.set b (s.extract 0 keep ++ zeroN z)) (nameR r size ((dataR r).take q) r.ind)) j v wa wb hs h) ?_ ?_
    ·refine ⟨?_, ?_, ?_, ?_, ?_, ?_, ?_, ?_, ?_, ?_, ?_, trivial⟩
     ·intro V W hC hd K hK
      clear hd
      simp only [laidL, Act.put, List.setIfInBounds_toArray, List.set_cons_zero, List.set_cons_succ] at hK ⊢
      go_simp
      exact hK _ _ ⟨Below.refl _ _, rfl⟩
     ·intro V W hC hd K hK
      clear hd
      simp only [laidL, Act.put, List.setIfInBounds_toArray, List.set_cons_zero, List.set_cons_succ] at hK ⊢
      go_simp
      exact hK _ _ ⟨Below.refl _ _, rfl⟩
     ·intro V W hC hd K hK
      clear hd
      simp only [laidL, Act.put, List.setIfInBounds_toArray, List.set_cons_zero, List.set_cons_succ] at hK ⊢
      refine wp_load_mid 47 (.tmp 8) rfl _ 0 rfl (cellsI r) _ (K8.out.2.1.step hC).range Tryz.underlying47 rfl (by rw [cellsI_length HR.out]; exact sizeIn) ?_
      exact hK (valI r) _ ⟨Below.refl _ _, rfl⟩
     ·intro V W hC hd K hK
      clear hd
      simp only [laidL, Act.put, List.setIfInBounds_toArray, List.set_cons_zero, List.set_cons_succ] at hK ⊢
      go_simp
      exact hK _ _ ⟨Below.refl _ _, rfl⟩
     ·intro V W hC hd K hK
      clear hd
      simp only [laidL, Act.put, List.setIfInBounds_toArray, List.set_cons_zero, List.set_cons_succ] at hK ⊢
      go_simp
      exact hK _ _ ⟨Below.refl _ _, rfl⟩
     ·intro V W hC hd K hK
      clear hd
      simp only [laidL, Act.put, List.setIfInBounds_toArray, List.set_cons_zero, List.set_cons_succ] at hK ⊢
      go_simp
      exact hK _ _ ⟨Below.refl _ _, rfl⟩
     ·intro V W hC hd K hK
      have q4 : shwV w8.heap.size g n c7 k size L c3 q (r.ind : Int) (some ⟨b3, o3, none⟩) r (saveR (m.set b (s.extract 0 keep ++ zeroN z)) (nameR r size ((dataR r).take q) r.ind)) 4 (V 4) W := hd.1
      have e4 : V 4 = .slice (some ⟨b3, o3, none⟩) L c3 := q4
      clear q4
      have q5 : shwV w8.heap.size g n c7 k size L c3 q (r.ind : Int) (some ⟨b3, o3, none⟩) r (saveR (m.set b (s.extract 0 keep ++ zeroN z)) (nameR r size ((dataR r).take q) r.ind)) 5 (V 5) W := hd.2.1
      have e5 : V 5 = .int .i64 (q : Int) := q5
      clear q5
      clear hd
      simp only [laidL, Act.put, List.setIfInBounds_toArray, List.set_cons_zero, List.set_cons_succ] at hK ⊢
      generalize V 4 = v4 at e4 hK ⊢
      subst e4
      generalize V 5 = v5 at e5 hK ⊢
      subst e5
      go_simp
      exact hK _ _ ⟨Below.refl _ _, rfl⟩
     ·intro V W hC hd K hK
      clear hd
      simp only [laidL, Act.put, List.setIfInBounds_toArray, List.set_cons_zero, List.set_cons_succ] at hK ⊢
      go_simp
      exact hK _ _ ⟨Below.refl _ _, rfl⟩
     ·intro V W hC hd K hK
      have q0 : shwV w8.heap.size g n c7 k size L c3 q (r.ind : Int) (some ⟨b3, o3, none⟩) r (saveR (m.set b (s.extract 0 keep ++ zeroN z)) (nameR r size ((dataR r).take q) r.ind)) 0 (V 0) W := hd.1
      have e0 : V 0 = .slice (some ⟨g, 0, none⟩) n c7 := q0
      clear q0
      have q1 : shwV w8.heap.size g n c7 k size L c3 q (r.ind : Int) (some ⟨b3, o3, none⟩) r (saveR (m.set b (s.extract 0 keep ++ zeroN z)) (nameR r size ((dataR r).take q) r.ind)) 1 (V 1) W := hd.2.1
      have e1 : V 1 = .int .i64 (k : Int) := q1
      clear q1
      have q2 : shwV w8.heap.size g n c7 k size L c3 q (r.ind : Int) (some ⟨b3, o3, none⟩) r (saveR (m.set b (s.extract 0 keep ++ zeroN z)) (nameR r size ((dataR r).take q) r.ind)) 2 (V 2) W := hd.2.2.1
      have e2 : V 2 = valI r := q2
      clear q2
      have q3 : shwV w8.heap.size g n c7 k size L c3 q (r.ind : Int) (some ⟨b3, o3, none⟩) r (saveR (m.set b (s.extract 0 keep ++ zeroN z)) (nameR r size ((dataR r).take q) r.ind)) 3 (V 3) W := hd.2.2.2.1
      have e3 : V 3 = .int .i64 (size : Int) := q3
      clear q3
      have q6 : shwV w8.heap.size g n c7 k size L c3 q (r.ind : Int) (some ⟨b3, o3, none⟩) r (saveR (m.set b (s.extract 0 keep ++ zeroN z)) (nameR r size ((dataR r).take q) r.ind)) 6 (V 6) W := hd.2.2.2.2.1
      have e6 : V 6 = .slice (some ⟨b3, o3, none⟩) q c3 := q6
      clear q6
      have q7 : shwV w8.heap.size g n c7 k size L c3 q (r.ind : Int) (some ⟨b3, o3, none⟩) r (saveR (m.set b (s.extract 0 keep ++ zeroN z)) (nameR r size ((dataR r).take q) r.ind)) 7 (V 7) W := hd.2.2.2.2.2.1
      have e7 : V 7 = .int .i64 (r.ind : Int) := q7
      clear q7
      clear hd
      simp only [laidL, Act.put, List.setIfInBounds_toArray, List.set_cons_zero, List.set_cons_succ] at hK ⊢
      generalize V 0 = v0 at e0 hK ⊢
      subst e0
      generalize V 1 = v1 at e1 hK ⊢
      subst e1
      generalize V 2 = v2 at e2 hK ⊢
      subst e2
      generalize V 3 = v3 at e3 hK ⊢
      subst e3
      generalize V 6 = v6 at e6 hK ⊢
      subst e6
      generalize V 7 = v7 at e7 hK ⊢
      subst e7
      go_simp
      go_at_call 48
      unfold valI
      refine (cL _ (K8.out.1.reads.step hC) (K8.out.2.2.1.step hC)).mono ?_
      rintro e w9 ⟨g9, c9, rfl, hO9, hb9⟩
      exact hK _ _ ⟨hb9, (g9, c9), rfl, hO9.low hC.size⟩
     ·intro V W hC hd K hK
      have q8 : shwV w8.heap.size g n c7 k size L c3 q (r.ind : Int) (some ⟨b3, o3, none⟩) r (saveR (m.set b (s.extract 0 keep ++ zeroN z)) (nameR r size ((dataR r).take q) r.ind)) 8 (V 8) W := hd.1
      have q8 : imgU w8.heap.size n (saveR (m.set b (s.extract 0 keep ++ zeroN z)) (nameR r size ((dataR r).take q) r.ind)) (V 8) W := q8
      have p8 := imgU_out q8
      clear q8
      cases p8
      rename_i b8 hh
      have e8 := hh.1
      have h8x := hh.2
      clear hh
      clear hd
      simp only [laidL, Act.put, List.setIfInBounds_toArray, List.set_cons_zero, List.set_cons_succ] at hK ⊢
      generalize V 8 = v8 at e8 hK ⊢
      subst e8
      go_simp
      exact hK _ _ ⟨Below.refl _ _, _, rfl, h8x⟩
     ·intro V W hC hd K hK
      clear hd
      simp only [laidL, Act.put, List.setIfInBounds_toArray, List.set_cons_zero, List.set_cons_succ] at hK ⊢
      go_simp
      exact hK _ _ ⟨Below.refl _ _, rfl⟩
    ·intro V9 w9 hC9 hV9
     have e9 : imgU w8.heap.size n (saveR (m.set b (s.extract 0 keep ++ zeroN z)) (nameR r size ((dataR r).take q) r.ind)) (V9 9) w9 := hV9 9 (show 9 < 11 by decide)
     have e10 : V9 10 = .int .i64 0 := hV9 10 (show 10 < 11 by decide)
     obtain ⟨⟨g9, c9⟩, e9, hO9⟩ := e9
     have KF := Lib.hid (And.intro (hO9.low (Nat.le_trans K6.out.1.size (Nat.le_trans K8.out.2.2.2.size (Nat.le_refl _)))) ((bstep (K6.out.1.trans (K8.out.2.2.2.mono K6.out.1.size)) hC9)))
     clear hV9 hC9 hO9 cL
     simp only [laidL, Act.put, List.setIfInBounds_toArray, List.set_cons_zero, List.set_cons_succ]
     generalize V9 9 = v9 at e9 ⊢
     generalize V9 10 = v10 at e10 ⊢
     subst e9
     subst e10
     go_wp2
     go_ret2
     rw [HRES.out]
     exact ⟨g9, n, c9, rfl, KF.out.1, h5, KF.out.2⟩
 ·have hip : (0 : Int) < (r.ind : Int) := by omega
  have hid : decide ((0 : Int) < (r.ind : Int)) = true := decide_eq_true hip
  by_cases hq4 : q ≤ 4
  ·have hie : ind = 0 := by rw [HIND.out.2, if_pos ⟨by have := HLQ.out.2; omega, hi0⟩]
   subst hie
   have hqd4 : decide ((q : Int) ≤ 4) = true := decide_eq_true (by omega)
   have hin0 : 0 < r.ind := by omega
   have hin1 : decide (0 < r.ind) = true := decide_eq_true hin0
   have hin2 : decide (q ≤ 4) = true := decide_eq_true hq4
   have hq4i : (q : Int) ≤ 4 := by omega
   have HO5 := Lib.hid K4.out.2.2.2
   go_wp2_with (at_builtin; refine wpList_append_reads _ rfl (.tmp 66) (.tmp 68) 49 rfl w3.heap.size 3 i0 _ 1 8 Tryz.underlying49 hj0 hy0 hy1 hy2 rfl (by omega) (.slice A5 p c5) p (encN ((dataR r).drop q)) rfl (own_alloc HO5.out _) _ (some ⟨w4.heap.size, 0, none⟩) 1 1 (encN [r.ind]) rfl (reads_new w4 _ 3 1 1 rfl) (encN_one _) (by unfold maxLen; omega) (by omega) (by simp; omega) ?_; intro A6 c6 w6 ho6 hg6 _)
   have hb46 : Below w3.heap.size w4 w6 := ((Below.refl _ w4).alloc h34 _).grown hg6 (by simp; omega) (fun q hq => own_row_ge HO5.out _ hq)
   have K6 := Lib.hid (show Below w.heap.size w w6 ∧ BI w6 gx r ∧ w6.ownsRow w.heap.size 3 1 (.slice A3 L c3) L (encN (dataR r)) ∧ w6.ownsRow w3.heap.size 3 1 (.slice A6 (p + 1) c6) (p + 1) (encN back) from by
    have hbk : back = (dataR r).drop q ++ [r.ind] := by rw [HB.out, if_pos ⟨by have := HLQ.out.2; omega, hi0⟩, ← HLQ.out.2]
    rw [hbk, encN_app]
    exact ⟨K4.out.1.trans (hb46.mono hw03), (hb46.block gx hgx3).trans K4.out.2.1, own_below HO3.out (HB34.out.trans hb46), ho6⟩)
   clear K4 ho6 hg6 hb46 HO5
   refine (cV A6 (p + 1) c6 w6 (H.out.step K6.out.1) (by have h9 := Reads.of_own K6.out.2.2.2; rw [← show encI (castN back) = encN back from HNB.out] at h9; exact h9) (by omega)).mono ?_
   rintro e w7 ⟨g, n7, c7, rfl, hO7, hn7, hb7⟩
   have en : n = n7 := by have := hO7.len; omega
   subst en
   have K7 := Lib.hid (And.intro hO7 hb7)
   have HL6 := Lib.hid (Reads.of_own K6.out.2.2.1)
   have hg6 := hO7.ge
   clear hO7 hb7 cV hn7
   by_cases hq0 : q = 0
   ·have hqd : decide ((0 : Int) < (q : Int)) = false := decide_eq_false (by omega)
    have hqn : ¬ (0 : Int) < (q : Int) := by omega
    have hqe : decide (0 < q) = false := decide_eq_false (by omega)
    have HQ0 := Lib.hid hq0
    clear hq0
    have HRES : Hid (X = saveR m (nameR r size ((dataR r).take q) 0)) := Lib.hid (by
     have e := HLQ.out.2
     have hq0 := HQ0.out
     rw [HX.out, ← e, if_neg (by unfold needN at e; omega)])
    have K8 := Lib.hid (show OwI w7 w6.heap.size g n c7 m ∧ BI w7 gx r ∧ Reads w7 w7.heap.size 1 A3 L (encN (dataR r)) ∧ Below w6.heap.size w6 w7 from ⟨K7.out.1, K6.out.2.1.step K7.out.2, HL6.out.step K7.out.2, K7.out.2⟩)
    have cL : ∀ W, Reads W W.heap.size 1 (some ⟨g, 0, none⟩) n (encS m) → Reads W W.heap.size 1 A3 L (encN (dataR r)) → Calls Tryz.prog 48 #[.slice (some ⟨g, 0, none⟩) n c7, .int .i64 (k : Int), .agg (cellsI r).toArray, .int .i64 (size : Int), .slice A3 q c3, .int .i64 0] W fun e w' => ∃ g c, e = .returned (.slice (some ⟨g, 0, none⟩) n c) ∧ OwI w' W.heap.size g n c (saveR m (nameR r size ((dataR r).take q) 0)) ∧ Below W.heap.size W w' := fun W hW1 hW2 => by
     have h9 := refLaid_any (some ⟨g, 0, none⟩) A3 n c7 q c3 m k r size 0 ((dataR r).take q) W hW1 (reads_take hW2 (by omega)) HBLK.out h8 h5 HK.out.2 HR.out (by have := HS.out; omega) (fun x hx => by have := HLT.out x (List.mem_of_mem_take hx); omega) (by omega) (fun h => by have := HIND.out.1 h; have := HLQ.out.2; omega) (by omega) (by omega)
     rw [HNUM.out] at h9
     exact h9
    go_upto_region 21 with fail
    try simp only [hid, hin1, hin2, hqd4, hqd, hqe]
    clear hip hid hin0 hin1 hin2 hqd4 hq4i hqe hqd hqn
    refine wp_region_rel (fun w' => Below w7.heap.size w7 w') (fun _ wa wb => Below wa.heap.size wa wb) (shwV w7.heap.size g n c7 k size L c3 q 0 A3 r (saveR (m) (nameR r size ((dataR r).take q) 0))) hmx (by kernel_rfl) ((Below.refl _ _).drew) (fun i wa wb hC hs => bstep hC hs) (fun i j v wa wb _ hs h => shwV_stable w7.heap.size g n c7 k size L c3 q 0 A3 r (saveR (m) (nameR r size ((dataR r).take q) 0)) j v wa wb hs h) ?_ ?_
    ·refine ⟨?_, ?_, ?_, ?_, ?_, ?_, ?_, ?_, ?_, ?_, ?_, trivial⟩
     ·intro V W hC hd K hK
      clear hd
      simp only [laidL, Act.put, List.setIfInBounds_toArray, List.set_cons_zero, List.set_cons_succ] at hK ⊢
      go_simp
      exact hK _ _ ⟨Below.refl _ _, rfl⟩
     ·intro V W hC hd K hK
      clear hd
      simp only [laidL, Act.put, List.setIfInBounds_toArray, List.set_cons_zero, List.set_cons_succ] at hK ⊢
      go_simp
      exact hK _ _ ⟨Below.refl _ _, rfl⟩
     ·intro V W hC hd K hK
      clear hd
      simp only [laidL, Act.put, List.setIfInBounds_toArray, List.set_cons_zero, List.set_cons_succ] at hK ⊢
      refine wp_load_mid 47 (.tmp 8) rfl _ 0 rfl (cellsI r) _ (K8.out.2.1.step hC).range Tryz.underlying47 rfl (by rw [cellsI_length HR.out]; exact sizeIn) ?_
      exact hK (valI r) _ ⟨Below.refl _ _, rfl⟩
     ·intro V W hC hd K hK
      clear hd
      simp only [laidL, Act.put, List.setIfInBounds_toArray, List.set_cons_zero, List.set_cons_succ] at hK ⊢
      go_simp
      exact hK _ _ ⟨Below.refl _ _, rfl⟩
     ·intro V W hC hd K hK
      clear hd
      simp only [laidL, Act.put, List.setIfInBounds_toArray, List.set_cons_zero, List.set_cons_succ] at hK ⊢
      go_simp
      exact hK _ _ ⟨Below.refl _ _, rfl⟩
     ·intro V W hC hd K hK
      clear hd
      simp only [laidL, Act.put, List.setIfInBounds_toArray, List.set_cons_zero, List.set_cons_succ] at hK ⊢
      go_simp
      exact hK _ _ ⟨Below.refl _ _, rfl⟩
     ·intro V W hC hd K hK
      have q4 : shwV w7.heap.size g n c7 k size L c3 q 0 A3 r (saveR (m) (nameR r size ((dataR r).take q) 0)) 4 (V 4) W := hd.1
      have e4 : V 4 = .slice A3 L c3 := q4
      clear q4
      have q5 : shwV w7.heap.size g n c7 k size L c3 q 0 A3 r (saveR (m) (nameR r size ((dataR r).take q) 0)) 5 (V 5) W := hd.2.1
      have e5 : V 5 = .int .i64 (q : Int) := q5
      clear q5
      clear hd
      simp only [laidL, Act.put, List.setIfInBounds_toArray, List.set_cons_zero, List.set_cons_succ] at hK ⊢
      generalize V 4 = v4 at e4 hK ⊢
      subst e4
      generalize V 5 = v5 at e5 hK ⊢
      subst e5
      go_simp
      exact hK _ _ ⟨Below.refl _ _, rfl⟩
     ·intro V W hC hd K hK
      clear hd
      simp only [laidL, Act.put, List.setIfInBounds_toArray, List.set_cons_zero, List.set_cons_succ] at hK ⊢
      go_simp
      exact hK _ _ ⟨Below.refl _ _, rfl⟩
     ·intro V W hC hd K hK
      have q0 : shwV w7.heap.size g n c7 k size L c3 q 0 A3 r (saveR (m) (nameR r size ((dataR r).take q) 0)) 0 (V 0) W := hd.1
      have e0 : V 0 = .slice (some ⟨g, 0, none⟩) n c7 := q0
      clear q0
      have q1 : shwV w7.heap.size g n c7 k size L c3 q 0 A3 r (saveR (m) (nameR r size ((dataR r).take q) 0)) 1 (V 1) W := hd.2.1
      have e1 : V 1 = .int .i64 (k : Int) := q1
      clear q1
      have q2 : shwV w7.heap.size g n c7 k size L c3 q 0 A3 r (saveR (m) (nameR r size ((dataR r).take q) 0)) 2 (V 2) W := hd.2.2.1
      have e2 : V 2 = valI r := q2
      clear q2
      have q3 : shwV w7.heap.size g n c7 k size L c3 q 0 A3 r (saveR (m) (nameR r size ((dataR r).take q) 0)) 3 (V 3) W := hd.2.2.2.1
      have e3 : V 3 = .int .i64 (size : Int) := q3
      clear q3
      have q6 : shwV w7.heap.size g n c7 k size L c3 q 0 A3 r (saveR (m) (nameR r size ((dataR r).take q) 0)) 6 (V 6) W := hd.2.2.2.2.1
      have e6 : V 6 = .slice A3 q c3 := q6
      clear q6
      have q7 : shwV w7.heap.size g n c7 k size L c3 q 0 A3 r (saveR (m) (nameR r size ((dataR r).take q) 0)) 7 (V 7) W := hd.2.2.2.2.2.1
      have e7 : V 7 = .int .i64 0 := q7
      clear q7
      clear hd
      simp only [laidL, Act.put, List.setIfInBounds_toArray, List.set_cons_zero, List.set_cons_succ] at hK ⊢
      generalize V 0 = v0 at e0 hK ⊢
      subst e0
      generalize V 1 = v1 at e1 hK ⊢
      subst e1
      generalize V 2 = v2 at e2 hK ⊢
      subst e2
      generalize V 3 = v3 at e3 hK ⊢
      subst e3
      generalize V 6 = v6 at e6 hK ⊢
      subst e6
      generalize V 7 = v7 at e7 hK ⊢
      subst e7
      go_simp
      go_at_call 48
      unfold valI
      refine (cL _ (K8.out.1.reads.step hC) (K8.out.2.2.1.step hC)).mono ?_
      rintro e w9 ⟨g9, c9, rfl, hO9, hb9⟩
      exact hK _ _ ⟨hb9, (g9, c9), rfl, hO9.low hC.size⟩
     ·intro V W hC hd K hK
      have q8 : shwV w7.heap.size g n c7 k size L c3 q 0 A3 r (saveR (m) (nameR r size ((dataR r).take q) 0)) 8 (V 8) W := hd.1
      have q8 : imgU w7.heap.size n (saveR (m) (nameR r size ((dataR r).take q) 0)) (V 8) W := q8
      have p8 := imgU_out q8
      clear q8
      cases p8
      rename_i b8 hh
      have e8 := hh.1
      have h8x := hh.2
      clear hh
      clear hd
      simp only [laidL, Act.put, List.setIfInBounds_toArray, List.set_cons_zero, List.set_cons_succ] at hK ⊢
      generalize V 8 = v8 at e8 hK ⊢
      subst e8
      go_simp
      exact hK _ _ ⟨Below.refl _ _, _, rfl, h8x⟩
     ·intro V W hC hd K hK
      clear hd
      simp only [laidL, Act.put, List.setIfInBounds_toArray, List.set_cons_zero, List.set_cons_succ] at hK ⊢
      go_simp
      exact hK _ _ ⟨Below.refl _ _, rfl⟩
    ·intro V9 w9 hC9 hV9
     have e9 : imgU w7.heap.size n (saveR (m) (nameR r size ((dataR r).take q) 0)) (V9 9) w9 := hV9 9 (show 9 < 11 by decide)
     have e10 : V9 10 = .int .i64 0 := hV9 10 (show 10 < 11 by decide)
     obtain ⟨⟨g9, c9⟩, e9, hO9⟩ := e9
     have KF := Lib.hid (And.intro (hO9.low (Nat.le_trans K6.out.1.size (Nat.le_trans K8.out.2.2.2.size (Nat.le_refl _)))) ((bstep (K6.out.1.trans (K8.out.2.2.2.mono K6.out.1.size)) hC9)))
     clear hV9 hC9 hO9 cL
     simp only [laidL, Act.put, List.setIfInBounds_toArray, List.set_cons_zero, List.set_cons_succ]
     generalize V9 9 = v9 at e9 ⊢
     generalize V9 10 = v10 at e10 ⊢
     subst e9
     subst e10
     go_wp2
     go_ret2
     rw [HRES.out]
     exact ⟨g9, n, c9, rfl, KF.out.1, h5, KF.out.2⟩
   ·have hqd : decide ((0 : Int) < (q : Int)) = true := decide_eq_true (by omega)
    have hqn : (0 : Int) < (q : Int) := by omega
    have hqe : decide (0 < q) = true := decide_eq_true (by omega)
    have hqL : q - 1 < L := by omega
    obtain ⟨b, hb⟩ : ∃ b, b = ((dataR r).take q).getD (q - 1) 0 := ⟨_, rfl⟩
    obtain ⟨keep, hke⟩ : ∃ keep, keep = size - (q - 1) * 128 := ⟨_, rfl⟩
    have hbd : b = (dataR r).getD (q - 1) 0 := by rw [hb, List.getD_eq_getElem?_getD, List.getD_eq_getElem?_getD, List.getElem?_take, if_pos (by omega)]
    have hbn : b < n := by rw [hbd]; exact HLT.out _ (by rw [List.getD_eq_getElem?_getD, List.getElem?_eq_getElem (by omega)]; exact List.getElem_mem _)
    obtain ⟨s, hs⟩ : ∃ s, s = blk m b := ⟨_, rfl⟩
    have hss : s.size = 128 := by rw [hs]; exact HBLK.out _ (by unfold blk; rw [List.getD_eq_getElem?_getD, List.getElem?_eq_getElem (by omega)]; exact List.getElem_mem _)
    have HKQ : Hid (size = keep + (q - 1) * 128) := Lib.hid (by have e := HLQ.out.2; unfold needN at e; omega)
    have hkq : keep ≤ 128 := by have e := HLQ.out.2; unfold needN at e; omega
    obtain ⟨z, hz⟩ : ∃ z, z = 128 - keep := ⟨_, rfl⟩
    have HRES : Hid (X = saveR (m.set b (s.extract 0 keep ++ zeroN z)) (nameR r size ((dataR r).take q) 0)) := Lib.hid (by
     have e := HLQ.out.2
     have h9 := HLP.out b hbn (by omega)
     rw [HX.out]
     rw [← e] at h9 ⊢
     rw [← hb, ← h9, hz, hke, hs])
    have HMS : Hid (∀ x ∈ m.set b (s.extract 0 keep ++ zeroN z), x.size = 128) := Lib.hid (fun x hx => by
     rcases List.mem_or_eq_of_mem_set hx with h | h
     ·exact HBLK.out x h
     ·rw [h, ByteArray.size_append, ByteArray.size_extract, zeroN_mkB, mkB_size, List.length_replicate]; omega)
    have HBV := Lib.hid hbd
    have HZ := Lib.hid hz
    have HSV := Lib.hid hs
    have hzk : z + keep = 128 := by omega
    clear hb hbd hs hz hke
    obtain ⟨u0, hu0, hv0, hv1, hv2⟩ := info_parts infoUA
    obtain ⟨b3, o3, rfl, hb36, _⟩ := HL6.out.nat hqL
    have hkI : (size : Int) - ((q : Int) - 1) * 128 = (keep : Int) := by have := HKQ.out; omega
    have hw1 : IntKind.i64.wrap ((q : Int) - 1) = (q : Int) - 1 := by rw [IntKind.wrap_i64]; omega
    have hw2 : IntKind.i64.wrap (((q : Int) - 1) * 128) = ((q : Int) - 1) * 128 := by rw [IntKind.wrap_i64]; omega
    have hw3 : IntKind.i64.wrap ((size : Int) - ((q : Int) - 1) * 128) = (size : Int) - ((q : Int) - 1) * 128 := by rw [IntKind.wrap_i64]; omega
    go_upto_region 20 with fail
    try rw [hkI]
    have hzI : (128 : Int) - (keep : Int) = (z : Int) := by omega
    have hw4 : IntKind.i64.wrap ((128 : Int) - (keep : Int)) = (z : Int) := by rw [IntKind.wrap_i64]; omega
    have hw5 : IntKind.i64.wrap (z : Int) = (z : Int) := by rw [IntKind.wrap_i64]; omega
    have hq1 : ((q : Int) - 1).toNat = q - 1 := by omega
    have hq2 : (0 : Int) ≤ (q : Int) - 1 := by omega
    have hq5 : (1 : Int) ≤ (q : Int) := by omega
    have hq3 : (q : Int) - 1 < (L : Int) := by omega
    have hk0 : (0 : Int) ≤ (keep : Int) := by omega
    have hk1 : (keep : Int) ≤ 128 := by omega
    have hbnI : (b : Int) < (n : Int) := by omega
    clear hkI hw2 hw3
    try simp only [hid, hin1, hin2, hqd4, hqd, hqe]
    clear hip hid hin0 hin1 hin2 hqd4 hq4i hqe hqd hqn
    refine wp_region_last [[], [], [], [2], [1, 3], [4], [], [], [], [8], [7, 9], [10], [6, 11], [12], [], [13, 14], [], [16], [17, 17], [18], [15, 19], [0, 5, 0, 1, 2, 3, 4, 5, 6, 7, 8, 9, 10, 11, 12, 13, 14, 15, 16, 17, 18, 19, 20], [21, 20, 0, 1, 2, 3, 4, 5, 6, 7, 8, 9, 10, 11, 12, 13, 14, 15, 16, 17, 18, 19, 20]] 22 (fun W => OwI W w6.heap.size g n c7 m ∧ Below w6.heap.size w6 W) (fun W => OwI W w6.heap.size g n c7 (m.set b (s.extract 0 keep ++ zeroN z)) ∧ Below w6.heap.size w6 W) (shuV w6.heap.size g n c7 L c3 q b3 o3 b keep z (some ⟨b3, o3, none⟩) s) hmx (by kernel_rfl) (by kernel_rfl) rfl (by decide) (by decide) ⟨K7.out.1.step (Below.refl _ _).drew, K7.out.2.drew⟩ (fun W W' hb hD => ⟨hD.1.step hb, bstep hD.2 hb⟩) (fun j v W W' hb h => shuV_stable w6.heap.size g n c7 L c3 q b3 o3 b keep z (some ⟨b3, o3, none⟩) s j v W W' hb h) ?_ ?_
    ·refine ⟨?_, ?_, ?_, ?_, ?_, ?_, ?_, ?_, ?_, ?_, ?_, ?_, ?_, ?_, ?_, ?_, ?_, ?_, ?_, ?_, ?_, ?_, ?_, trivial⟩
     ·intro V W hC hd K hK
      clear hd
      simp only [laidL, Act.put, List.setIfInBounds_toArray, List.set_cons_zero, List.set_cons_succ] at hK ⊢
      go_simp
      exact hK _ _ ⟨fun _ => ⟨Below.refl _ _, rfl⟩, fun h => absurd h (by decide)⟩
     ·intro V W hC hd K hK
      clear hd
      simp only [laidL, Act.put, List.setIfInBounds_toArray, List.set_cons_zero, List.set_cons_succ] at hK ⊢
      go_simp
      exact hK _ _ ⟨fun _ => ⟨Below.refl _ _, rfl⟩, fun h => absurd h (by decide)⟩
     ·intro V W hC hd K hK
      clear hd
      simp only [laidL, Act.put, List.setIfInBounds_toArray, List.set_cons_zero, List.set_cons_succ] at hK ⊢
      go_simp
      exact hK _ _ ⟨fun _ => ⟨Below.refl _ _, rfl⟩, fun h => absurd h (by decide)⟩
     ·intro V W hC hd K hK
      have q2 : shuV w6.heap.size g n c7 L c3 q b3 o3 b keep z (some ⟨b3, o3, none⟩) s 2 (V 2) W := hd.1
      have e2 : V 2 = .int .i64 (q : Int) := q2
      clear q2
      clear hd
      simp only [laidL, Act.put, List.setIfInBounds_toArray, List.set_cons_zero, List.set_cons_succ] at hK ⊢
      generalize V 2 = v2 at e2 hK ⊢
      subst e2
      go_simp
      exact hK _ _ ⟨fun _ => ⟨Below.refl _ _, rfl⟩, fun h => absurd h (by decide)⟩
     ·intro V W hC hd K hK
      have q1 : shuV w6.heap.size g n c7 L c3 q b3 o3 b keep z (some ⟨b3, o3, none⟩) s 1 (V 1) W := hd.1
      have e1 : V 1 = .slice (some ⟨b3, o3, none⟩) L c3 := q1
      clear q1
      have q3 : shuV w6.heap.size g n c7 L c3 q b3 o3 b keep z (some ⟨b3, o3, none⟩) s 3 (V 3) W := hd.2.1
      have e3 : V 3 = .int .i64 ((q : Int) - 1) := q3
      clear q3
      clear hd
      simp only [laidL, Act.put, List.setIfInBounds_toArray, List.set_cons_zero, List.set_cons_succ] at hK ⊢
      generalize V 1 = v1 at e1 hK ⊢
      subst e1
      generalize V 3 = v3 at e3 hK ⊢
      subst e3
      go_simp
      refine hK _ _ ⟨fun _ => ⟨Below.refl _ _, ?_⟩, fun h => absurd h (by decide)⟩
      exact congrArg (fun x => Value.pointer (some ⟨b3, x, none⟩)) (by omega)
     ·intro V W hC hd K hK
      have q4 : shuV w6.heap.size g n c7 L c3 q b3 o3 b keep z (some ⟨b3, o3, none⟩) s 4 (V 4) W := hd.1
      have e4 : V 4 = .pointer (some ⟨b3, o3 + (q - 1), none⟩) := q4
      clear q4
      clear hd
      simp only [laidL, Act.put, List.setIfInBounds_toArray, List.set_cons_zero, List.set_cons_succ] at hK ⊢
      generalize V 4 = v4 at e4 hK ⊢
      subst e4
      have hc := (HL6.out.step hC.2)
      have hcell : W.cell? ⟨b3, o3 + (q - 1), none⟩ = some (.int .i64 (b : Int)) := by
       obtain ⟨b9, o9, e9, _, h9⟩ := hc.nat hqL
       injection e9 with e9
       injection e9 with e1 e2
       rw [← e1, ← e2] at h9
       rw [h9, HBV.out]
      clear hc
      go_simp
      exact hK _ _ ⟨fun _ => ⟨Below.refl _ _, rfl⟩, fun h => absurd h (by decide)⟩
     ·intro V W hC hd K hK
      clear hd
      simp only [laidL, Act.put, List.setIfInBounds_toArray, List.set_cons_zero, List.set_cons_succ] at hK ⊢
      go_simp
      exact hK _ _ ⟨fun _ => ⟨Below.refl _ _, rfl⟩, fun h => absurd h (by decide)⟩
     ·intro V W hC hd K hK
      clear hd
      simp only [laidL, Act.put, List.setIfInBounds_toArray, List.set_cons_zero, List.set_cons_succ] at hK ⊢
      go_simp
      exact hK _ _ ⟨fun _ => ⟨Below.refl _ _, rfl⟩, fun h => absurd h (by decide)⟩
     ·intro V W hC hd K hK
      clear hd
      simp only [laidL, Act.put, List.setIfInBounds_toArray, List.set_cons_zero, List.set_cons_succ] at hK ⊢
      go_simp
      exact hK _ _ ⟨fun _ => ⟨Below.refl _ _, rfl⟩, fun h => absurd h (by decide)⟩
     ·intro V W hC hd K hK
      have q8 : shuV w6.heap.size g n c7 L c3 q b3 o3 b keep z (some ⟨b3, o3, none⟩) s 8 (V 8) W := hd.1
      have e8 : V 8 = .int .i64 (q : Int) := q8
      clear q8
      clear hd
      simp only [laidL, Act.put, List.setIfInBounds_toArray, List.set_cons_zero, List.set_cons_succ] at hK ⊢
      generalize V 8 = v8 at e8 hK ⊢
      subst e8
      go_simp
      exact hK _ _ ⟨fun _ => ⟨Below.refl _ _, rfl⟩, fun h => absurd h (by decide)⟩
     ·intro V W hC hd K hK
      have q7 : shuV w6.heap.size g n c7 L c3 q b3 o3 b keep z (some ⟨b3, o3, none⟩) s 7 (V 7) W := hd.1
      have e7 : V 7 = .slice (some ⟨b3, o3, none⟩) L c3 := q7
      clear q7
      have q9 : shuV w6.heap.size g n c7 L c3 q b3 o3 b keep z (some ⟨b3, o3, none⟩) s 9 (V 9) W := hd.2.1
      have e9 : V 9 = .int .i64 ((q : Int) - 1) := q9
      clear q9
      clear hd
      simp only [laidL, Act.put, List.setIfInBounds_toArray, List.set_cons_zero, List.set_cons_succ] at hK ⊢
      generalize V 7 = v7 at e7 hK ⊢
      subst e7
      generalize V 9 = v9 at e9 hK ⊢
      subst e9
      go_simp
      refine hK _ _ ⟨fun _ => ⟨Below.refl _ _, ?_⟩, fun h => absurd h (by decide)⟩
      exact congrArg (fun x => Value.pointer (some ⟨b3, x, none⟩)) (by omega)
     ·intro V W hC hd K hK
      have q10 : shuV w6.heap.size g n c7 L c3 q b3 o3 b keep z (some ⟨b3, o3, none⟩) s 10 (V 10) W := hd.1
      have e10 : V 10 = .pointer (some ⟨b3, o3 + (q - 1), none⟩) := q10
      clear q10
      clear hd
      simp only [laidL, Act.put, List.setIfInBounds_toArray, List.set_cons_zero, List.set_cons_succ] at hK ⊢
      generalize V 10 = v10 at e10 hK ⊢
      subst e10
      have hc := (HL6.out.step hC.2)
      have hcell : W.cell? ⟨b3, o3 + (q - 1), none⟩ = some (.int .i64 (b : Int)) := by
       obtain ⟨b9, o9, e9, _, h9⟩ := hc.nat hqL
       injection e9 with e9
       injection e9 with e1 e2
       rw [← e1, ← e2] at h9
       rw [h9, HBV.out]
      clear hc
      go_simp
      exact hK _ _ ⟨fun _ => ⟨Below.refl _ _, rfl⟩, fun h => absurd h (by decide)⟩
     ·intro V W hC hd K hK
      have q6 : shuV w6.heap.size g n c7 L c3 q b3 o3 b keep z (some ⟨b3, o3, none⟩) s 6 (V 6) W := hd.1
      have e6 : V 6 = .slice (some ⟨g, 0, none⟩) n c7 := q6
      clear q6
      have q11 : shuV w6.heap.size g n c7 L c3 q b3 o3 b keep z (some ⟨b3, o3, none⟩) s 11 (V 11) W := hd.2.1
      have e11 : V 11 = .int .i64 (b : Int) := q11
      clear q11
      clear hd
      simp only [laidL, Act.put, List.setIfInBounds_toArray, List.set_cons_zero, List.set_cons_succ] at hK ⊢
      generalize V 6 = v6 at e6 hK ⊢
      subst e6
      generalize V 11 = v11 at e11 hK ⊢
      subst e11
      go_simp
      exact hK _ _ ⟨fun _ => ⟨Below.refl _ _, rfl⟩, fun h => absurd h (by decide)⟩
     ·intro V W hC hd K hK
      have q12 : shuV w6.heap.size g n c7 L c3 q b3 o3 b keep z (some ⟨b3, o3, none⟩) s 12 (V 12) W := hd.1
      have e12 : V 12 = .pointer (some ⟨g, b, none⟩) := q12
      clear q12
      clear hd
      simp only [laidL, Act.put, List.setIfInBounds_toArray, List.set_cons_zero, List.set_cons_succ] at hK ⊢
      generalize V 12 = v12 at e12 hK ⊢
      subst e12
      have hcell : W.cell? ⟨g, b, none⟩ = some (.string s) := by
       have h9 := hC.1.cell b hbn
       rw [HSV.out]; exact h9
      go_simp
      exact hK _ _ ⟨fun _ => ⟨Below.refl _ _, rfl⟩, fun h => absurd h (by decide)⟩
     ·intro V W hC hd K hK
      clear hd
      simp only [laidL, Act.put, List.setIfInBounds_toArray, List.set_cons_zero, List.set_cons_succ] at hK ⊢
      go_simp
      exact hK _ _ ⟨fun _ => ⟨Below.refl _ _, rfl⟩, fun h => absurd h (by decide)⟩
     ·intro V W hC hd K hK
      have q13 : shuV w6.heap.size g n c7 L c3 q b3 o3 b keep z (some ⟨b3, o3, none⟩) s 13 (V 13) W := hd.1
      have e13 : V 13 = .string s := q13
      clear q13
      have q14 : shuV w6.heap.size g n c7 L c3 q b3 o3 b keep z (some ⟨b3, o3, none⟩) s 14 (V 14) W := hd.2.1
      have e14 : V 14 = .int .i64 (keep : Int) := q14
      clear q14
      clear hd
      simp only [laidL, Act.put, List.setIfInBounds_toArray, List.set_cons_zero, List.set_cons_succ] at hK ⊢
      generalize V 13 = v13 at e13 hK ⊢
      subst e13
      generalize V 14 = v14 at e14 hK ⊢
      subst e14
      go_simp
      exact hK _ _ ⟨fun _ => ⟨Below.refl _ _, rfl⟩, fun h => absurd h (by decide)⟩
     ·intro V W hC hd K hK
      clear hd
      simp only [laidL, Act.put, List.setIfInBounds_toArray, List.set_cons_zero, List.set_cons_succ] at hK ⊢
      go_simp
      exact hK _ _ ⟨fun _ => ⟨Below.refl _ _, rfl⟩, fun h => absurd h (by decide)⟩
     ·intro V W hC hd K hK
      have q16 : shuV w6.heap.size g n c7 L c3 q b3 o3 b keep z (some ⟨b3, o3, none⟩) s 16 (V 16) W := hd.1
      have e16 : V 16 = .int .i64 (keep : Int) := q16
      clear q16
      clear hd
      simp only [laidL, Act.put, List.setIfInBounds_toArray, List.set_cons_zero, List.set_cons_succ] at hK ⊢
      generalize V 16 = v16 at e16 hK ⊢
      subst e16
      go_simp
      exact hK _ _ ⟨fun _ => ⟨Below.refl _ _, rfl⟩, fun h => absurd h (by decide)⟩
     ·intro V W hC hd K hK
      have q17 : shuV w6.heap.size g n c7 L c3 q b3 o3 b keep z (some ⟨b3, o3, none⟩) s 17 (V 17) W := hd.1
      have e17 : V 17 = .int .i64 (z : Int) := q17
      clear q17
      have q17 : shuV w6.heap.size g n c7 L c3 q b3 o3 b keep z (some ⟨b3, o3, none⟩) s 17 (V 17) W := hd.1
      have e17 : V 17 = .int .i64 (z : Int) := q17
      clear q17
      clear hd
      simp only [laidL, Act.put, List.setIfInBounds_toArray, List.set_cons_zero, List.set_cons_succ] at hK ⊢
      generalize V 17 = v17 at e17 hK ⊢
      subst e17
      generalize V 17 = v17 at e17 hK ⊢
      subst e17
      refine wp_make_full W _ _ 53 rfl w6.heap.size 5 u0 (.int .u8 0) 1 Tryz.underlying53 hu0 hv0 hv1 .i64 .i64 z z z rfl rfl rfl rfl ?_ ?_ hC.2.size ?_
      ·rw [hv2]; omega
      ·simp only [maxLen]; omega
      intro w' ho' hg'
      refine hK _ _ ⟨fun _ => ⟨(Below.refl _ _).grown hg' (Nat.le_refl _) (by intro k hk; cases hk), _, rfl, ?_⟩, fun h => absurd h (by decide)⟩
      rw [Nat.mul_one] at ho'
      exact ho'
     ·intro V W hC hd K hK
      have q18 : shuV w6.heap.size g n c7 L c3 q b3 o3 b keep z (some ⟨b3, o3, none⟩) s 18 (V 18) W := hd.1
      have q18 : zerV w6.heap.size z (V 18) W := q18
      have p18 := zerV_out q18
      clear q18
      cases p18
      rename_i b18 hh
      have e18 := hh.1
      have h18 := hh.2
      clear hh
      clear hd
      simp only [laidL, Act.put, List.setIfInBounds_toArray, List.set_cons_zero, List.set_cons_succ] at hK ⊢
      generalize V 18 = v18 at e18 hK ⊢
      subst e18
      have hcv := made_conv (w := w6) h18
      go_simp
      exact hK _ _ ⟨fun _ => ⟨Below.refl _ _, rfl⟩, fun h => absurd h (by decide)⟩
     ·intro V W hC hd K hK
      have q15 : shuV w6.heap.size g n c7 L c3 q b3 o3 b keep z (some ⟨b3, o3, none⟩) s 15 (V 15) W := hd.1
      have e15 : V 15 = .string (s.extract 0 keep) := q15
      clear q15
      have q19 : shuV w6.heap.size g n c7 L c3 q b3 o3 b keep z (some ⟨b3, o3, none⟩) s 19 (V 19) W := hd.2.1
      have e19 : V 19 = .string (zeroN z) := q19
      clear q19
      clear hd
      simp only [laidL, Act.put, List.setIfInBounds_toArray, List.set_cons_zero, List.set_cons_succ] at hK ⊢
      generalize V 15 = v15 at e15 hK ⊢
      subst e15
      generalize V 19 = v19 at e19 hK ⊢
      subst e19
      have hno2 : ¬ 9223372036854775807 < keep + (zeroN z).size := by rw [zeroN_mkB, mkB_size, List.length_replicate]; omega
      go_simp
      exact hK _ _ ⟨fun _ => ⟨Below.refl _ _, rfl⟩, fun h => absurd h (by decide)⟩
     ·intro V W hC hd K hK
      have q0 : shuV w6.heap.size g n c7 L c3 q b3 o3 b keep z (some ⟨b3, o3, none⟩) s 0 (V 0) W := hd.1
      have e0 : V 0 = .slice (some ⟨g, 0, none⟩) n c7 := q0
      clear q0
      have q5 : shuV w6.heap.size g n c7 L c3 q b3 o3 b keep z (some ⟨b3, o3, none⟩) s 5 (V 5) W := hd.2.1
      have e5 : V 5 = .int .i64 (b : Int) := q5
      clear q5
      clear hd
      simp only [laidL, Act.put, List.setIfInBounds_toArray, List.set_cons_zero, List.set_cons_succ] at hK ⊢
      generalize V 0 = v0 at e0 hK ⊢
      subst e0
      generalize V 5 = v5 at e5 hK ⊢
      subst e5
      go_simp
      exact hK _ _ ⟨fun _ => ⟨Below.refl _ _, rfl⟩, fun h => absurd h (by decide)⟩
     ·intro V W hC hd K hK
      have q21 : shuV w6.heap.size g n c7 L c3 q b3 o3 b keep z (some ⟨b3, o3, none⟩) s 21 (V 21) W := hd.1
      have e21 : V 21 = .pointer (some ⟨g, b, none⟩) := q21
      clear q21
      have q20 : shuV w6.heap.size g n c7 L c3 q b3 o3 b keep z (some ⟨b3, o3, none⟩) s 20 (V 20) W := hd.2.1
      have e20 : V 20 = .string (s.extract 0 keep ++ zeroN z) := q20
      clear q20
      clear hd
      simp only [laidL, Act.put, List.setIfInBounds_toArray, List.set_cons_zero, List.set_cons_succ] at hK ⊢
      generalize V 21 = v21 at e21 hK ⊢
      subst e21
      generalize V 20 = v20 at e20 hK ⊢
      subst e20
      have hO := hC.1
      have hB6 := hC.2
      have hc1 := hO.cell b hbn
      have hc2 := hO.free b
      generalize s.extract 0 keep ++ zeroN z = u at hK ⊢
      go_simp
      exact hK undef _ ⟨fun h => absurd rfl h, fun _ => ⟨hO.set b u, hO.below_set b _ (Nat.le_refl _) hB6⟩⟩
    ·intro V w8 hE
     have K8 := Lib.hid (show OwI w8 w6.heap.size g n c7 (m.set b (s.extract 0 keep ++ zeroN z)) ∧ BI w8 gx r ∧ Reads w8 w8.heap.size 1 (some ⟨b3, o3, none⟩) L (encN (dataR r)) ∧ Below w6.heap.size w6 w8 from ⟨hE.1, K6.out.2.1.step hE.2, HL6.out.step hE.2, hE.2⟩)
     clear hE
     have cL : ∀ W, Reads W W.heap.size 1 (some ⟨g, 0, none⟩) n (encS (m.set b (s.extract 0 keep ++ zeroN z))) → Reads W W.heap.size 1 (some ⟨b3, o3, none⟩) L (encN (dataR r)) → Calls Tryz.prog 48 #[.slice (some ⟨g, 0, none⟩) n c7, .int .i64 (k : Int), .agg (cellsI r).toArray, .int .i64 (size : Int), .slice (some ⟨b3, o3, none⟩) q c3, .int .i64 0] W fun e w' => ∃ g c, e = .returned (.slice (some ⟨g, 0, none⟩) n c) ∧ OwI w' W.heap.size g n c (saveR (m.set b (s.extract 0 keep ++ zeroN z)) (nameR r size ((dataR r).take q) 0)) ∧ Below W.heap.size W w' := fun W hW1 hW2 => by
      have h9 := refLaid_any (some ⟨g, 0, none⟩) (some ⟨b3, o3, none⟩) n c7 q c3 (m.set b (s.extract 0 keep ++ zeroN z)) k r size 0 ((dataR r).take q) W hW1 (reads_take hW2 (by omega)) HMS.out h8 h5 HK.out.2 HR.out (by have := HS.out; omega) (fun x hx => by have := HLT.out x (List.mem_of_mem_take hx); omega) (by omega) (fun h => by have := HIND.out.1 h; have := HLQ.out.2; omega) (by omega) (by omega)
      rw [HNUM.out] at h9
      exact h9
     simp only [laidL, Act.put, List.setIfInBounds_toArray, List.set_cons_zero, List.set_cons_succ]
     go_upto_region 21 with fail
     refine wp_region_rel (fun w' => Below w8.heap.size w8 w') (fun _ wa wb => Below wa.heap.size wa wb) (shwV w8.heap.size g n c7 k size L c3 q 0 (some ⟨b3, o3, none⟩) r (saveR (m.set b (s.extract 0 keep ++ zeroN z)) (nameR r size ((dataR r).take q) 0))) hmx (by kernel_rfl) ((Below.refl _ _).drew) (fun i wa wb hC hs => bstep hC hs) (fun i j v wa wb _ hs h => shwV_stable w8.heap.size g n c7 k size L c3 q 0 (some ⟨b3, o3, none⟩) r (saveR (m.set b (s.extract 0 keep ++ zeroN z)) (nameR r size ((dataR r).take q) 0)) j v wa wb hs h) ?_ ?_
     ·refine ⟨?_, ?_, ?_, ?_, ?_, ?_, ?_, ?_, ?_, ?_, ?_, trivial⟩
      ·intro V W hC hd K hK
       clear hd
       simp only [laidL, Act.put, List.setIfInBounds_toArray, List.set_cons_zero, List.set_cons_succ] at hK ⊢
       go_simp
       exact hK _ _ ⟨Below.refl _ _, rfl⟩
      ·intro V W hC hd K hK
       clear hd
       simp only [laidL, Act.put, List.setIfInBounds_toArray, List.set_cons_zero, List.set_cons_succ] at hK ⊢
       go_simp
       exact hK _ _ ⟨Below.refl _ _, rfl⟩
      ·intro V W hC hd K hK
       clear hd
       simp only [laidL, Act.put, List.setIfInBounds_toArray, List.set_cons_zero, List.set_cons_succ] at hK ⊢
       refine wp_load_mid 47 (.tmp 8) rfl _ 0 rfl (cellsI r) _ (K8.out.2.1.step hC).range Tryz.underlying47 rfl (by rw [cellsI_length HR.out]; exact sizeIn) ?_
       exact hK (valI r) _ ⟨Below.refl _ _, rfl⟩
      ·intro V W hC hd K hK
       clear hd
       simp only [laidL, Act.put, List.setIfInBounds_toArray, List.set_cons_zero, List.set_cons_succ] at hK ⊢
       go_simp
       exact hK _ _ ⟨Below.refl _ _, rfl⟩
      ·intro V W hC hd K hK
       clear hd
       simp only [laidL, Act.put, List.setIfInBounds_toArray, List.set_cons_zero, List.set_cons_succ] at hK ⊢
       go_simp
       exact hK _ _ ⟨Below.refl _ _, rfl⟩
      ·intro V W hC hd K hK
       clear hd
       simp only [laidL, Act.put, List.setIfInBounds_toArray, List.set_cons_zero, List.set_cons_succ] at hK ⊢
       go_simp
       exact hK _ _ ⟨Below.refl _ _, rfl⟩
      ·intro V W hC hd K hK
       have q4 : shwV w8.heap.size g n c7 k size L c3 q 0 (some ⟨b3, o3, none⟩) r (saveR (m.set b (s.extract 0 keep ++ zeroN z)) (nameR r size ((dataR r).take q) 0)) 4 (V 4) W := hd.1
       have e4 : V 4 = .slice (some ⟨b3, o3, none⟩) L c3 := q4
       clear q4
       have q5 : shwV w8.heap.size g n c7 k size L c3 q 0 (some ⟨b3, o3, none⟩) r (saveR (m.set b (s.extract 0 keep ++ zeroN z)) (nameR r size ((dataR r).take q) 0)) 5 (V 5) W := hd.2.1
       have e5 : V 5 = .int .i64 (q : Int) := q5
       clear q5
       clear hd
       simp only [laidL, Act.put, List.setIfInBounds_toArray, List.set_cons_zero, List.set_cons_succ] at hK ⊢
       generalize V 4 = v4 at e4 hK ⊢
       subst e4
       generalize V 5 = v5 at e5 hK ⊢
       subst e5
       go_simp
       exact hK _ _ ⟨Below.refl _ _, rfl⟩
      ·intro V W hC hd K hK
       clear hd
       simp only [laidL, Act.put, List.setIfInBounds_toArray, List.set_cons_zero, List.set_cons_succ] at hK ⊢
       go_simp
       exact hK _ _ ⟨Below.refl _ _, rfl⟩
      ·intro V W hC hd K hK
       have q0 : shwV w8.heap.size g n c7 k size L c3 q 0 (some ⟨b3, o3, none⟩) r (saveR (m.set b (s.extract 0 keep ++ zeroN z)) (nameR r size ((dataR r).take q) 0)) 0 (V 0) W := hd.1
       have e0 : V 0 = .slice (some ⟨g, 0, none⟩) n c7 := q0
       clear q0
       have q1 : shwV w8.heap.size g n c7 k size L c3 q 0 (some ⟨b3, o3, none⟩) r (saveR (m.set b (s.extract 0 keep ++ zeroN z)) (nameR r size ((dataR r).take q) 0)) 1 (V 1) W := hd.2.1
       have e1 : V 1 = .int .i64 (k : Int) := q1
       clear q1
       have q2 : shwV w8.heap.size g n c7 k size L c3 q 0 (some ⟨b3, o3, none⟩) r (saveR (m.set b (s.extract 0 keep ++ zeroN z)) (nameR r size ((dataR r).take q) 0)) 2 (V 2) W := hd.2.2.1
       have e2 : V 2 = valI r := q2
       clear q2
       have q3 : shwV w8.heap.size g n c7 k size L c3 q 0 (some ⟨b3, o3, none⟩) r (saveR (m.set b (s.extract 0 keep ++ zeroN z)) (nameR r size ((dataR r).take q) 0)) 3 (V 3) W := hd.2.2.2.1
       have e3 : V 3 = .int .i64 (size : Int) := q3
       clear q3
       have q6 : shwV w8.heap.size g n c7 k size L c3 q 0 (some ⟨b3, o3, none⟩) r (saveR (m.set b (s.extract 0 keep ++ zeroN z)) (nameR r size ((dataR r).take q) 0)) 6 (V 6) W := hd.2.2.2.2.1
       have e6 : V 6 = .slice (some ⟨b3, o3, none⟩) q c3 := q6
       clear q6
       have q7 : shwV w8.heap.size g n c7 k size L c3 q 0 (some ⟨b3, o3, none⟩) r (saveR (m.set b (s.extract 0 keep ++ zeroN z)) (nameR r size ((dataR r).take q) 0)) 7 (V 7) W := hd.2.2.2.2.2.1
       have e7 : V 7 = .int .i64 0 := q7
       clear q7
       clear hd
       simp only [laidL, Act.put, List.setIfInBounds_toArray, List.set_cons_zero, List.set_cons_succ] at hK ⊢
       generalize V 0 = v0 at e0 hK ⊢
       subst e0
       generalize V 1 = v1 at e1 hK ⊢
       subst e1
       generalize V 2 = v2 at e2 hK ⊢
       subst e2
       generalize V 3 = v3 at e3 hK ⊢
       subst e3
       generalize V 6 = v6 at e6 hK ⊢
       subst e6
       generalize V 7 = v7 at e7 hK ⊢
       subst e7
       go_simp
       go_at_call 48
       unfold valI
       refine (cL _ (K8.out.1.reads.step hC) (K8.out.2.2.1.step hC)).mono ?_
       rintro e w9 ⟨g9, c9, rfl, hO9, hb9⟩
       exact hK _ _ ⟨hb9, (g9, c9), rfl, hO9.low hC.size⟩
      ·intro V W hC hd K hK
       have q8 : shwV w8.heap.size g n c7 k size L c3 q 0 (some ⟨b3, o3, none⟩) r (saveR (m.set b (s.extract 0 keep ++ zeroN z)) (nameR r size ((dataR r).take q) 0)) 8 (V 8) W := hd.1
       have q8 : imgU w8.heap.size n (saveR (m.set b (s.extract 0 keep ++ zeroN z)) (nameR r size ((dataR r).take q) 0)) (V 8) W := q8
       have p8 := imgU_out q8
       clear q8
       cases p8
       rename_i b8 hh
       have e8 := hh.1
       have h8x := hh.2
       clear hh
       clear hd
       simp only [laidL, Act.put, List.setIfInBounds_toArray, List.set_cons_zero, List.set_cons_succ] at hK ⊢
       generalize V 8 = v8 at e8 hK ⊢
       subst e8
       go_simp
       exact hK _ _ ⟨Below.refl _ _, _, rfl, h8x⟩
      ·intro V W hC hd K hK
       clear hd
       simp only [laidL, Act.put, List.setIfInBounds_toArray, List.set_cons_zero, List.set_cons_succ] at hK ⊢
       go_simp
       exact hK _ _ ⟨Below.refl _ _, rfl⟩
     ·intro V9 w9 hC9 hV9
      have e9 : imgU w8.heap.size n (saveR (m.set b (s.extract 0 keep ++ zeroN z)) (nameR r size ((dataR r).take q) 0)) (V9 9) w9 := hV9 9 (show 9 < 11 by decide)
      have e10 : V9 10 = .int .i64 0 := hV9 10 (show 10 < 11 by decide)
      obtain ⟨⟨g9, c9⟩, e9, hO9⟩ := e9
      have KF := Lib.hid (And.intro (hO9.low (Nat.le_trans K6.out.1.size (Nat.le_trans K8.out.2.2.2.size (Nat.le_refl _)))) ((bstep (K6.out.1.trans (K8.out.2.2.2.mono K6.out.1.size)) hC9)))
      clear hV9 hC9 hO9 cL
      simp only [laidL, Act.put, List.setIfInBounds_toArray, List.set_cons_zero, List.set_cons_succ]
      generalize V9 9 = v9 at e9 ⊢
      generalize V9 10 = v10 at e10 ⊢
      subst e9
      subst e10
      go_wp2
      go_ret2
      rw [HRES.out]
      exact ⟨g9, n, c9, rfl, KF.out.1, h5, KF.out.2⟩
  ·have hie : ind = r.ind := by rw [HIND.out.2, if_neg (fun h => hq4 (by have := HLQ.out.2; omega))]
   subst hie
   have hqd4 : decide ((q : Int) ≤ 4) = false := decide_eq_false (by omega)
   have hin0 : 0 < r.ind := by omega
   have hin1 : decide (0 < r.ind) = true := decide_eq_true hin0
   have hin2 : decide (q ≤ 4) = false := decide_eq_false hq4
   have hq4i : ¬ (q : Int) ≤ 4 := by omega
   obtain ⟨w6, hw6⟩ : ∃ w6, w6 = w4 := ⟨_, rfl⟩
   rw [← hw6] at K4 ⊢
   have K6 := Lib.hid (show Below w.heap.size w w6 ∧ BI w6 gx r ∧ w6.ownsRow w.heap.size 3 1 (.slice A3 L c3) L (encN (dataR r)) ∧ w6.ownsRow w3.heap.size 3 1 (.slice A5 p c5) p (encN back) from by
    have hbk : back = (dataR r).drop q := by rw [HB.out, if_neg (fun h => hq4 (by have := HLQ.out.2; omega)), List.append_nil, ← HLQ.out.2]
    rw [hbk]
    exact K4.out)
   clear K4 hw6
   go_wp2_with fail
   refine (cV A5 p c5 w6 (H.out.step K6.out.1) (by have h9 := Reads.of_own K6.out.2.2.2; rw [← show encI (castN back) = encN back from HNB.out] at h9; exact h9) (by omega)).mono ?_
   rintro e w7 ⟨g, n7, c7, rfl, hO7, hn7, hb7⟩
   have en : n = n7 := by have := hO7.len; omega
   subst en
   have K7 := Lib.hid (And.intro hO7 hb7)
   have HL6 := Lib.hid (Reads.of_own K6.out.2.2.1)
   have hg6 := hO7.ge
   clear hO7 hb7 cV hn7
   by_cases hq0 : q = 0
   ·have hqd : decide ((0 : Int) < (q : Int)) = false := decide_eq_false (by omega)
    have hqn : ¬ (0 : Int) < (q : Int) := by omega
    have hqe : decide (0 < q) = false := decide_eq_false (by omega)
    have HQ0 := Lib.hid hq0
    clear hq0
    have HRES : Hid (X = saveR m (nameR r size ((dataR r).take q) r.ind)) := Lib.hid (by
     have e := HLQ.out.2
     have hq0 := HQ0.out
     rw [HX.out, ← e, if_neg (by unfold needN at e; omega)])
    have K8 := Lib.hid (show OwI w7 w6.heap.size g n c7 m ∧ BI w7 gx r ∧ Reads w7 w7.heap.size 1 A3 L (encN (dataR r)) ∧ Below w6.heap.size w6 w7 from ⟨K7.out.1, K6.out.2.1.step K7.out.2, HL6.out.step K7.out.2, K7.out.2⟩)
    have cL : ∀ W, Reads W W.heap.size 1 (some ⟨g, 0, none⟩) n (encS m) → Reads W W.heap.size 1 A3 L (encN (dataR r)) → Calls Tryz.prog 48 #[.slice (some ⟨g, 0, none⟩) n c7, .int .i64 (k : Int), .agg (cellsI r).toArray, .int .i64 (size : Int), .slice A3 q c3, .int .i64 (r.ind : Int)] W fun e w' => ∃ g c, e = .returned (.slice (some ⟨g, 0, none⟩) n c) ∧ OwI w' W.heap.size g n c (saveR m (nameR r size ((dataR r).take q) r.ind)) ∧ Below W.heap.size W w' := fun W hW1 hW2 => by
     have h9 := refLaid_any (some ⟨g, 0, none⟩) A3 n c7 q c3 m k r size r.ind ((dataR r).take q) W hW1 (reads_take hW2 (by omega)) HBLK.out h8 h5 HK.out.2 HR.out (by have := HS.out; omega) (fun x hx => by have := HLT.out x (List.mem_of_mem_take hx); omega) (by omega) (fun h => by have := HIND.out.1 h; have := HLQ.out.2; omega) (by omega) (by omega)
     rw [HNUM.out] at h9
     exact h9
    go_upto_region 21 with fail
    try simp only [hid, hin1, hin2, hqd4, hqd, hqe]
    clear hip hid hin0 hin1 hin2 hqd4 hq4i hqe hqd hqn
    refine wp_region_rel (fun w' => Below w7.heap.size w7 w') (fun _ wa wb => Below wa.heap.size wa wb) (shwV w7.heap.size g n c7 k size L c3 q (r.ind : Int) A3 r (saveR (m) (nameR r size ((dataR r).take q) r.ind))) hmx (by kernel_rfl) ((Below.refl _ _).drew) (fun i wa wb hC hs => bstep hC hs) (fun i j v wa wb _ hs h => shwV_stable w7.heap.size g n c7 k size L c3 q (r.ind : Int) A3 r (saveR (m) (nameR r size ((dataR r).take q) r.ind)) j v wa wb hs h) ?_ ?_
    ·refine ⟨?_, ?_, ?_, ?_, ?_, ?_, ?_, ?_, ?_, ?_, ?_, trivial⟩
     ·intro V W hC hd K hK
      clear hd
      simp only [laidL, Act.put, List.setIfInBounds_toArray, List.set_cons_zero, List.set_cons_succ] at hK ⊢
      go_simp
      exact hK _ _ ⟨Below.refl _ _, rfl⟩
     ·intro V W hC hd K hK
      clear hd
      simp only [laidL, Act.put, List.setIfInBounds_toArray, List.set_cons_zero, List.set_cons_succ] at hK ⊢
      go_simp
      exact hK _ _ ⟨Below.refl _ _, rfl⟩
     ·intro V W hC hd K hK
      clear hd
      simp only [laidL, Act.put, List.setIfInBounds_toArray, List.set_cons_zero, List.set_cons_succ] at hK ⊢
      refine wp_load_mid 47 (.tmp 8) rfl _ 0 rfl (cellsI r) _ (K8.out.2.1.step hC).range Tryz.underlying47 rfl (by rw [cellsI_length HR.out]; exact sizeIn) ?_
      exact hK (valI r) _ ⟨Below.refl _ _, rfl⟩
     ·intro V W hC hd K hK
      clear hd
      simp only [laidL, Act.put, List.setIfInBounds_toArray, List.set_cons_zero, List.set_cons_succ] at hK ⊢
      go_simp
      exact hK _ _ ⟨Below.refl _ _, rfl⟩
     ·intro V W hC hd K hK
      clear hd
      simp only [laidL, Act.put, List.setIfInBounds_toArray, List.set_cons_zero, List.set_cons_succ] at hK ⊢
      go_simp
      exact hK _ _ ⟨Below.refl _ _, rfl⟩
     ·intro V W hC hd K hK
      clear hd
      simp only [laidL, Act.put, List.setIfInBounds_toArray, List.set_cons_zero, List.set_cons_succ] at hK ⊢
      go_simp
      exact hK _ _ ⟨Below.refl _ _, rfl⟩
     ·intro V W hC hd K hK
      have q4 : shwV w7.heap.size g n c7 k size L c3 q (r.ind : Int) A3 r (saveR (m) (nameR r size ((dataR r).take q) r.ind)) 4 (V 4) W := hd.1
      have e4 : V 4 = .slice A3 L c3 := q4
      clear q4
      have q5 : shwV w7.heap.size g n c7 k size L c3 q (r.ind : Int) A3 r (saveR (m) (nameR r size ((dataR r).take q) r.ind)) 5 (V 5) W := hd.2.1
      have e5 : V 5 = .int .i64 (q : Int) := q5
      clear q5
      clear hd
      simp only [laidL, Act.put, List.setIfInBounds_toArray, List.set_cons_zero, List.set_cons_succ] at hK ⊢
      generalize V 4 = v4 at e4 hK ⊢
      subst e4
      generalize V 5 = v5 at e5 hK ⊢
      subst e5
      go_simp
      exact hK _ _ ⟨Below.refl _ _, rfl⟩
     ·intro V W hC hd K hK
      clear hd
      simp only [laidL, Act.put, List.setIfInBounds_toArray, List.set_cons_zero, List.set_cons_succ] at hK ⊢
      go_simp
      exact hK _ _ ⟨Below.refl _ _, rfl⟩
     ·intro V W hC hd K hK
      have q0 : shwV w7.heap.size g n c7 k size L c3 q (r.ind : Int) A3 r (saveR (m) (nameR r size ((dataR r).take q) r.ind)) 0 (V 0) W := hd.1
      have e0 : V 0 = .slice (some ⟨g, 0, none⟩) n c7 := q0
      clear q0
      have q1 : shwV w7.heap.size g n c7 k size L c3 q (r.ind : Int) A3 r (saveR (m) (nameR r size ((dataR r).take q) r.ind)) 1 (V 1) W := hd.2.1
      have e1 : V 1 = .int .i64 (k : Int) := q1
      clear q1
      have q2 : shwV w7.heap.size g n c7 k size L c3 q (r.ind : Int) A3 r (saveR (m) (nameR r size ((dataR r).take q) r.ind)) 2 (V 2) W := hd.2.2.1
      have e2 : V 2 = valI r := q2
      clear q2
      have q3 : shwV w7.heap.size g n c7 k size L c3 q (r.ind : Int) A3 r (saveR (m) (nameR r size ((dataR r).take q) r.ind)) 3 (V 3) W := hd.2.2.2.1
      have e3 : V 3 = .int .i64 (size : Int) := q3
      clear q3
      have q6 : shwV w7.heap.size g n c7 k size L c3 q (r.ind : Int) A3 r (saveR (m) (nameR r size ((dataR r).take q) r.ind)) 6 (V 6) W := hd.2.2.2.2.1
      have e6 : V 6 = .slice A3 q c3 := q6
      clear q6
      have q7 : shwV w7.heap.size g n c7 k size L c3 q (r.ind : Int) A3 r (saveR (m) (nameR r size ((dataR r).take q) r.ind)) 7 (V 7) W := hd.2.2.2.2.2.1
      have e7 : V 7 = .int .i64 (r.ind : Int) := q7
      clear q7
      clear hd
      simp only [laidL, Act.put, List.setIfInBounds_toArray, List.set_cons_zero, List.set_cons_succ] at hK ⊢
      generalize V 0 = v0 at e0 hK ⊢
      subst e0
      generalize V 1 = v1 at e1 hK ⊢
      subst e1
      generalize V 2 = v2 at e2 hK ⊢
      subst e2
      generalize V 3 = v3 at e3 hK ⊢
      subst e3
      generalize V 6 = v6 at e6 hK ⊢
      subst e6
      generalize V 7 = v7 at e7 hK ⊢
      subst e7
      go_simp
      go_at_call 48
      unfold valI
      refine (cL _ (K8.out.1.reads.step hC) (K8.out.2.2.1.step hC)).mono ?_
      rintro e w9 ⟨g9, c9, rfl, hO9, hb9⟩
      exact hK _ _ ⟨hb9, (g9, c9), rfl, hO9.low hC.size⟩
     ·intro V W hC hd K hK
      have q8 : shwV w7.heap.size g n c7 k size L c3 q (r.ind : Int) A3 r (saveR (m) (nameR r size ((dataR r).take q) r.ind)) 8 (V 8) W := hd.1
      have q8 : imgU w7.heap.size n (saveR (m) (nameR r size ((dataR r).take q) r.ind)) (V 8) W := q8
      have p8 := imgU_out q8
      clear q8
      cases p8
      rename_i b8 hh
      have e8 := hh.1
      have h8x := hh.2
      clear hh
      clear hd
      simp only [laidL, Act.put, List.setIfInBounds_toArray, List.set_cons_zero, List.set_cons_succ] at hK ⊢
      generalize V 8 = v8 at e8 hK ⊢
      subst e8
      go_simp
      exact hK _ _ ⟨Below.refl _ _, _, rfl, h8x⟩
     ·intro V W hC hd K hK
      clear hd
      simp only [laidL, Act.put, List.setIfInBounds_toArray, List.set_cons_zero, List.set_cons_succ] at hK ⊢
      go_simp
      exact hK _ _ ⟨Below.refl _ _, rfl⟩
    ·intro V9 w9 hC9 hV9
     have e9 : imgU w7.heap.size n (saveR (m) (nameR r size ((dataR r).take q) r.ind)) (V9 9) w9 := hV9 9 (show 9 < 11 by decide)
     have e10 : V9 10 = .int .i64 0 := hV9 10 (show 10 < 11 by decide)
     obtain ⟨⟨g9, c9⟩, e9, hO9⟩ := e9
     have KF := Lib.hid (And.intro (hO9.low (Nat.le_trans K6.out.1.size (Nat.le_trans K8.out.2.2.2.size (Nat.le_refl _)))) ((bstep (K6.out.1.trans (K8.out.2.2.2.mono K6.out.1.size)) hC9)))
     clear hV9 hC9 hO9 cL
     simp only [laidL, Act.put, List.setIfInBounds_toArray, List.set_cons_zero, List.set_cons_succ]
     generalize V9 9 = v9 at e9 ⊢
     generalize V9 10 = v10 at e10 ⊢
     subst e9
     subst e10
     go_wp2
     go_ret2
     rw [HRES.out]
     exact ⟨g9, n, c9, rfl, KF.out.1, h5, KF.out.2⟩
   ·have hqd : decide ((0 : Int) < (q : Int)) = true := decide_eq_true (by omega)
    have hqn : (0 : Int) < (q : Int) := by omega
    have hqe : decide (0 < q) = true := decide_eq_true (by omega)
    have hqL : q - 1 < L := by omega
    obtain ⟨b, hb⟩ : ∃ b, b = ((dataR r).take q).getD (q - 1) 0 := ⟨_, rfl⟩
    obtain ⟨keep, hke⟩ : ∃ keep, keep = size - (q - 1) * 128 := ⟨_, rfl⟩
    have hbd : b = (dataR r).getD (q - 1) 0 := by rw [hb, List.getD_eq_getElem?_getD, List.getD_eq_getElem?_getD, List.getElem?_take, if_pos (by omega)]
    have hbn : b < n := by rw [hbd]; exact HLT.out _ (by rw [List.getD_eq_getElem?_getD, List.getElem?_eq_getElem (by omega)]; exact List.getElem_mem _)
    obtain ⟨s, hs⟩ : ∃ s, s = blk m b := ⟨_, rfl⟩
    have hss : s.size = 128 := by rw [hs]; exact HBLK.out _ (by unfold blk; rw [List.getD_eq_getElem?_getD, List.getElem?_eq_getElem (by omega)]; exact List.getElem_mem _)
    have HKQ : Hid (size = keep + (q - 1) * 128) := Lib.hid (by have e := HLQ.out.2; unfold needN at e; omega)
    have hkq : keep ≤ 128 := by have e := HLQ.out.2; unfold needN at e; omega
    obtain ⟨z, hz⟩ : ∃ z, z = 128 - keep := ⟨_, rfl⟩
    have HRES : Hid (X = saveR (m.set b (s.extract 0 keep ++ zeroN z)) (nameR r size ((dataR r).take q) r.ind)) := Lib.hid (by
     have e := HLQ.out.2
     have h9 := HLP.out b hbn (by omega)
     rw [HX.out]
     rw [← e] at h9 ⊢
     rw [← hb, ← h9, hz, hke, hs])
    have HMS : Hid (∀ x ∈ m.set b (s.extract 0 keep ++ zeroN z), x.size = 128) := Lib.hid (fun x hx => by
     rcases List.mem_or_eq_of_mem_set hx with h | h
     ·exact HBLK.out x h
     ·rw [h, ByteArray.size_append, ByteArray.size_extract, zeroN_mkB, mkB_size, List.length_replicate]; omega)
    have HBV := Lib.hid hbd
    have HZ := Lib.hid hz
    have HSV := Lib.hid hs
    have hzk : z + keep = 128 := by omega
    clear hb hbd hs hz hke
    obtain ⟨u0, hu0, hv0, hv1, hv2⟩ := info_parts infoUA
    obtain ⟨b3, o3, rfl, hb36, _⟩ := HL6.out.nat hqL
    have hkI : (size : Int) - ((q : Int) - 1) * 128 = (keep : Int) := by have := HKQ.out; omega
    have hw1 : IntKind.i64.wrap ((q : Int) - 1) = (q : Int) - 1 := by rw [IntKind.wrap_i64]; omega
    have hw2 : IntKind.i64.wrap (((q : Int) - 1) * 128) = ((q : Int) - 1) * 128 := by rw [IntKind.wrap_i64]; omega
    have hw3 : IntKind.i64.wrap ((size : Int) - ((q : Int) - 1) * 128) = (size : Int) - ((q : Int) - 1) * 128 := by rw [IntKind.wrap_i64]; omega
    go_upto_region 20 with fail
    try rw [hkI]
    have hzI : (128 : Int) - (keep : Int) = (z : Int) := by omega
    have hw4 : IntKind.i64.wrap ((128 : Int) - (keep : Int)) = (z : Int) := by rw [IntKind.wrap_i64]; omega
    have hw5 : IntKind.i64.wrap (z : Int) = (z : Int) := by rw [IntKind.wrap_i64]; omega
    have hq1 : ((q : Int) - 1).toNat = q - 1 := by omega
    have hq2 : (0 : Int) ≤ (q : Int) - 1 := by omega
    have hq5 : (1 : Int) ≤ (q : Int) := by omega
    have hq3 : (q : Int) - 1 < (L : Int) := by omega
    have hk0 : (0 : Int) ≤ (keep : Int) := by omega
    have hk1 : (keep : Int) ≤ 128 := by omega
    have hbnI : (b : Int) < (n : Int) := by omega
    clear hkI hw2 hw3
    try simp only [hid, hin1, hin2, hqd4, hqd, hqe]
    clear hip hid hin0 hin1 hin2 hqd4 hq4i hqe hqd hqn
    refine wp_region_last [[], [], [], [2], [1, 3], [4], [], [], [], [8], [7, 9], [10], [6, 11], [12], [], [13, 14], [], [16], [17, 17], [18], [15, 19], [0, 5, 0, 1, 2, 3, 4, 5, 6, 7, 8, 9, 10, 11, 12, 13, 14, 15, 16, 17, 18, 19, 20], [21, 20, 0, 1, 2, 3, 4, 5, 6, 7, 8, 9, 10, 11, 12, 13, 14, 15, 16, 17, 18, 19, 20]] 22 (fun W => OwI W w6.heap.size g n c7 m ∧ Below w6.heap.size w6 W) (fun W => OwI W w6.heap.size g n c7 (m.set b (s.extract 0 keep ++ zeroN z)) ∧ Below w6.heap.size w6 W) (shuV w6.heap.size g n c7 L c3 q b3 o3 b keep z (some ⟨b3, o3, none⟩) s) hmx (by kernel_rfl) (by kernel_rfl) rfl (by decide) (by decide) ⟨K7.out.1.step (Below.refl _ _).drew, K7.out.2.drew⟩ (fun W W' hb hD => ⟨hD.1.step hb, bstep hD.2 hb⟩) (fun j v W W' hb h => shuV_stable w6.heap.size g n c7 L c3 q b3 o3 b keep z (some ⟨b3, o3, none⟩) s j v W W' hb h) ?_ ?_
    ·refine ⟨?_, ?_, ?_, ?_, ?_, ?_, ?_, ?_, ?_, ?_, ?_, ?_, ?_, ?_, ?_, ?_, ?_, ?_, ?_, ?_, ?_, ?_, ?_, trivial⟩
     ·intro V W hC hd K hK
      clear hd
      simp only [laidL, Act.put, List.setIfInBounds_toArray, List.set_cons_zero, List.set_cons_succ] at hK ⊢
      go_simp
      exact hK _ _ ⟨fun _ => ⟨Below.refl _ _, rfl⟩, fun h => absurd h (by decide)⟩
     ·intro V W hC hd K hK
      clear hd
      simp only [laidL, Act.put, List.setIfInBounds_toArray, List.set_cons_zero, List.set_cons_succ] at hK ⊢
      go_simp
      exact hK _ _ ⟨fun _ => ⟨Below.refl _ _, rfl⟩, fun h => absurd h (by decide)⟩
     ·intro V W hC hd K hK
      clear hd
      simp only [laidL, Act.put, List.setIfInBounds_toArray, List.set_cons_zero, List.set_cons_succ] at hK ⊢
      go_simp
      exact hK _ _ ⟨fun _ => ⟨Below.refl _ _, rfl⟩, fun h => absurd h (by decide)⟩
     ·intro V W hC hd K hK
      have q2 : shuV w6.heap.size g n c7 L c3 q b3 o3 b keep z (some ⟨b3, o3, none⟩) s 2 (V 2) W := hd.1
      have e2 : V 2 = .int .i64 (q : Int) := q2
      clear q2
      clear hd
      simp only [laidL, Act.put, List.setIfInBounds_toArray, List.set_cons_zero, List.set_cons_succ] at hK ⊢
      generalize V 2 = v2 at e2 hK ⊢
      subst e2
      go_simp
      exact hK _ _ ⟨fun _ => ⟨Below.refl _ _, rfl⟩, fun h => absurd h (by decide)⟩
     ·intro V W hC hd K hK
      have q1 : shuV w6.heap.size g n c7 L c3 q b3 o3 b keep z (some ⟨b3, o3, none⟩) s 1 (V 1) W := hd.1
      have e1 : V 1 = .slice (some ⟨b3, o3, none⟩) L c3 := q1
      clear q1
      have q3 : shuV w6.heap.size g n c7 L c3 q b3 o3 b keep z (some ⟨b3, o3, none⟩) s 3 (V 3) W := hd.2.1
      have e3 : V 3 = .int .i64 ((q : Int) - 1) := q3
      clear q3
      clear hd
      simp only [laidL, Act.put, List.setIfInBounds_toArray, List.set_cons_zero, List.set_cons_succ] at hK ⊢
      generalize V 1 = v1 at e1 hK ⊢
      subst e1
      generalize V 3 = v3 at e3 hK ⊢
      subst e3
      go_simp
      refine hK _ _ ⟨fun _ => ⟨Below.refl _ _, ?_⟩, fun h => absurd h (by decide)⟩
      exact congrArg (fun x => Value.pointer (some ⟨b3, x, none⟩)) (by omega)
     ·intro V W hC hd K hK
      have q4 : shuV w6.heap.size g n c7 L c3 q b3 o3 b keep z (some ⟨b3, o3, none⟩) s 4 (V 4) W := hd.1
      have e4 : V 4 = .pointer (some ⟨b3, o3 + (q - 1), none⟩) := q4
      clear q4
      clear hd
      simp only [laidL, Act.put, List.setIfInBounds_toArray, List.set_cons_zero, List.set_cons_succ] at hK ⊢
      generalize V 4 = v4 at e4 hK ⊢
      subst e4
      have hc := (HL6.out.step hC.2)
      have hcell : W.cell? ⟨b3, o3 + (q - 1), none⟩ = some (.int .i64 (b : Int)) := by
       obtain ⟨b9, o9, e9, _, h9⟩ := hc.nat hqL
       injection e9 with e9
       injection e9 with e1 e2
       rw [← e1, ← e2] at h9
       rw [h9, HBV.out]
      clear hc
      go_simp
      exact hK _ _ ⟨fun _ => ⟨Below.refl _ _, rfl⟩, fun h => absurd h (by decide)⟩
     ·intro V W hC hd K hK
      clear hd
      simp only [laidL, Act.put, List.setIfInBounds_toArray, List.set_cons_zero, List.set_cons_succ] at hK ⊢
      go_simp
      exact hK _ _ ⟨fun _ => ⟨Below.refl _ _, rfl⟩, fun h => absurd h (by decide)⟩
     ·intro V W hC hd K hK
      clear hd
      simp only [laidL, Act.put, List.setIfInBounds_toArray, List.set_cons_zero, List.set_cons_succ] at hK ⊢
      go_simp
      exact hK _ _ ⟨fun _ => ⟨Below.refl _ _, rfl⟩, fun h => absurd h (by decide)⟩
     ·intro V W hC hd K hK
      clear hd
      simp only [laidL, Act.put, List.setIfInBounds_toArray, List.set_cons_zero, List.set_cons_succ] at hK ⊢
      go_simp
      exact hK _ _ ⟨fun _ => ⟨Below.refl _ _, rfl⟩, fun h => absurd h (by decide)⟩
     ·intro V W hC hd K hK
      have q8 : shuV w6.heap.size g n c7 L c3 q b3 o3 b keep z (some ⟨b3, o3, none⟩) s 8 (V 8) W := hd.1
      have e8 : V 8 = .int .i64 (q : Int) := q8
      clear q8
      clear hd
      simp only [laidL, Act.put, List.setIfInBounds_toArray, List.set_cons_zero, List.set_cons_succ] at hK ⊢
      generalize V 8 = v8 at e8 hK ⊢
      subst e8
      go_simp
      exact hK _ _ ⟨fun _ => ⟨Below.refl _ _, rfl⟩, fun h => absurd h (by decide)⟩
     ·intro V W hC hd K hK
      have q7 : shuV w6.heap.size g n c7 L c3 q b3 o3 b keep z (some ⟨b3, o3, none⟩) s 7 (V 7) W := hd.1
      have e7 : V 7 = .slice (some ⟨b3, o3, none⟩) L c3 := q7
      clear q7
      have q9 : shuV w6.heap.size g n c7 L c3 q b3 o3 b keep z (some ⟨b3, o3, none⟩) s 9 (V 9) W := hd.2.1
      have e9 : V 9 = .int .i64 ((q : Int) - 1) := q9
      clear q9
      clear hd
      simp only [laidL, Act.put, List.setIfInBounds_toArray, List.set_cons_zero, List.set_cons_succ] at hK ⊢
      generalize V 7 = v7 at e7 hK ⊢
      subst e7
      generalize V 9 = v9 at e9 hK ⊢
      subst e9
      go_simp
      refine hK _ _ ⟨fun _ => ⟨Below.refl _ _, ?_⟩, fun h => absurd h (by decide)⟩
      exact congrArg (fun x => Value.pointer (some ⟨b3, x, none⟩)) (by omega)
     ·intro V W hC hd K hK
      have q10 : shuV w6.heap.size g n c7 L c3 q b3 o3 b keep z (some ⟨b3, o3, none⟩) s 10 (V 10) W := hd.1
      have e10 : V 10 = .pointer (some ⟨b3, o3 + (q - 1), none⟩) := q10
      clear q10
      clear hd
      simp only [laidL, Act.put, List.setIfInBounds_toArray, List.set_cons_zero, List.set_cons_succ] at hK ⊢
      generalize V 10 = v10 at e10 hK ⊢
      subst e10
      have hc := (HL6.out.step hC.2)
      have hcell : W.cell? ⟨b3, o3 + (q - 1), none⟩ = some (.int .i64 (b : Int)) := by
       obtain ⟨b9, o9, e9, _, h9⟩ := hc.nat hqL
       injection e9 with e9
       injection e9 with e1 e2
       rw [← e1, ← e2] at h9
       rw [h9, HBV.out]
      clear hc
      go_simp
      exact hK _ _ ⟨fun _ => ⟨Below.refl _ _, rfl⟩, fun h => absurd h (by decide)⟩
     ·intro V W hC hd K hK
      have q6 : shuV w6.heap.size g n c7 L c3 q b3 o3 b keep z (some ⟨b3, o3, none⟩) s 6 (V 6) W := hd.1
      have e6 : V 6 = .slice (some ⟨g, 0, none⟩) n c7 := q6
      clear q6
      have q11 : shuV w6.heap.size g n c7 L c3 q b3 o3 b keep z (some ⟨b3, o3, none⟩) s 11 (V 11) W := hd.2.1
      have e11 : V 11 = .int .i64 (b : Int) := q11
      clear q11
      clear hd
      simp only [laidL, Act.put, List.setIfInBounds_toArray, List.set_cons_zero, List.set_cons_succ] at hK ⊢
      generalize V 6 = v6 at e6 hK ⊢
      subst e6
      generalize V 11 = v11 at e11 hK ⊢
      subst e11
      go_simp
      exact hK _ _ ⟨fun _ => ⟨Below.refl _ _, rfl⟩, fun h => absurd h (by decide)⟩
     ·intro V W hC hd K hK
      have q12 : shuV w6.heap.size g n c7 L c3 q b3 o3 b keep z (some ⟨b3, o3, none⟩) s 12 (V 12) W := hd.1
      have e12 : V 12 = .pointer (some ⟨g, b, none⟩) := q12
      clear q12
      clear hd
      simp only [laidL, Act.put, List.setIfInBounds_toArray, List.set_cons_zero, List.set_cons_succ] at hK ⊢
      generalize V 12 = v12 at e12 hK ⊢
      subst e12
      have hcell : W.cell? ⟨g, b, none⟩ = some (.string s) := by
       have h9 := hC.1.cell b hbn
       rw [HSV.out]; exact h9
      go_simp
      exact hK _ _ ⟨fun _ => ⟨Below.refl _ _, rfl⟩, fun h => absurd h (by decide)⟩
     ·intro V W hC hd K hK
      clear hd
      simp only [laidL, Act.put, List.setIfInBounds_toArray, List.set_cons_zero, List.set_cons_succ] at hK ⊢
      go_simp
      exact hK _ _ ⟨fun _ => ⟨Below.refl _ _, rfl⟩, fun h => absurd h (by decide)⟩
     ·intro V W hC hd K hK
      have q13 : shuV w6.heap.size g n c7 L c3 q b3 o3 b keep z (some ⟨b3, o3, none⟩) s 13 (V 13) W := hd.1
      have e13 : V 13 = .string s := q13
      clear q13
      have q14 : shuV w6.heap.size g n c7 L c3 q b3 o3 b keep z (some ⟨b3, o3, none⟩) s 14 (V 14) W := hd.2.1
      have e14 : V 14 = .int .i64 (keep : Int) := q14
      clear q14
      clear hd
      simp only [laidL, Act.put, List.setIfInBounds_toArray, List.set_cons_zero, List.set_cons_succ] at hK ⊢
      generalize V 13 = v13 at e13 hK ⊢
      subst e13
      generalize V 14 = v14 at e14 hK ⊢
      subst e14
      go_simp
      exact hK _ _ ⟨fun _ => ⟨Below.refl _ _, rfl⟩, fun h => absurd h (by decide)⟩
     ·intro V W hC hd K hK
      clear hd
      simp only [laidL, Act.put, List.setIfInBounds_toArray, List.set_cons_zero, List.set_cons_succ] at hK ⊢
      go_simp
      exact hK _ _ ⟨fun _ => ⟨Below.refl _ _, rfl⟩, fun h => absurd h (by decide)⟩
     ·intro V W hC hd K hK
      have q16 : shuV w6.heap.size g n c7 L c3 q b3 o3 b keep z (some ⟨b3, o3, none⟩) s 16 (V 16) W := hd.1
      have e16 : V 16 = .int .i64 (keep : Int) := q16
      clear q16
      clear hd
      simp only [laidL, Act.put, List.setIfInBounds_toArray, List.set_cons_zero, List.set_cons_succ] at hK ⊢
      generalize V 16 = v16 at e16 hK ⊢
      subst e16
      go_simp
      exact hK _ _ ⟨fun _ => ⟨Below.refl _ _, rfl⟩, fun h => absurd h (by decide)⟩
     ·intro V W hC hd K hK
      have q17 : shuV w6.heap.size g n c7 L c3 q b3 o3 b keep z (some ⟨b3, o3, none⟩) s 17 (V 17) W := hd.1
      have e17 : V 17 = .int .i64 (z : Int) := q17
      clear q17
      have q17 : shuV w6.heap.size g n c7 L c3 q b3 o3 b keep z (some ⟨b3, o3, none⟩) s 17 (V 17) W := hd.1
      have e17 : V 17 = .int .i64 (z : Int) := q17
      clear q17
      clear hd
      simp only [laidL, Act.put, List.setIfInBounds_toArray, List.set_cons_zero, List.set_cons_succ] at hK ⊢
      generalize V 17 = v17 at e17 hK ⊢
      subst e17
      generalize V 17 = v17 at e17 hK ⊢
      subst e17
      refine wp_make_full W _ _ 53 rfl w6.heap.size 5 u0 (.int .u8 0) 1 Tryz.underlying53 hu0 hv0 hv1 .i64 .i64 z z z rfl rfl rfl rfl ?_ ?_ hC.2.size ?_
      ·rw [hv2]; omega
      ·simp only [maxLen]; omega
      intro w' ho' hg'
      refine hK _ _ ⟨fun _ => ⟨(Below.refl _ _).grown hg' (Nat.le_refl _) (by intro k hk; cases hk), _, rfl, ?_⟩, fun h => absurd h (by decide)⟩
      rw [Nat.mul_one] at ho'
      exact ho'
     ·intro V W hC hd K hK
      have q18 : shuV w6.heap.size g n c7 L c3 q b3 o3 b keep z (some ⟨b3, o3, none⟩) s 18 (V 18) W := hd.1
      have q18 : zerV w6.heap.size z (V 18) W := q18
      have p18 := zerV_out q18
      clear q18
      cases p18
      rename_i b18 hh
      have e18 := hh.1
      have h18 := hh.2
      clear hh
      clear hd
      simp only [laidL, Act.put, List.setIfInBounds_toArray, List.set_cons_zero, List.set_cons_succ] at hK ⊢
      generalize V 18 = v18 at e18 hK ⊢
      subst e18
      have hcv := made_conv (w := w6) h18
      go_simp
      exact hK _ _ ⟨fun _ => ⟨Below.refl _ _, rfl⟩, fun h => absurd h (by decide)⟩
     ·intro V W hC hd K hK
      have q15 : shuV w6.heap.size g n c7 L c3 q b3 o3 b keep z (some ⟨b3, o3, none⟩) s 15 (V 15) W := hd.1
      have e15 : V 15 = .string (s.extract 0 keep) := q15
      clear q15
      have q19 : shuV w6.heap.size g n c7 L c3 q b3 o3 b keep z (some ⟨b3, o3, none⟩) s 19 (V 19) W := hd.2.1
      have e19 : V 19 = .string (zeroN z) := q19
      clear q19
      clear hd
      simp only [laidL, Act.put, List.setIfInBounds_toArray, List.set_cons_zero, List.set_cons_succ] at hK ⊢
      generalize V 15 = v15 at e15 hK ⊢
      subst e15
      generalize V 19 = v19 at e19 hK ⊢
      subst e19
      have hno2 : ¬ 9223372036854775807 < keep + (zeroN z).size := by rw [zeroN_mkB, mkB_size, List.length_replicate]; omega
      go_simp
      exact hK _ _ ⟨fun _ => ⟨Below.refl _ _, rfl⟩, fun h => absurd h (by decide)⟩
     ·intro V W hC hd K hK
      have q0 : shuV w6.heap.size g n c7 L c3 q b3 o3 b keep z (some ⟨b3, o3, none⟩) s 0 (V 0) W := hd.1
      have e0 : V 0 = .slice (some ⟨g, 0, none⟩) n c7 := q0
      clear q0
      have q5 : shuV w6.heap.size g n c7 L c3 q b3 o3 b keep z (some ⟨b3, o3, none⟩) s 5 (V 5) W := hd.2.1
      have e5 : V 5 = .int .i64 (b : Int) := q5
      clear q5
      clear hd
      simp only [laidL, Act.put, List.setIfInBounds_toArray, List.set_cons_zero, List.set_cons_succ] at hK ⊢
      generalize V 0 = v0 at e0 hK ⊢
      subst e0
      generalize V 5 = v5 at e5 hK ⊢
      subst e5
      go_simp
      exact hK _ _ ⟨fun _ => ⟨Below.refl _ _, rfl⟩, fun h => absurd h (by decide)⟩
     ·intro V W hC hd K hK
      have q21 : shuV w6.heap.size g n c7 L c3 q b3 o3 b keep z (some ⟨b3, o3, none⟩) s 21 (V 21) W := hd.1
      have e21 : V 21 = .pointer (some ⟨g, b, none⟩) := q21
      clear q21
      have q20 : shuV w6.heap.size g n c7 L c3 q b3 o3 b keep z (some ⟨b3, o3, none⟩) s 20 (V 20) W := hd.2.1
      have e20 : V 20 = .string (s.extract 0 keep ++ zeroN z) := q20
      clear q20
      clear hd
      simp only [laidL, Act.put, List.setIfInBounds_toArray, List.set_cons_zero, List.set_cons_succ] at hK ⊢
      generalize V 21 = v21 at e21 hK ⊢
      subst e21
      generalize V 20 = v20 at e20 hK ⊢
      subst e20
      have hO := hC.1
      have hB6 := hC.2
      have hc1 := hO.cell b hbn
      have hc2 := hO.free b
      generalize s.extract 0 keep ++ zeroN z = u at hK ⊢
      go_simp
      exact hK undef _ ⟨fun h => absurd rfl h, fun _ => ⟨hO.set b u, hO.below_set b _ (Nat.le_refl _) hB6⟩⟩
    ·intro V w8 hE
     have K8 := Lib.hid (show OwI w8 w6.heap.size g n c7 (m.set b (s.extract 0 keep ++ zeroN z)) ∧ BI w8 gx r ∧ Reads w8 w8.heap.size 1 (some ⟨b3, o3, none⟩) L (encN (dataR r)) ∧ Below w6.heap.size w6 w8 from ⟨hE.1, K6.out.2.1.step hE.2, HL6.out.step hE.2, hE.2⟩)
     clear hE
     have cL : ∀ W, Reads W W.heap.size 1 (some ⟨g, 0, none⟩) n (encS (m.set b (s.extract 0 keep ++ zeroN z))) → Reads W W.heap.size 1 (some ⟨b3, o3, none⟩) L (encN (dataR r)) → Calls Tryz.prog 48 #[.slice (some ⟨g, 0, none⟩) n c7, .int .i64 (k : Int), .agg (cellsI r).toArray, .int .i64 (size : Int), .slice (some ⟨b3, o3, none⟩) q c3, .int .i64 (r.ind : Int)] W fun e w' => ∃ g c, e = .returned (.slice (some ⟨g, 0, none⟩) n c) ∧ OwI w' W.heap.size g n c (saveR (m.set b (s.extract 0 keep ++ zeroN z)) (nameR r size ((dataR r).take q) r.ind)) ∧ Below W.heap.size W w' := fun W hW1 hW2 => by
      have h9 := refLaid_any (some ⟨g, 0, none⟩) (some ⟨b3, o3, none⟩) n c7 q c3 (m.set b (s.extract 0 keep ++ zeroN z)) k r size r.ind ((dataR r).take q) W hW1 (reads_take hW2 (by omega)) HMS.out h8 h5 HK.out.2 HR.out (by have := HS.out; omega) (fun x hx => by have := HLT.out x (List.mem_of_mem_take hx); omega) (by omega) (fun h => by have := HIND.out.1 h; have := HLQ.out.2; omega) (by omega) (by omega)
      rw [HNUM.out] at h9
      exact h9
     simp only [laidL, Act.put, List.setIfInBounds_toArray, List.set_cons_zero, List.set_cons_succ]
     go_upto_region 21 with fail
     refine wp_region_rel (fun w' => Below w8.heap.size w8 w') (fun _ wa wb => Below wa.heap.size wa wb) (shwV w8.heap.size g n c7 k size L c3 q (r.ind : Int) (some ⟨b3, o3, none⟩) r (saveR (m.set b (s.extract 0 keep ++ zeroN z)) (nameR r size ((dataR r).take q) r.ind))) hmx (by kernel_rfl) ((Below.refl _ _).drew) (fun i wa wb hC hs => bstep hC hs) (fun i j v wa wb _ hs h => shwV_stable w8.heap.size g n c7 k size L c3 q (r.ind : Int) (some ⟨b3, o3, none⟩) r (saveR (m.set b (s.extract 0 keep ++ zeroN z)) (nameR r size ((dataR r).take q) r.ind)) j v wa wb hs h) ?_ ?_
     ·refine ⟨?_, ?_, ?_, ?_, ?_, ?_, ?_, ?_, ?_, ?_, ?_, trivial⟩
      ·intro V W hC hd K hK
       clear hd
       simp only [laidL, Act.put, List.setIfInBounds_toArray, List.set_cons_zero, List.set_cons_succ] at hK ⊢
       go_simp
       exact hK _ _ ⟨Below.refl _ _, rfl⟩
      ·intro V W hC hd K hK
       clear hd
       simp only [laidL, Act.put, List.setIfInBounds_toArray, List.set_cons_zero, List.set_cons_succ] at hK ⊢
       go_simp
       exact hK _ _ ⟨Below.refl _ _, rfl⟩
      ·intro V W hC hd K hK
       clear hd
       simp only [laidL, Act.put, List.setIfInBounds_toArray, List.set_cons_zero, List.set_cons_succ] at hK ⊢
       refine wp_load_mid 47 (.tmp 8) rfl _ 0 rfl (cellsI r) _ (K8.out.2.1.step hC).range Tryz.underlying47 rfl (by rw [cellsI_length HR.out]; exact sizeIn) ?_
       exact hK (valI r) _ ⟨Below.refl _ _, rfl⟩
      ·intro V W hC hd K hK
       clear hd
       simp only [laidL, Act.put, List.setIfInBounds_toArray, List.set_cons_zero, List.set_cons_succ] at hK ⊢
       go_simp
       exact hK _ _ ⟨Below.refl _ _, rfl⟩
      ·intro V W hC hd K hK
       clear hd
       simp only [laidL, Act.put, List.setIfInBounds_toArray, List.set_cons_zero, List.set_cons_succ] at hK ⊢
       go_simp
       exact hK _ _ ⟨Below.refl _ _, rfl⟩
      ·intro V W hC hd K hK
       clear hd
       simp only [laidL, Act.put, List.setIfInBounds_toArray, List.set_cons_zero, List.set_cons_succ] at hK ⊢
       go_simp
       exact hK _ _ ⟨Below.refl _ _, rfl⟩
      ·intro V W hC hd K hK
       have q4 : shwV w8.heap.size g n c7 k size L c3 q (r.ind : Int) (some ⟨b3, o3, none⟩) r (saveR (m.set b (s.extract 0 keep ++ zeroN z)) (nameR r size ((dataR r).take q) r.ind)) 4 (V 4) W := hd.1
       have e4 : V 4 = .slice (some ⟨b3, o3, none⟩) L c3 := q4
       clear q4
       have q5 : shwV w8.heap.size g n c7 k size L c3 q (r.ind : Int) (some ⟨b3, o3, none⟩) r (saveR (m.set b (s.extract 0 keep ++ zeroN z)) (nameR r size ((dataR r).take q) r.ind)) 5 (V 5) W := hd.2.1
       have e5 : V 5 = .int .i64 (q : Int) := q5
       clear q5
       clear hd
       simp only [laidL, Act.put, List.setIfInBounds_toArray, List.set_cons_zero, List.set_cons_succ] at hK ⊢
       generalize V 4 = v4 at e4 hK ⊢
       subst e4
       generalize V 5 = v5 at e5 hK ⊢
       subst e5
       go_simp
       exact hK _ _ ⟨Below.refl _ _, rfl⟩
      ·intro V W hC hd K hK
       clear hd
       simp only [laidL, Act.put, List.setIfInBounds_toArray, List.set_cons_zero, List.set_cons_succ] at hK ⊢
       go_simp
       exact hK _ _ ⟨Below.refl _ _, rfl⟩
      ·intro V W hC hd K hK
       have q0 : shwV w8.heap.size g n c7 k size L c3 q (r.ind : Int) (some ⟨b3, o3, none⟩) r (saveR (m.set b (s.extract 0 keep ++ zeroN z)) (nameR r size ((dataR r).take q) r.ind)) 0 (V 0) W := hd.1
       have e0 : V 0 = .slice (some ⟨g, 0, none⟩) n c7 := q0
       clear q0
       have q1 : shwV w8.heap.size g n c7 k size L c3 q (r.ind : Int) (some ⟨b3, o3, none⟩) r (saveR (m.set b (s.extract 0 keep ++ zeroN z)) (nameR r size ((dataR r).take q) r.ind)) 1 (V 1) W := hd.2.1
       have e1 : V 1 = .int .i64 (k : Int) := q1
       clear q1
       have q2 : shwV w8.heap.size g n c7 k size L c3 q (r.ind : Int) (some ⟨b3, o3, none⟩) r (saveR (m.set b (s.extract 0 keep ++ zeroN z)) (nameR r size ((dataR r).take q) r.ind)) 2 (V 2) W := hd.2.2.1
       have e2 : V 2 = valI r := q2
       clear q2
       have q3 : shwV w8.heap.size g n c7 k size L c3 q (r.ind : Int) (some ⟨b3, o3, none⟩) r (saveR (m.set b (s.extract 0 keep ++ zeroN z)) (nameR r size ((dataR r).take q) r.ind)) 3 (V 3) W := hd.2.2.2.1
       have e3 : V 3 = .int .i64 (size : Int) := q3
       clear q3
       have q6 : shwV w8.heap.size g n c7 k size L c3 q (r.ind : Int) (some ⟨b3, o3, none⟩) r (saveR (m.set b (s.extract 0 keep ++ zeroN z)) (nameR r size ((dataR r).take q) r.ind)) 6 (V 6) W := hd.2.2.2.2.1
       have e6 : V 6 = .slice (some ⟨b3, o3, none⟩) q c3 := q6
       clear q6
       have q7 : shwV w8.heap.size g n c7 k size L c3 q (r.ind : Int) (some ⟨b3, o3, none⟩) r (saveR (m.set b (s.extract 0 keep ++ zeroN z)) (nameR r size ((dataR r).take q) r.ind)) 7 (V 7) W := hd.2.2.2.2.2.1
       have e7 : V 7 = .int .i64 (r.ind : Int) := q7
       clear q7
       clear hd
       simp only [laidL, Act.put, List.setIfInBounds_toArray, List.set_cons_zero, List.set_cons_succ] at hK ⊢
       generalize V 0 = v0 at e0 hK ⊢
       subst e0
       generalize V 1 = v1 at e1 hK ⊢
       subst e1
       generalize V 2 = v2 at e2 hK ⊢
       subst e2
       generalize V 3 = v3 at e3 hK ⊢
       subst e3
       generalize V 6 = v6 at e6 hK ⊢
       subst e6
       generalize V 7 = v7 at e7 hK ⊢
       subst e7
       go_simp
       go_at_call 48
       unfold valI
       refine (cL _ (K8.out.1.reads.step hC) (K8.out.2.2.1.step hC)).mono ?_
       rintro e w9 ⟨g9, c9, rfl, hO9, hb9⟩
       exact hK _ _ ⟨hb9, (g9, c9), rfl, hO9.low hC.size⟩
      ·intro V W hC hd K hK
       have q8 : shwV w8.heap.size g n c7 k size L c3 q (r.ind : Int) (some ⟨b3, o3, none⟩) r (saveR (m.set b (s.extract 0 keep ++ zeroN z)) (nameR r size ((dataR r).take q) r.ind)) 8 (V 8) W := hd.1
       have q8 : imgU w8.heap.size n (saveR (m.set b (s.extract 0 keep ++ zeroN z)) (nameR r size ((dataR r).take q) r.ind)) (V 8) W := q8
       have p8 := imgU_out q8
       clear q8
       cases p8
       rename_i b8 hh
       have e8 := hh.1
       have h8x := hh.2
       clear hh
       clear hd
       simp only [laidL, Act.put, List.setIfInBounds_toArray, List.set_cons_zero, List.set_cons_succ] at hK ⊢
       generalize V 8 = v8 at e8 hK ⊢
       subst e8
       go_simp
       exact hK _ _ ⟨Below.refl _ _, _, rfl, h8x⟩
      ·intro V W hC hd K hK
       clear hd
       simp only [laidL, Act.put, List.setIfInBounds_toArray, List.set_cons_zero, List.set_cons_succ] at hK ⊢
       go_simp
       exact hK _ _ ⟨Below.refl _ _, rfl⟩
     ·intro V9 w9 hC9 hV9
      have e9 : imgU w8.heap.size n (saveR (m.set b (s.extract 0 keep ++ zeroN z)) (nameR r size ((dataR r).take q) r.ind)) (V9 9) w9 := hV9 9 (show 9 < 11 by decide)
      have e10 : V9 10 = .int .i64 0 := hV9 10 (show 10 < 11 by decide)
      obtain ⟨⟨g9, c9⟩, e9, hO9⟩ := e9
      have KF := Lib.hid (And.intro (hO9.low (Nat.le_trans K6.out.1.size (Nat.le_trans K8.out.2.2.2.size (Nat.le_refl _)))) ((bstep (K6.out.1.trans (K8.out.2.2.2.mono K6.out.1.size)) hC9)))
      clear hV9 hC9 hO9 cL
      simp only [laidL, Act.put, List.setIfInBounds_toArray, List.set_cons_zero, List.set_cons_succ]
      generalize V9 9 = v9 at e9 ⊢
      generalize V9 10 = v10 at e10 ⊢
      subst e9
      subst e10
      go_wp2
      go_ret2
      rw [HRES.out]
      exact ⟨g9, n, c9, rfl, KF.out.1, h5, KF.out.2⟩

end Go.Proofs.YtpdfkakhahfcjaaGreat
