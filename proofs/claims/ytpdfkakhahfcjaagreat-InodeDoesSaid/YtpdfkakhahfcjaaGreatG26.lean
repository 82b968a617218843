/-
  An inode made longer.
-/
import Derived.Test.YtpdfkakhahfcjaaGreatG24
import Derived.Test.YtpdfkakhahfcjaaGreatG25
namespace Go.Proofs.YtpdfkakhahfcjaaGreat
open Go.RowKit

theorem wp_append_reads {P : Program} (w : World) {o : Oper} {a : Act} {K : Act → World → Prop} {Q : Exit → Act → World → Prop} (s x : Operand) (t : TypeId)
  (ho : o.op = .call { callee := .builtin .append, args := #[s, x], argTypes := #[t, t] })
  (base : Nat) (e : TypeId) (i : TypeInfo) (z : Value) (size bytes : Nat) (ht : P.underlying t = some (.slice e)) (hi : P.info? e = some i) (hz : i.zero = some z)
  (hsize : i.size = size) (hby : i.bytes = bytes) (hzs : z.cells.size = size) (hsz : 0 < size) (v : Value) (n : Nat) (xs : List Value) (hs : a.eval s = v) (hown : w.ownsRow base e size v n xs)
  (B : Nat) (A : Option Addr) (m c : Nat) (news : List Value) (hx : a.eval x = .slice A m c) (hr : Reads w B size A m news) (h1 : ∀ u ∈ news, u.oneCell' = true) (h63 : n + m ≤ maxLen) (hbytes : (n + m) * bytes ≤ 140737488355328) (hbase : base ≤ w.heap.size)
  (h : ∀ A2 c2 w', w'.ownsRow base e size (.slice A2 (n + m) c2) (n + m) (xs ++ news) → w.grownBy w' v.ownBlock → K (a.put o.dst (.slice A2 (n + m) c2)) w') : Oper.wp P o a w K Q := by
 obtain ⟨A2, c2, w', hrun, h2, h3, _⟩ := run_append_reads (P := P) w base t o.type e i z size bytes ht hi hz hsize hby hzs hsz v n xs hown B A m c news hr h1 h63 hbytes hbase
 unfold Oper.wp execOp
 simp only [ho, resolve, invoke, builtin, Sem.run_bind, Sem.run_pure, Result.andThen_ok, List.map_toArray, List.map_cons, List.map_nil, hs, hx, hrun]
 exact h A2 c2 w' h2 h3
theorem OwI.belowB {w w' : World} {base g n c B : Nat} {img : List ByteArray} (h : OwI w base g n c img) (hb : Below B w w') (hg : g < B) : OwI w' base g n c img := by
 refine ⟨⟨h.own.1, ?_⟩, h.pos⟩
 rcases h.own.2 with h2 | ⟨g', cap, cur, hv, hge, hh, r⟩
 ·exact .inl h2
 ·refine .inr ⟨g', cap, cur, hv, hge, ?_, r⟩
  have hv' := hv
  injection hv' with e1
  injection e1 with e1
  injection e1 with e1
  rw [hb.block g' (by omega)]; exact hh
theorem But.trans_below {g B : Nat} {w w1 w' : World} (h : But g w w1) (h2 : Below B w1 w') (hB : w.heap.size ≤ B) : But g w w' := ⟨h2.os.trans h.os, h2.tape.trans h.tape, h2.output.trans h.output, Nat.le_trans h.size h2.size, fun k hk hne => (h2.block k (by omega)).trans (h.block k hk hne)⟩
theorem takeA_len {img : List ByteArray} {x : Int} (h : (takeA img x).2.2 = 0) : (takeA img x).2.1.length = x.toNat := by
 unfold takeA at h ⊢
 split
 ·next h1 => rw [if_pos h1] at h; cases h
 ·next h1 =>
  split
  ·next h2 => rw [if_neg h1, if_pos h2] at h; cases h
  ·next h2 => simp only [List.length_take]; omega
theorem takeA_lt {img : List ByteArray} {x : Int} (hn : img.length ≤ 512) : ∀ i ∈ (takeA img x).2.1, i < 65536 := by
 unfold takeA
 intro i hi
 split at hi
 ·simp at hi
 ·split at hi
  ·simp at hi
  ·have := (freeTo_mem.1 (List.mem_of_mem_take hi)).1
   omega
/-- What Take answers; an image of the call's own; a row of numbers. -/
def takeV (base : Nat) (img : List ByteArray) (D : Int) : Value → World → Prop := fun v w => ∃ x : (Nat × Nat × Nat) × (Option Addr × Nat × Nat), v = .tuple #[.slice (some ⟨x.1.1, 0, none⟩) x.1.2.1 x.1.2.2, .slice x.2.1 x.2.2.1 x.2.2.2, .int .i64 (takeA img D).2.2] ∧
 OwI w base x.1.1 x.1.2.1 x.1.2.2 (takeA img D).1 ∧ x.1.2.1 ≤ 512 ∧ Reads w w.heap.size 1 x.2.1 x.2.2.1 (encN (takeA img D).2.1) ∧ x.2.2.1 ≤ 512 ∧ x.2.2.1 ≤ x.2.2.2
def imgV (base : Nat) (img : List ByteArray) : Value → World → Prop := fun v w => ∃ x : Nat × Nat × Nat, v = .slice (some ⟨x.1, 0, none⟩) x.2.1 x.2.2 ∧ OwI w base x.1 x.2.1 x.2.2 img ∧ x.2.1 ≤ 512
def rowNV (l : List Nat) : Value → World → Prop := fun v w => ∃ x : Option Addr × Nat × Nat, v = .slice x.1 x.2.1 x.2.2 ∧ Reads w w.heap.size 1 x.1 x.2.1 (encN l) ∧ x.2.1 ≤ 512 ∧ x.2.1 ≤ x.2.2
section
variable {base : Nat} {img : List ByteArray} {D : Int} {l : List Nat} {v : Value} {w w' : World}
theorem takeV_out (h : takeV base img D v w) : ∃ x : (Nat × Nat × Nat) × (Option Addr × Nat × Nat), v = .tuple #[.slice (some ⟨x.1.1, 0, none⟩) x.1.2.1 x.1.2.2, .slice x.2.1 x.2.2.1 x.2.2.2, .int .i64 (takeA img D).2.2] ∧
 OwI w base x.1.1 x.1.2.1 x.1.2.2 (takeA img D).1 ∧ x.1.2.1 ≤ 512 ∧ Reads w w.heap.size 1 x.2.1 x.2.2.1 (encN (takeA img D).2.1) ∧ x.2.2.1 ≤ 512 ∧ x.2.2.1 ≤ x.2.2.2 := h
theorem imgV_out (h : imgV base img v w) : ∃ x : Nat × Nat × Nat, v = .slice (some ⟨x.1, 0, none⟩) x.2.1 x.2.2 ∧ OwI w base x.1 x.2.1 x.2.2 img ∧ x.2.1 ≤ 512 := h
theorem rowNV_out (h : rowNV l v w) : ∃ x : Option Addr × Nat × Nat, v = .slice x.1 x.2.1 x.2.2 ∧ Reads w w.heap.size 1 x.1 x.2.1 (encN l) ∧ x.2.1 ≤ 512 ∧ x.2.1 ≤ x.2.2 := h
theorem takeV.step (h : takeV base img D v w) (hb : Below w.heap.size w w') : takeV base img D v w' := by
 obtain ⟨x, e, h1, h2, h3, h4⟩ := h
 exact ⟨x, e, h1.step hb, h2, h3.step hb, h4⟩
theorem imgV.step (h : imgV base img v w) (hb : Below w.heap.size w w') : imgV base img v w' := by
 obtain ⟨x, e, h1, h2⟩ := h
 exact ⟨x, e, h1.step hb, h2⟩
theorem rowNV.step (h : rowNV l v w) (hb : Below w.heap.size w w') : rowNV l v w' := by
 obtain ⟨x, e, h1, h2⟩ := h
 exact ⟨x, e, h1.step hb, h2⟩
end
def groV1 (base g n c k a b : Nat) (A : Option Addr) (img : List ByteArray) (r : RecI) : Nat → Value → World → Prop
 | 0 => eqV (.slice A n c)
 | 1 => eqV (.int .i64 (k : Int))
 | 2 => eqV (.int .i64 (a : Int))
 | 3 => eqV (.pointer (some ⟨g, 1, none⟩))
 | 4 => eqV (.pointer (some ⟨g, 2, none⟩))
 | 5 => eqV (.int .i64 (r.size : Int))
 | 6 => eqV (.int .i64 (b : Int))
 | 7 => eqV (.int .i64 ((a : Int) - (b : Int)))
 | 8 => takeV base img ((a : Int) - (b : Int))
 | 9 => takeV base img ((a : Int) - (b : Int))
 | 10 => imgV base (takeA img ((a : Int) - (b : Int))).1
 | 11 => rowNV (takeA img ((a : Int) - (b : Int))).2.1
 | 12 => eqV (.int .i64 (takeA img ((a : Int) - (b : Int))).2.2)
 | 13 => imgV base (takeA img ((a : Int) - (b : Int))).1
 | 14 => rowNV (takeA img ((a : Int) - (b : Int))).2.1
 | 15 => eqV (.int .i64 (takeA img ((a : Int) - (b : Int))).2.2)
 | _ => fun _ _ => True
theorem groV1_stable (base g n c k a b : Nat) (A : Option Addr) (img : List ByteArray) (r : RecI) (j : Nat) (v : Value) (w w' : World) (hs : Below w.heap.size w w') (h : groV1 base g n c k a b A img r j v w) : groV1 base g n c k a b A img r j v w' := by
 match j, h with
 | 0, h => exact h
 | 1, h => exact h
 | 2, h => exact h
 | 3, h => exact h
 | 4, h => exact h
 | 5, h => exact h
 | 6, h => exact h
 | 7, h => exact h
 | 8, h => exact takeV.step h hs
 | 9, h => exact takeV.step h hs
 | 10, h => exact imgV.step h hs
 | 11, h => exact rowNV.step h hs
 | 12, h => exact h
 | 13, h => exact imgV.step h hs
 | 14, h => exact rowNV.step h hs
 | 15, h => exact h
 | _ + 16, _ => trivial
def groV4 (g k nk nr q : Nat) (r : RecI) : Nat → Value → World → Prop
 | 0 => eqV (.int .i64 (k : Int))
 | 1 => eqV (.int .i64 (nk : Int))
 | 2 => eqV (.pointer (some ⟨g, 1, none⟩))
 | 3 => eqV (.pointer (some ⟨g, 2, none⟩))
 | 4 => eqV (.int .i64 (r.size : Int))
 | 5 => eqV (.int .i64 (nr : Int))
 | 6 => eqV (.int .i64 (q : Int))
 | 7 => eqV (.pointer (some ⟨g, 1, none⟩))
 | 8 => eqV (.pointer (some ⟨g, 7, none⟩))
 | 9 => eqV (.int .i64 (r.ind : Int))
 | 10 => eqV (.int .i64 (q : Int))
 | 11 => eqV (.int .i64 (r.ind : Int))
 | _ => fun _ _ => True
theorem groV4_stable (g k nk nr q : Nat) (r : RecI) (j : Nat) (v : Value) (w w' : World) (h : groV4 g k nk nr q r j v w) : groV4 g k nk nr q r j v w' := by
 match j, h with
 | 0, h => exact h
 | 1, h => exact h
 | 2, h => exact h
 | 3, h => exact h
 | 4, h => exact h
 | 5, h => exact h
 | 6, h => exact h
 | 7, h => exact h
 | 8, h => exact h
 | 9, h => exact h
 | 10, h => exact h
 | 11, h => exact h
 | _ + 12, _ => trivial
def groV7 (X k g4 n4 c4 m2 c2 q ind : Nat) (A2 : Option Addr) (l : List Nat) (r : RecI) : Nat → (Nat → Bool) → Value → World → Prop
 | 0 => fun _ => eqV (valR r)
 | 1 => fun _ => eqV (.int .i64 (k : Int))
 | 2 => fun _ => eqV (valR r)
 | 3 => fun L v w => L 7 = true ∨ L 11 = true ∨ ownV X (dataR r) v w
 | 4 => fun _ => eqV (.slice A2 m2 c2)
 | 5 => fun _ => eqV (.int .i64 (q : Int))
 | 6 => fun _ => eqV (.slice A2 q c2)
 | 7 => fun L v w => L 11 = true ∨ ownV X (dataR r ++ l) v w
 | 8 => fun _ => eqV (.int .i64 (ind : Int))
 | 9 => fun _ => eqV (valR (nameR r k (dataR r ++ l) ind))
 | 10 => fun _ => eqV (.slice (some ⟨g4, 0, none⟩) n4 c4)
 | 11 => fun _ => eqV (.tuple #[])
 | _ => fun _ _ _ => True
theorem groV7_stable (X k g4 n4 c4 m2 c2 q ind : Nat) (A2 : Option Addr) (l : List Nat) (r : RecI) (i j : Nat) (L : Nat → Bool) (v : Value) (w w' : World) (hij : i ≠ j) (hs : i ≠ 7 → i ≠ 11 → Below w.heap.size w w') (h : groV7 X k g4 n4 c4 m2 c2 q ind A2 l r j L v w) :
  groV7 X k g4 n4 c4 m2 c2 q ind A2 l r j (fun p => if p = i then true else L p) v w' := by
 match j, h with
 | 0, h => exact h
 | 1, h => exact h
 | 2, h => exact h
 | 3, h =>
  show (if 7 = i then true else L 7) = true ∨ (if 11 = i then true else L 11) = true ∨ ownV X (dataR r) v w'
  by_cases h7 : 7 = i
  ·exact .inl (if_pos h7)
  ·by_cases h11 : 11 = i
   ·exact .inr (.inl (if_pos h11))
   ·rw [if_neg h7, if_neg h11]
    rcases h with h | h | h
    ·exact .inl h
    ·exact .inr (.inl h)
    ·exact .inr (.inr (h.step (hs (Ne.symm h7) (Ne.symm h11))))
 | 4, h => exact h
 | 5, h => exact h
 | 6, h => exact h
 | 7, h =>
  show (if 11 = i then true else L 11) = true ∨ ownV X (dataR r ++ l) v w'
  by_cases h11 : 11 = i
  ·exact .inl (if_pos h11)
  ·rw [if_neg h11]
   rcases h with h | h
   ·exact .inl h
   ·exact .inr (h.step (hs hij (Ne.symm h11)))
 | 8, h => exact h
 | 9, h => exact h
 | 10, h => exact h
 | 11, h => exact h
 | _ + 12, _ => trivial

set_option maxRecDepth 100000 in
set_option maxHeartbeats 8000000 in
theorem growI_any (A : Option Addr) (n c : Nat) (img : List ByteArray) (r : RecI) (k : Nat) (w : World) (hr : OkR r) (hk : r.size < k) (hkl : k ≤ 8704) (hf : MapP img) (h : Reads w w.heap.size 1 A n (encS img)) :
  Calls Tryz.prog 46 #[.agg (cellsR r).toArray, .slice A n c, .int .i64 (k : Int)] w fun e w' => ImgsO w w' (growI img r k).1 (growI img r k).2 e := by
 have hmx : Tryz.prog.follows .mixedOrders = true := by kernel_rfl
 obtain ⟨i0, hi0, hy0, hy1, hy2⟩ := info_parts infoI
 have HR := Lib.hid hr
 have H := Lib.hid h
 have HM := Lib.hid hf
 have HK := Lib.hid (And.intro hk hkl)
 have hB1 := BR.new w r
 have hb1 := (Below.refl w.heap.size w).alloc (Nat.le_refl _) (.cells (cellsR r).toArray 62)
 have hg1 : w.heap.size < (w.alloc (.cells (cellsR r).toArray 62)).heap.size := by simp
 have cn := fun m (hm : m ≤ 8704) W => needsI_any m (by omega) W
 have cna := fun m (hm : m ≤ 8704) W => needsAllI_any m (by omega) W
 have cd : ∀ W, Calls Tryz.prog 74 #[.agg (cellsR r).toArray] W (RowP W (dataR r)) := fun W => data_any r hr W
 have hrk : r.size ≤ 8704 := by omega
 have cak := cna k hkl
 have car := cna r.size hrk
 have cnk := cn k hkl
 have cnr := cn r.size hrk
 have hGE := growI.eq_1 img r k
 have hdl : (dataR r).length = needN r.size := by rw [dataR_length hr]; unfold needN; omega
 have hN : needN k ≤ 68 ∧ needN r.size ≤ needN k ∧ needAllN r.size ≤ needAllN k ∧ needAllN k ≤ 69 ∧ needN k - needN r.size ≤ needAllN k - needAllN r.size := by
  have h1 : needN k ≤ 68 := by unfold needN; omega
  have h2 : needN r.size ≤ needN k := by unfold needN; omega
  unfold needAllN
  split <;> split <;> omega
 obtain ⟨a, ha⟩ : ∃ x, x = needAllN k := ⟨_, rfl⟩
 obtain ⟨b, hb⟩ : ∃ x, x = needAllN r.size := ⟨_, rfl⟩
 obtain ⟨nk, hnk⟩ : ∃ x, x = needN k := ⟨_, rfl⟩
 obtain ⟨nr, hnr⟩ : ∃ x, x = needN r.size := ⟨_, rfl⟩
 rw [← ha, ← hb, ← hnk, ← hnr] at hGE
 rw [← ha] at cak
 rw [← hb] at car
 rw [← hnk] at cnk
 rw [← hnr] at cnr hdl
 rw [← ha, ← hb, ← hnk, ← hnr] at hN
 have HN := Lib.hid (And.intro hN hdl)
 have HGE := Lib.hid hGE
 have hwD : IntKind.i64.wrap ((a : Int) - (b : Int)) = (a : Int) - (b : Int) := by rw [IntKind.wrap_i64]; omega
 clear h hf hr hk hkl cn cna hrk hGE hdl ha hb hnk hnr
 go_enter Tryz.func46, Tryz.ntmps46
 go_upto_region 1 with fail
 generalize w.alloc (.cells (cellsR r).toArray 62) = w1 at hB1 hb1 hg1 ⊢
 obtain ⟨g, hg⟩ : ∃ g, g = w.heap.size := ⟨_, rfl⟩
 rw [← hg] at hB1 hg1 ⊢
 have HB1 := Lib.hid (And.intro hB1 hg1)
 have HBB := Lib.hid (And.intro hb1 hg)
 clear hB1 hb1 hg1 hg
 refine wp_region_rel (fun w' => Below w1.heap.size w1 w') (fun _ w w' => Below w.heap.size w w') (groV1 w1.heap.size g n c k a b A img r) hmx (by kernel_rfl) ((Below.refl _ _).drew) (fun i w w' hC hs => bstep hC hs) (fun i j v w w' _ hs h => groV1_stable w1.heap.size g n c k a b A img r j v w w' hs h) ?_ ?_
 ·refine ⟨?_, ?_, ?_, ?_, ?_, ?_, ?_, ?_, ?_, ?_, ?_, ?_, ?_, ?_, ?_, ?_, trivial⟩
  ·intro V W hC hd K hK
   clear hd
   simp only [laidL, Act.put, List.setIfInBounds_toArray, List.set_cons_zero, List.set_cons_succ] at hK ⊢
   go_simp
   exact hK _ _ ⟨Below.refl _ _, rfl⟩
  ·intro V W hC hd K hK
   clear hd
   simp only [laidL, Act.put, List.setIfInBounds_toArray, List.set_cons_zero, List.set_cons_succ] at hK ⊢
   go_simp
   exact hK _ _ ⟨Below.refl _ _, rfl⟩
  ·intro V W hC hd K hK
   have q1 : groV1 w1.heap.size g n c k a b A img r 1 (V 1) W := hd.1
   have e1 : V 1 = .int .i64 (k : Int) := q1
   clear q1
   clear hd
   simp only [laidL, Act.put, List.setIfInBounds_toArray, List.set_cons_zero, List.set_cons_succ] at hK ⊢
   generalize V 1 = v1 at e1 hK ⊢
   subst e1
   go_simp
   go_at_call 81
   refine (cak _).mono ?_
   rintro e w3 ⟨rfl, rfl⟩
   exact hK _ _ ⟨Below.refl _ _, rfl⟩
  ·intro V W hC hd K hK
   clear hd
   simp only [laidL, Act.put, List.setIfInBounds_toArray, List.set_cons_zero, List.set_cons_succ] at hK ⊢
   go_simp
   exact hK _ _ ⟨Below.refl _ _, rfl⟩
  ·intro V W hC hd K hK
   have q3 : groV1 w1.heap.size g n c k a b A img r 3 (V 3) W := hd.1
   have e3 : V 3 = .pointer (some ⟨g, 1, none⟩) := q3
   clear q3
   clear hd
   simp only [laidL, Act.put, List.setIfInBounds_toArray, List.set_cons_zero, List.set_cons_succ] at hK ⊢
   generalize V 3 = v3 at e3 hK ⊢
   subst e3
   go_simp
   exact hK _ _ ⟨Below.refl _ _, rfl⟩
  ·intro V W hC hd K hK
   have q4 : groV1 w1.heap.size g n c k a b A img r 4 (V 4) W := hd.1
   have e4 : V 4 = .pointer (some ⟨g, 2, none⟩) := q4
   clear q4
   clear hd
   simp only [laidL, Act.put, List.setIfInBounds_toArray, List.set_cons_zero, List.set_cons_succ] at hK ⊢
   generalize V 4 = v4 at e4 hK ⊢
   subst e4
   have hc := (HB1.out.1.below hC HB1.out.2).size
   go_simp
   exact hK _ _ ⟨Below.refl _ _, rfl⟩
  ·intro V W hC hd K hK
   have q5 : groV1 w1.heap.size g n c k a b A img r 5 (V 5) W := hd.1
   have e5 : V 5 = .int .i64 (r.size : Int) := q5
   clear q5
   clear hd
   simp only [laidL, Act.put, List.setIfInBounds_toArray, List.set_cons_zero, List.set_cons_succ] at hK ⊢
   generalize V 5 = v5 at e5 hK ⊢
   subst e5
   go_simp
   go_at_call 81
   refine (car _).mono ?_
   rintro e w3 ⟨rfl, rfl⟩
   exact hK _ _ ⟨Below.refl _ _, rfl⟩
  ·intro V W hC hd K hK
   have q2 : groV1 w1.heap.size g n c k a b A img r 2 (V 2) W := hd.1
   have e2 : V 2 = .int .i64 (a : Int) := q2
   clear q2
   have q6 : groV1 w1.heap.size g n c k a b A img r 6 (V 6) W := hd.2.1
   have e6 : V 6 = .int .i64 (b : Int) := q6
   clear q6
   clear hd
   simp only [laidL, Act.put, List.setIfInBounds_toArray, List.set_cons_zero, List.set_cons_succ] at hK ⊢
   generalize V 2 = v2 at e2 hK ⊢
   subst e2
   generalize V 6 = v6 at e6 hK ⊢
   subst e6
   go_simp
   exact hK _ _ ⟨Below.refl _ _, rfl⟩
  ·intro V W hC hd K hK
   have q0 : groV1 w1.heap.size g n c k a b A img r 0 (V 0) W := hd.1
   have e0 : V 0 = .slice A n c := q0
   clear q0
   have q7 : groV1 w1.heap.size g n c k a b A img r 7 (V 7) W := hd.2.1
   have e7 : V 7 = .int .i64 ((a : Int) - (b : Int)) := q7
   clear q7
   clear hd
   simp only [laidL, Act.put, List.setIfInBounds_toArray, List.set_cons_zero, List.set_cons_succ] at hK ⊢
   generalize V 0 = v0 at e0 hK ⊢
   subst e0
   generalize V 7 = v7 at e7 hK ⊢
   subst e7
   go_simp
   go_at_call 80
   refine (takeO_any A n c img ((a : Int) - (b : Int)) W ((H.out.step HBB.out.1).step hC) HM.out (by omega)).mono ?_
   rintro e w3 ⟨g4, n4, c4, A2, m2, c2, rfl, h1, h2, h3, h4, h5, h6⟩
   exact hK _ _ ⟨h6, ((g4, n4, c4), (A2, m2, c2)), rfl, ⟨own_base h1.own hC.size, h1.pos⟩, h2, h3, h4, h5⟩
  ·intro V W hC hd K hK
   have q8 : groV1 w1.heap.size g n c k a b A img r 8 (V 8) W := hd.1
   have q8 : takeV w1.heap.size img ((a : Int) - (b : Int)) (V 8) W := q8
   have p8 := takeV_out q8
   clear q8
   cases p8
   rename_i b8 hh
   have e8 := hh.1
   have h8 := hh.2
   clear hh
   clear hd
   simp only [laidL, Act.put, List.setIfInBounds_toArray, List.set_cons_zero, List.set_cons_succ] at hK ⊢
   generalize V 8 = v8 at e8 hK ⊢
   subst e8
   go_simp
   exact hK _ _ ⟨Below.refl _ _, _, rfl, h8⟩
  ·intro V W hC hd K hK
   have q9 : groV1 w1.heap.size g n c k a b A img r 9 (V 9) W := hd.1
   have q9 : takeV w1.heap.size img ((a : Int) - (b : Int)) (V 9) W := q9
   have p9 := takeV_out q9
   clear q9
   cases p9
   rename_i b9 hh
   have e9 := hh.1
   have h9 := hh.2
   clear hh
   clear hd
   simp only [laidL, Act.put, List.setIfInBounds_toArray, List.set_cons_zero, List.set_cons_succ] at hK ⊢
   generalize V 9 = v9 at e9 hK ⊢
   subst e9
   go_simp
   exact hK _ _ ⟨Below.refl _ _, _, rfl, h9.1, h9.2.1⟩
  ·intro V W hC hd K hK
   have q9 : groV1 w1.heap.size g n c k a b A img r 9 (V 9) W := hd.1
   have q9 : takeV w1.heap.size img ((a : Int) - (b : Int)) (V 9) W := q9
   have p9 := takeV_out q9
   clear q9
   cases p9
   rename_i b9 hh
   have e9 := hh.1
   have h9 := hh.2
   clear hh
   clear hd
   simp only [laidL, Act.put, List.setIfInBounds_toArray, List.set_cons_zero, List.set_cons_succ] at hK ⊢
   generalize V 9 = v9 at e9 hK ⊢
   subst e9
   go_simp
   exact hK _ _ ⟨Below.refl _ _, _, rfl, h9.2.2⟩
  ·intro V W hC hd K hK
   have q9 : groV1 w1.heap.size g n c k a b A img r 9 (V 9) W := hd.1
   have q9 : takeV w1.heap.size img ((a : Int) - (b : Int)) (V 9) W := q9
   have p9 := takeV_out q9
   clear q9
   cases p9
   rename_i b9 hh
   have e9 := hh.1
   have h9 := hh.2
   clear hh
   clear hd
   simp only [laidL, Act.put, List.setIfInBounds_toArray, List.set_cons_zero, List.set_cons_succ] at hK ⊢
   generalize V 9 = v9 at e9 hK ⊢
   subst e9
   go_simp
   exact hK _ _ ⟨Below.refl _ _, rfl⟩
  ·intro V W hC hd K hK
   have q10 : groV1 w1.heap.size g n c k a b A img r 10 (V 10) W := hd.1
   have q10 : imgV w1.heap.size (takeA img ((a : Int) - (b : Int))).1 (V 10) W := q10
   have p10 := imgV_out q10
   clear q10
   cases p10
   rename_i b10 hh
   have e10 := hh.1
   have h10 := hh.2
   clear hh
   clear hd
   simp only [laidL, Act.put, List.setIfInBounds_toArray, List.set_cons_zero, List.set_cons_succ] at hK ⊢
   generalize V 10 = v10 at e10 hK ⊢
   subst e10
   go_simp
   exact hK _ _ ⟨Below.refl _ _, _, rfl, h10⟩
  ·intro V W hC hd K hK
   have q11 : groV1 w1.heap.size g n c k a b A img r 11 (V 11) W := hd.1
   have q11 : rowNV (takeA img ((a : Int) - (b : Int))).2.1 (V 11) W := q11
   have p11 := rowNV_out q11
   clear q11
   cases p11
   rename_i b11 hh
   have e11 := hh.1
   have h11 := hh.2
   clear hh
   clear hd
   simp only [laidL, Act.put, List.setIfInBounds_toArray, List.set_cons_zero, List.set_cons_succ] at hK ⊢
   generalize V 11 = v11 at e11 hK ⊢
   subst e11
   go_simp
   exact hK _ _ ⟨Below.refl _ _, _, rfl, h11⟩
  ·intro V W hC hd K hK
   have q12 : groV1 w1.heap.size g n c k a b A img r 12 (V 12) W := hd.1
   have e12 : V 12 = .int .i64 (takeA img ((a : Int) - (b : Int))).2.2 := q12
   clear q12
   clear hd
   simp only [laidL, Act.put, List.setIfInBounds_toArray, List.set_cons_zero, List.set_cons_succ] at hK ⊢
   generalize V 12 = v12 at e12 hK ⊢
   subst e12
   go_simp
   exact hK _ _ ⟨Below.refl _ _, rfl⟩
 ·intro V W2 hC2 hV
  have e15 : V 15 = .int .i64 (takeA img ((a : Int) - (b : Int))).2.2 := hV 15 (show 15 < 16 by decide)
  have e13 : imgV w1.heap.size (takeA img ((a : Int) - (b : Int))).1 (V 13) W2 := hV 13 (show 13 < 16 by decide)
  have e14 : rowNV (takeA img ((a : Int) - (b : Int))).2.1 (V 14) W2 := hV 14 (show 14 < 16 by decide)
  obtain ⟨⟨g4, n4, c4⟩, e13, hO, hn4⟩ := e13
  obtain ⟨⟨A2, m2, c2⟩, e14, hT, hm2, hmc⟩ := e14
  have hlen := takeA_len (img := img) (x := (a : Int) - (b : Int))
  have hall := takeA_lt (img := img) (x := (a : Int) - (b : Int)) (by have := HM.out.1; omega)
  have hG := HGE.out
  clear hV HGE cak car
  dsimp only at e13 e14 hO hn4 hT hm2 hmc
  generalize takeA img ((a : Int) - (b : Int)) = y at e15 hO hT hlen hG hall
  obtain ⟨yi, yl, ye⟩ := y
  dsimp only at e15 hO hT hlen hG hall
  have HALL := Lib.hid hall
  have HT := Lib.hid (And.intro hO (And.intro hT (And.intro hn4 hC2)))
  have HLEN := Lib.hid hlen
  have HG := Lib.hid hG
  have hg42 := hO.lt
  have hg41 := hO.ge
  clear hO hT hn4 hC2 hlen hG hall
  simp only [laidL, Act.put, List.setIfInBounds_toArray, List.set_cons_zero, List.set_cons_succ]
  generalize V 13 = v13 at e13 ⊢
  generalize V 14 = v14 at e14 ⊢
  generalize V 15 = v15 at e15 ⊢
  subst e13
  subst e14
  subst e15
  have HBW := Lib.hid (HB1.out.1.below HT.out.2.2.2 HB1.out.2)
  by_cases hy : ye = 0
  ·subst hy
   have hl := HLEN.out rfl
   have hml := HT.out.2.1.lenN
   have hq2 : nk - nr ≤ m2 := by have := HN.out; omega
   obtain ⟨q, hq⟩ : ∃ q, q = nk - nr := ⟨_, rfl⟩
   rw [← hq] at hq2
   have hwq : IntKind.i64.wrap ((nk : Int) - (nr : Int)) = (q : Int) := by rw [IntKind.wrap_i64]; have := HN.out; omega
   have HQ := Lib.hid (show q = nk - nr ∧ m2 = yl.length from ⟨hq, by omega⟩)
   have HE0 : Hid (growI img r k = (saveR yi (nameR r k (dataR r ++ yl.take q) (if q < yl.length then yl.getD q 0 else r.ind)), 0)) := Lib.hid (by rw [HG.out, if_neg (by decide), ← hq])
   clear hq hl
   go_upto_region 4 with fail
   refine wp_region_rel (fun w' => w' = W2.drew) (fun _ a b => b = a) (groV4 g k nk nr q r) hmx (by kernel_rfl) rfl (fun i a b h1 h2 => by rw [h2]; exact h1) (fun i j v a b _ _ h => groV4_stable g k nk nr q r j v a b h) ?_ ?_
   ·refine ⟨?_, ?_, ?_, ?_, ?_, ?_, ?_, ?_, ?_, ?_, ?_, ?_, trivial⟩
    ·intro V W hC hd K hK
     clear hd
     simp only [laidL, Act.put, List.setIfInBounds_toArray, List.set_cons_zero, List.set_cons_succ] at hK ⊢
     subst hC
     go_simp
     exact hK _ _ ⟨rfl, rfl⟩
    ·intro V W hC hd K hK
     have q0 : groV4 g k nk nr q r 0 (V 0) W := hd.1
     have e0 : V 0 = .int .i64 (k : Int) := q0
     clear q0
     clear hd
     simp only [laidL, Act.put, List.setIfInBounds_toArray, List.set_cons_zero, List.set_cons_succ] at hK ⊢
     generalize V 0 = v0 at e0 hK ⊢
     subst e0
     subst hC
     go_simp
     go_at_call 78
     refine (cnk _).mono ?_
     rintro e w3 ⟨rfl, rfl⟩
     exact hK _ _ ⟨rfl, rfl⟩
    ·intro V W hC hd K hK
     clear hd
     simp only [laidL, Act.put, List.setIfInBounds_toArray, List.set_cons_zero, List.set_cons_succ] at hK ⊢
     subst hC
     go_simp
     exact hK _ _ ⟨rfl, rfl⟩
    ·intro V W hC hd K hK
     have q2 : groV4 g k nk nr q r 2 (V 2) W := hd.1
     have e2 : V 2 = .pointer (some ⟨g, 1, none⟩) := q2
     clear q2
     clear hd
     simp only [laidL, Act.put, List.setIfInBounds_toArray, List.set_cons_zero, List.set_cons_succ] at hK ⊢
     generalize V 2 = v2 at e2 hK ⊢
     subst e2
     subst hC
     go_simp
     exact hK _ _ ⟨rfl, rfl⟩
    ·intro V W hC hd K hK
     have q3 : groV4 g k nk nr q r 3 (V 3) W := hd.1
     have e3 : V 3 = .pointer (some ⟨g, 2, none⟩) := q3
     clear q3
     clear hd
     simp only [laidL, Act.put, List.setIfInBounds_toArray, List.set_cons_zero, List.set_cons_succ] at hK ⊢
     generalize V 3 = v3 at e3 hK ⊢
     subst e3
     subst hC
     have hc : W2.drew.cell? ⟨g, 2, none⟩ = _ := HBW.out.size
     go_simp
     exact hK _ _ ⟨rfl, rfl⟩
    ·intro V W hC hd K hK
     have q4 : groV4 g k nk nr q r 4 (V 4) W := hd.1
     have e4 : V 4 = .int .i64 (r.size : Int) := q4
     clear q4
     clear hd
     simp only [laidL, Act.put, List.setIfInBounds_toArray, List.set_cons_zero, List.set_cons_succ] at hK ⊢
     generalize V 4 = v4 at e4 hK ⊢
     subst e4
     subst hC
     go_simp
     go_at_call 78
     refine (cnr _).mono ?_
     rintro e w3 ⟨rfl, rfl⟩
     exact hK _ _ ⟨rfl, rfl⟩
    ·intro V W hC hd K hK
     have q1 : groV4 g k nk nr q r 1 (V 1) W := hd.1
     have e1 : V 1 = .int .i64 (nk : Int) := q1
     clear q1
     have q5 : groV4 g k nk nr q r 5 (V 5) W := hd.2.1
     have e5 : V 5 = .int .i64 (nr : Int) := q5
     clear q5
     clear hd
     simp only [laidL, Act.put, List.setIfInBounds_toArray, List.set_cons_zero, List.set_cons_succ] at hK ⊢
     generalize V 1 = v1 at e1 hK ⊢
     subst e1
     generalize V 5 = v5 at e5 hK ⊢
     subst e5
     subst hC
     go_simp
     exact hK _ _ ⟨rfl, rfl⟩
    ·intro V W hC hd K hK
     clear hd
     simp only [laidL, Act.put, List.setIfInBounds_toArray, List.set_cons_zero, List.set_cons_succ] at hK ⊢
     subst hC
     go_simp
     exact hK _ _ ⟨rfl, rfl⟩
    ·intro V W hC hd K hK
     have q7 : groV4 g k nk nr q r 7 (V 7) W := hd.1
     have e7 : V 7 = .pointer (some ⟨g, 1, none⟩) := q7
     clear q7
     clear hd
     simp only [laidL, Act.put, List.setIfInBounds_toArray, List.set_cons_zero, List.set_cons_succ] at hK ⊢
     generalize V 7 = v7 at e7 hK ⊢
     subst e7
     subst hC
     go_simp
     exact hK _ _ ⟨rfl, rfl⟩
    ·intro V W hC hd K hK
     have q8 : groV4 g k nk nr q r 8 (V 8) W := hd.1
     have e8 : V 8 = .pointer (some ⟨g, 7, none⟩) := q8
     clear q8
     clear hd
     simp only [laidL, Act.put, List.setIfInBounds_toArray, List.set_cons_zero, List.set_cons_succ] at hK ⊢
     generalize V 8 = v8 at e8 hK ⊢
     subst e8
     subst hC
     have hc : W2.drew.cell? ⟨g, 7, none⟩ = _ := HBW.out.ind HR.out
     go_simp
     exact hK _ _ ⟨rfl, rfl⟩
    ·intro V W hC hd K hK
     have q6 : groV4 g k nk nr q r 6 (V 6) W := hd.1
     have e6 : V 6 = .int .i64 (q : Int) := q6
     clear q6
     clear hd
     simp only [laidL, Act.put, List.setIfInBounds_toArray, List.set_cons_zero, List.set_cons_succ] at hK ⊢
     generalize V 6 = v6 at e6 hK ⊢
     subst e6
     subst hC
     go_simp
     exact hK _ _ ⟨rfl, rfl⟩
    ·intro V W hC hd K hK
     have q9 : groV4 g k nk nr q r 9 (V 9) W := hd.1
     have e9 : V 9 = .int .i64 (r.ind : Int) := q9
     clear q9
     clear hd
     simp only [laidL, Act.put, List.setIfInBounds_toArray, List.set_cons_zero, List.set_cons_succ] at hK ⊢
     generalize V 9 = v9 at e9 hK ⊢
     subst e9
     subst hC
     go_simp
     exact hK _ _ ⟨rfl, rfl⟩
   ·intro V4 W hC hV
    have e10 : V4 10 = .int .i64 (q : Int) := hV 10 (show 10 < 12 by decide)
    have e11 : V4 11 = .int .i64 (r.ind : Int) := hV 11 (show 11 < 12 by decide)
    clear hV cnk cnr
    have HW := Lib.hid (show OwI W w1.heap.size g4 n4 c4 yi ∧ Reads W W.heap.size 1 A2 m2 (encN yl) ∧ Below w.heap.size w W ∧ BR W g r ∧ g4 < W.heap.size ∧ g < w1.heap.size ∧ w1.heap.size ≤ W.heap.size from by
     subst hC
     exact ⟨HT.out.1.step (Below.refl _ _).drew, HT.out.2.1.drewN 1, (bstep HBB.out.1 HT.out.2.2.2).drew, HBW.out.drewN 1, hg42, HB1.out.2, HT.out.2.2.2.size⟩)
    clear hC
    simp only [laidL, Act.put, List.setIfInBounds_toArray, List.set_cons_zero, List.set_cons_succ]
    generalize V4 10 = v10 at e10 ⊢
    generalize V4 11 = v11 at e11 ⊢
    subst e10
    subst e11
    have hq0 : (0 : Int) ≤ (q : Int) := by omega
    have hqm : (q : Int) ≤ (m2 : Int) := by omega
    have hmc2 : (m2 : Int) ≤ (c2 : Int) := by omega
    have hqc2 : (q : Int) ≤ (c2 : Int) := by omega
    by_cases hlt : q < m2
    ·obtain ⟨ind, hind⟩ : ∃ x, x = yl.getD q 0 := ⟨_, rfl⟩
     have HE : Hid (growI img r k = (saveR yi (nameR r k (dataR r ++ yl.take q) ind), 0)) := Lib.hid (by rw [HE0.out, if_pos (by have := HQ.out.2; omega), hind])
     obtain ⟨ba, oa, eA, hba, gq⟩ := HW.out.2.1.nat hlt
     rw [← hind] at gq
     subst eA
     have hlti : (q : Int) < (m2 : Int) := by omega
     have hltd : decide ((q : Int) < (m2 : Int)) = true := decide_eq_true hlti
     have hltn : decide (q < m2) = true := decide_eq_true hlt
     have hib : ind < 65536 := HALL.out _ (by rw [hind, List.getD_eq_getElem?_getD, List.getElem?_eq_getElem (by have := HQ.out.2; omega)]; exact List.getElem_mem _)
     clear hind
     obtain ⟨A2, hA2⟩ : ∃ x : Option Addr, x = some ⟨ba, oa, none⟩ := ⟨_, rfl⟩
     go_upto_region 7 with fail
     simp only [← hA2]
     rw [← hA2] at HW
     clear gq hba hA2
     have HGG : Hid (g ≠ g4) := Lib.hid (by have := HW.out.2.2.2.2.2.1; omega)
     refine wp_region_rel4 [[], [], [], [2], [], [], [4, 5], [3, 6, 3], [], [0, 1, 7, 8, 7], [], [9, 10, 9]] (fun L w' => But g4 W w' ∧ OwI w' w1.heap.size g4 n4 c4 (if L 11 = true then saveR yi (nameR r k (dataR r ++ yl.take q) ind) else yi) ∧ (L 11 = false → Below W.heap.size W w') ∧ ClosedL [[], [], [], [2], [], [], [4, 5], [3, 6, 3], [], [0, 1, 7, 8, 7], [], [9, 10, 9]] L) (fun i w w' => (i ≠ 7 → i ≠ 11 → Below w.heap.size w w') ∧ (i ≠ 11 → Below W.heap.size w w') ∧ (i = 11 → But g4 w w' ∧ OwI w' w1.heap.size g4 n4 c4 (saveR yi (nameR r k (dataR r ++ yl.take q) ind)))) (groV7 W.heap.size k g4 n4 c4 m2 c2 q ind A2 (yl.take q) r) hmx (by kernel_rfl) (by kernel_rfl) ⟨But.of_below (Below.refl _ _).drew _, by rw [if_neg (by decide)]; exact HW.out.1.step (Below.refl _ _).drew, fun _ => (Below.refl _ _).drew, ClosedL.start _⟩ (fun i L w w' hi hwt hC hs => by
       by_cases h9 : i = 11
       ·obtain ⟨h1, h2⟩ := hs.2.2 h9
        subst h9
        exact ⟨hC.1.trans h1, by rw [if_pos (by simp)]; exact h2, fun h => by simp at h, hC.2.2.2.step hwt⟩
       ·have h1 := hs.2.1 h9
        have e : (if (11 : Nat) = i then true else L 11) = L 11 := if_neg (Ne.symm h9)
        refine ⟨hC.1.trans_below h1 (Nat.le_refl _), ?_, fun h => ?_, hC.2.2.2.step hwt⟩
        ·show OwI w' w1.heap.size g4 n4 c4 (if (if (11 : Nat) = i then true else L 11) = true then _ else _)
         rw [e]
         exact hC.2.1.belowB h1 HW.out.2.2.2.2.1
        ·have h : (if (11 : Nat) = i then true else L 11) = false := h
         rw [e] at h
         exact (hC.2.2.1 h).trans h1) (fun i j L v w w' hij _ _ hs h => groV7_stable W.heap.size k g4 n4 c4 m2 c2 q ind A2 (yl.take q) r i j L v w w' hij hs.1 h) ?_ ?_
     ·refine ⟨?_, ?_, ?_, ?_, ?_, ?_, ?_, ?_, ?_, ?_, ?_, ?_, trivial⟩
      ·intro V L W5 hL hC hd K hK
       clear hd
       simp only [laidL, Act.put, List.setIfInBounds_toArray, List.set_cons_zero, List.set_cons_succ] at hK ⊢
       refine wp_load_mid 62 (.tmp 3) rfl _ 0 rfl (cellsR _) _ (HW.out.2.2.2.1.but hC.1 HGG.out).range Tryz.underlying62 rfl (by rw [cellsR_length HR.out]; exact sizeR) ?_
       exact hK (valR r) _ ⟨⟨fun _ _ => Below.refl _ _, fun _ => Below.refl _ _, fun h => absurd h (by decide)⟩, rfl⟩
      ·intro V L W5 hL hC hd K hK
       clear hd
       simp only [laidL, Act.put, List.setIfInBounds_toArray, List.set_cons_zero, List.set_cons_succ] at hK ⊢
       go_simp
       exact hK _ _ ⟨⟨fun _ _ => Below.refl _ _, fun _ => Below.refl _ _, fun h => absurd h (by decide)⟩, rfl⟩
      ·intro V L W5 hL hC hd K hK
       clear hd
       simp only [laidL, Act.put, List.setIfInBounds_toArray, List.set_cons_zero, List.set_cons_succ] at hK ⊢
       refine wp_load_mid 62 (.tmp 3) rfl _ 0 rfl (cellsR _) _ (HW.out.2.2.2.1.but hC.1 HGG.out).range Tryz.underlying62 rfl (by rw [cellsR_length HR.out]; exact sizeR) ?_
       exact hK (valR r) _ ⟨⟨fun _ _ => Below.refl _ _, fun _ => Below.refl _ _, fun h => absurd h (by decide)⟩, rfl⟩
      ·intro V L W5 hL hC hd K hK
       have q2 : groV7 W.heap.size k g4 n4 c4 m2 c2 q ind A2 (yl.take q) r 2 L (V 2) W5 := (hd.1).2
       have e2 : V 2 = valR r := q2
       clear q2
       clear hd
       simp only [laidL, Act.put, List.setIfInBounds_toArray, List.set_cons_zero, List.set_cons_succ] at hK ⊢
       generalize V 2 = v2 at e2 hK ⊢
       subst e2
       go_simp
       go_at_call 74
       refine (cd _).mono ?_
       rintro e w3 ⟨A3, c3, rfl, ho3, hb3⟩
       exact hK _ _ ⟨⟨fun _ _ => hb3, fun _ => hb3.mono hC.1.size, fun h => absurd h (by decide)⟩, .inr (.inr ⟨A3, c3, rfl, own_base ho3 hC.1.size⟩)⟩
      ·intro V L W5 hL hC hd K hK
       clear hd
       simp only [laidL, Act.put, List.setIfInBounds_toArray, List.set_cons_zero, List.set_cons_succ] at hK ⊢
       go_simp
       exact hK _ _ ⟨⟨fun _ _ => Below.refl _ _, fun _ => Below.refl _ _, fun h => absurd h (by decide)⟩, rfl⟩
      ·intro V L W5 hL hC hd K hK
       clear hd
       simp only [laidL, Act.put, List.setIfInBounds_toArray, List.set_cons_zero, List.set_cons_succ] at hK ⊢
       go_simp
       exact hK _ _ ⟨⟨fun _ _ => Below.refl _ _, fun _ => Below.refl _ _, fun h => absurd h (by decide)⟩, rfl⟩
      ·intro V L W5 hL hC hd K hK
       have q4 : groV7 W.heap.size k g4 n4 c4 m2 c2 q ind A2 (yl.take q) r 4 L (V 4) W5 := (hd.1).2
       have e4 : V 4 = .slice A2 m2 c2 := q4
       clear q4
       have q5 : groV7 W.heap.size k g4 n4 c4 m2 c2 q ind A2 (yl.take q) r 5 L (V 5) W5 := (hd.2.1).2
       have e5 : V 5 = .int .i64 (q : Int) := q5
       clear q5
       clear hd
       simp only [laidL, Act.put, List.setIfInBounds_toArray, List.set_cons_zero, List.set_cons_succ] at hK ⊢
       generalize V 4 = v4 at e4 hK ⊢
       subst e4
       generalize V 5 = v5 at e5 hK ⊢
       subst e5
       go_simp
       exact hK _ _ ⟨⟨fun _ _ => Below.refl _ _, fun _ => Below.refl _ _, fun h => absurd h (by decide)⟩, rfl⟩
      ·intro V L W5 hL hC hd K hK
       have q6 : groV7 W.heap.size k g4 n4 c4 m2 c2 q ind A2 (yl.take q) r 6 L (V 6) W5 := (hd.2.1).2
       have e6 : V 6 = .slice A2 q c2 := q6
       clear q6
       have hcl := hC.2.2.2
       have hn11 : L 11 = false := by
        cases h11 : L 11 with
        | false => rfl
        | true =>
         have h9 := hcl 11 h11 9 (by decide)
         have h7 := hcl 9 h9 7 (by decide)
         rw [hL] at h7; cases h7
       clear hcl
       have o3 : groV7 W.heap.size k g4 n4 c4 m2 c2 q ind A2 (yl.take q) r 3 L (V 3) W5 := (hd.1).2
       clear hd
       simp only [laidL, Act.put, List.setIfInBounds_toArray, List.set_cons_zero, List.set_cons_succ] at hK ⊢
       generalize V 6 = v6 at e6 hK ⊢
       subst e6
       rcases o3 with h | h | ⟨A3, c3, e3, ho3⟩
       ·rw [hL] at h; cases h
       ·rw [hn11] at h; cases h
       generalize V 3 = v3 at e3 hK ⊢
       subst e3
       have hrd : Reads W5 W.heap.size 1 A2 q (encN (yl.take q)) := (reads_take HW.out.2.1 (by omega)).below (hC.2.2.1 hn11)
       refine wp_append_reads W5 (.tmp 51) (.tmp 54) 49 rfl W.heap.size 3 i0 (.int .i64 0) 1 8 Tryz.underlying49 hi0 hy0 hy1 hy2 rfl (by decide) _ _ _ rfl ho3 W.heap.size A2 q c2 _ rfl hrd (encN_one _) (by unfold maxLen; have := HN.out; have := HQ.out.1; omega) (by have := HN.out; have := HQ.out.1; omega) hC.1.size ?_
       intro A5 c5 w5 ho5 hg5
       have hbl : Below W.heap.size W5 w5 := (Below.refl _ _).grown hg5 hC.1.size (own_row_ge ho3)
       refine hK _ _ ⟨⟨fun h => absurd rfl h, fun _ => hbl, fun h => absurd h (by decide)⟩, .inr ⟨A5, c5, ?_, ?_⟩⟩
       ·rw [List.length_append, List.length_take, show min q yl.length = q by have := HQ.out.2; omega]
       ·rw [List.length_append, List.length_take, show min q yl.length = q by have := HQ.out.2; omega, encN_app]; exact ho5
      ·intro V L W5 hL hC hd K hK
       clear hd
       simp only [laidL, Act.put, List.setIfInBounds_toArray, List.set_cons_zero, List.set_cons_succ] at hK ⊢
       go_simp
       exact hK _ _ ⟨⟨fun _ _ => Below.refl _ _, fun _ => Below.refl _ _, fun h => absurd h (by decide)⟩, rfl⟩
      ·intro V L W5 hL hC hd K hK
       have q0 : groV7 W.heap.size k g4 n4 c4 m2 c2 q ind A2 (yl.take q) r 0 L (V 0) W5 := (hd.1).2
       have e0 : V 0 = valR r := q0
       clear q0
       have q1 : groV7 W.heap.size k g4 n4 c4 m2 c2 q ind A2 (yl.take q) r 1 L (V 1) W5 := (hd.2.1).2
       have e1 : V 1 = .int .i64 (k : Int) := q1
       clear q1
       have q8 : groV7 W.heap.size k g4 n4 c4 m2 c2 q ind A2 (yl.take q) r 8 L (V 8) W5 := (hd.2.2.2.1).2
       have e8 : V 8 = .int .i64 (ind : Int) := q8
       clear q8
       have hcl := hC.2.2.2
       have hn11 : L 11 = false := by
        cases h11 : L 11 with
        | false => rfl
        | true =>
         have h9 := hcl 11 h11 9 (by decide)
         rw [hL] at h9; cases h9
       clear hcl
       have o7 : groV7 W.heap.size k g4 n4 c4 m2 c2 q ind A2 (yl.take q) r 7 L (V 7) W5 := (hd.2.2.1).2
       clear hd
       simp only [laidL, Act.put, List.setIfInBounds_toArray, List.set_cons_zero, List.set_cons_succ] at hK ⊢
       generalize V 0 = v0 at e0 hK ⊢
       subst e0
       generalize V 1 = v1 at e1 hK ⊢
       subst e1
       generalize V 8 = v8 at e8 hK ⊢
       subst e8
       rcases o7 with h | ⟨A5, c5, e7, ho5⟩
       ·rw [hn11] at h; cases h
       have hll : (dataR r ++ yl.take q).length ≤ 68 := by rw [List.length_append, List.length_take]; have := HN.out; have := HQ.out.1; omega
       obtain ⟨ll, hle⟩ : ∃ x, x = (dataR r ++ yl.take q).length := ⟨_, rfl⟩
       rw [← hle] at hll e7 ho5
       clear hle
       generalize V 7 = v7 at e7 hK ⊢
       subst e7
       have hA5 : (A5 = none ∧ c5 = 0) ∨ ∃ b o, A5 = some ⟨b, o, none⟩ ∧ b < W5.heap.size := by
        rcases own_nil_or ho5 with ⟨e1, e2, _⟩ | ⟨b, e1⟩
        ·exact .inl ⟨e1, e2⟩
        ·subst e1
         exact .inr ⟨b, 0, rfl, (own_block ho5).2.1⟩
       have hle5 := own_le ho5
       have cs := naming_any r HR.out k (by have := HK.out.2; omega) ind hib A5 ll c5 (dataR r ++ yl.take q) W5 (Reads.of_own ho5) hll hle5 hA5
       clear hll hA5 hle5
       go_simp
       go_at_call 82
       refine cs.mono ?_
       rintro e w3 ⟨rfl, hb3⟩
       exact hK _ _ ⟨⟨fun _ _ => hb3, fun _ => hb3.mono hC.1.size, fun h => absurd h (by decide)⟩, rfl⟩
      ·intro V L W5 hL hC hd K hK
       clear hd
       simp only [laidL, Act.put, List.setIfInBounds_toArray, List.set_cons_zero, List.set_cons_succ] at hK ⊢
       go_simp
       exact hK _ _ ⟨⟨fun _ _ => Below.refl _ _, fun _ => Below.refl _ _, fun h => absurd h (by decide)⟩, rfl⟩
      ·intro V L W5 hL hC hd K hK
       have q9 : groV7 W.heap.size k g4 n4 c4 m2 c2 q ind A2 (yl.take q) r 9 L (V 9) W5 := (hd.1).2
       have e9 : V 9 = valR (nameR r k (dataR r ++ yl.take q) ind) := q9
       clear q9
       have q10 : groV7 W.heap.size k g4 n4 c4 m2 c2 q ind A2 (yl.take q) r 10 L (V 10) W5 := (hd.2.1).2
       have e10 : V 10 = .slice (some ⟨g4, 0, none⟩) n4 c4 := q10
       clear q10
       clear hd
       simp only [laidL, Act.put, List.setIfInBounds_toArray, List.set_cons_zero, List.set_cons_succ] at hK ⊢
       generalize V 9 = v9 at e9 hK ⊢
       subst e9
       generalize V 10 = v10 at e10 hK ⊢
       subst e10
       go_simp
       have hO : OwI W5 w1.heap.size g4 n4 c4 yi := by have h := hC.2.1; rwa [if_neg (by rw [hL]; decide)] at h
       go_at_call 34
       have cs := saveR_any (nameR r k (dataR r ++ yl.take q) ind) (nameR_ok HR.out (by have := HK.out.2; omega) hib) w1.heap.size g4 n4 c4 yi W5 hO
       refine cs.mono ?_
       rintro e w3 ⟨rfl, hO3, hb3⟩
       exact hK _ _ ⟨⟨fun _ h => absurd rfl h, fun h => absurd rfl h, fun _ => ⟨hb3, hO3⟩⟩, rfl⟩
     ·intro V L W5 hL hC hV
      have hO5 : OwI W5 w1.heap.size g4 n4 c4 (saveR yi (nameR r k (dataR r ++ yl.take q) ind)) := by have h := hC.2.1; rw [if_pos (hL 11 (by decide))] at h; exact h
      have HF := Lib.hid (And.intro hO5 (HW.out.2.2.1.trans (hC.1.to_below (B := w.heap.size) (by have := HBB.out.1.size; omega) HW.out.2.2.1.size)))
      clear hV hL hC hO5
      simp only [laidL, Act.put, List.setIfInBounds_toArray, List.set_cons_zero, List.set_cons_succ]
      go_wp2
      go_ret2
      rw [HE.out]
      exact ⟨g4, n4, c4, rfl, ⟨own_base HF.out.1.own HBB.out.1.size, HF.out.1.pos⟩, HT.out.2.2.1, HF.out.2⟩
    ·have HE : Hid (growI img r k = (saveR yi (nameR r k (dataR r ++ yl.take q) r.ind), 0)) := Lib.hid (by rw [HE0.out, if_neg (by have := HQ.out.2; omega)])
     have hlti : ¬ (q : Int) < (m2 : Int) := by omega
     have hltd : decide ((q : Int) < (m2 : Int)) = false := decide_eq_false hlti
     have hltn : decide (q < m2) = false := decide_eq_false hlt
     have hib : r.ind < 65536 := HR.out.ind
     go_upto_region 7 with fail
     obtain ⟨ind, hind⟩ : ∃ x, x = r.ind := ⟨_, rfl⟩
     simp only [← hind]
     rw [← hind] at HE hib
     clear hind
     have HGG : Hid (g ≠ g4) := Lib.hid (by have := HW.out.2.2.2.2.2.1; omega)
     refine wp_region_rel4 [[], [], [], [2], [], [], [4, 5], [3, 6, 3], [], [0, 1, 7, 8, 7], [], [9, 10, 9]] (fun L w' => But g4 W w' ∧ OwI w' w1.heap.size g4 n4 c4 (if L 11 = true then saveR yi (nameR r k (dataR r ++ yl.take q) ind) else yi) ∧ (L 11 = false → Below W.heap.size W w') ∧ ClosedL [[], [], [], [2], [], [], [4, 5], [3, 6, 3], [], [0, 1, 7, 8, 7], [], [9, 10, 9]] L) (fun i w w' => (i ≠ 7 → i ≠ 11 → Below w.heap.size w w') ∧ (i ≠ 11 → Below W.heap.size w w') ∧ (i = 11 → But g4 w w' ∧ OwI w' w1.heap.size g4 n4 c4 (saveR yi (nameR r k (dataR r ++ yl.take q) ind)))) (groV7 W.heap.size k g4 n4 c4 m2 c2 q ind A2 (yl.take q) r) hmx (by kernel_rfl) (by kernel_rfl) ⟨But.of_below (Below.refl _ _).drew _, by rw [if_neg (by decide)]; exact HW.out.1.step (Below.refl _ _).drew, fun _ => (Below.refl _ _).drew, ClosedL.start _⟩ (fun i L w w' hi hwt hC hs => by
       by_cases h9 : i = 11
       ·obtain ⟨h1, h2⟩ := hs.2.2 h9
        subst h9
        exact ⟨hC.1.trans h1, by rw [if_pos (by simp)]; exact h2, fun h => by simp at h, hC.2.2.2.step hwt⟩
       ·have h1 := hs.2.1 h9
        have e : (if (11 : Nat) = i then true else L 11) = L 11 := if_neg (Ne.symm h9)
        refine ⟨hC.1.trans_below h1 (Nat.le_refl _), ?_, fun h => ?_, hC.2.2.2.step hwt⟩
        ·show OwI w' w1.heap.size g4 n4 c4 (if (if (11 : Nat) = i then true else L 11) = true then _ else _)
         rw [e]
         exact hC.2.1.belowB h1 HW.out.2.2.2.2.1
        ·have h : (if (11 : Nat) = i then true else L 11) = false := h
         rw [e] at h
         exact (hC.2.2.1 h).trans h1) (fun i j L v w w' hij _ _ hs h => groV7_stable W.heap.size k g4 n4 c4 m2 c2 q ind A2 (yl.take q) r i j L v w w' hij hs.1 h) ?_ ?_
     ·refine ⟨?_, ?_, ?_, ?_, ?_, ?_, ?_, ?_, ?_, ?_, ?_, ?_, trivial⟩
      ·intro V L W5 hL hC hd K hK
       clear hd
       simp only [laidL, Act.put, List.setIfInBounds_toArray, List.set_cons_zero, List.set_cons_succ] at hK ⊢
       refine wp_load_mid 62 (.tmp 3) rfl _ 0 rfl (cellsR _) _ (HW.out.2.2.2.1.but hC.1 HGG.out).range Tryz.underlying62 rfl (by rw [cellsR_length HR.out]; exact sizeR) ?_
       exact hK (valR r) _ ⟨⟨fun _ _ => Below.refl _ _, fun _ => Below.refl _ _, fun h => absurd h (by decide)⟩, rfl⟩
      ·intro V L W5 hL hC hd K hK
       clear hd
       simp only [laidL, Act.put, List.setIfInBounds_toArray, List.set_cons_zero, List.set_cons_succ] at hK ⊢
       go_simp
       exact hK _ _ ⟨⟨fun _ _ => Below.refl _ _, fun _ => Below.refl _ _, fun h => absurd h (by decide)⟩, rfl⟩
      ·intro V L W5 hL hC hd K hK
       clear hd
       simp only [laidL, Act.put, List.setIfInBounds_toArray, List.set_cons_zero, List.set_cons_succ] at hK ⊢
       refine wp_load_mid 62 (.tmp 3) rfl _ 0 rfl (cellsR _) _ (HW.out.2.2.2.1.but hC.1 HGG.out).range Tryz.underlying62 rfl (by rw [cellsR_length HR.out]; exact sizeR) ?_
       exact hK (valR r) _ ⟨⟨fun _ _ => Below.refl _ _, fun _ => Below.refl _ _, fun h => absurd h (by decide)⟩, rfl⟩
      ·intro V L W5 hL hC hd K hK
       have q2 : groV7 W.heap.size k g4 n4 c4 m2 c2 q ind A2 (yl.take q) r 2 L (V 2) W5 := (hd.1).2
       have e2 : V 2 = valR r := q2
       clear q2
       clear hd
       simp only [laidL, Act.put, List.setIfInBounds_toArray, List.set_cons_zero, List.set_cons_succ] at hK ⊢
       generalize V 2 = v2 at e2 hK ⊢
       subst e2
       go_simp
       go_at_call 74
       refine (cd _).mono ?_
       rintro e w3 ⟨A3, c3, rfl, ho3, hb3⟩
       exact hK _ _ ⟨⟨fun _ _ => hb3, fun _ => hb3.mono hC.1.size, fun h => absurd h (by decide)⟩, .inr (.inr ⟨A3, c3, rfl, own_base ho3 hC.1.size⟩)⟩
      ·intro V L W5 hL hC hd K hK
       clear hd
       simp only [laidL, Act.put, List.setIfInBounds_toArray, List.set_cons_zero, List.set_cons_succ] at hK ⊢
       go_simp
       exact hK _ _ ⟨⟨fun _ _ => Below.refl _ _, fun _ => Below.refl _ _, fun h => absurd h (by decide)⟩, rfl⟩
      ·intro V L W5 hL hC hd K hK
       clear hd
       simp only [laidL, Act.put, List.setIfInBounds_toArray, List.set_cons_zero, List.set_cons_succ] at hK ⊢
       go_simp
       exact hK _ _ ⟨⟨fun _ _ => Below.refl _ _, fun _ => Below.refl _ _, fun h => absurd h (by decide)⟩, rfl⟩
      ·intro V L W5 hL hC hd K hK
       have q4 : groV7 W.heap.size k g4 n4 c4 m2 c2 q ind A2 (yl.take q) r 4 L (V 4) W5 := (hd.1).2
       have e4 : V 4 = .slice A2 m2 c2 := q4
       clear q4
       have q5 : groV7 W.heap.size k g4 n4 c4 m2 c2 q ind A2 (yl.take q) r 5 L (V 5) W5 := (hd.2.1).2
       have e5 : V 5 = .int .i64 (q : Int) := q5
       clear q5
       clear hd
       simp only [laidL, Act.put, List.setIfInBounds_toArray, List.set_cons_zero, List.set_cons_succ] at hK ⊢
       generalize V 4 = v4 at e4 hK ⊢
       subst e4
       generalize V 5 = v5 at e5 hK ⊢
       subst e5
       go_simp
       exact hK _ _ ⟨⟨fun _ _ => Below.refl _ _, fun _ => Below.refl _ _, fun h => absurd h (by decide)⟩, rfl⟩
      ·intro V L W5 hL hC hd K hK
       have q6 : groV7 W.heap.size k g4 n4 c4 m2 c2 q ind A2 (yl.take q) r 6 L (V 6) W5 := (hd.2.1).2
       have e6 : V 6 = .slice A2 q c2 := q6
       clear q6
       have hcl := hC.2.2.2
       have hn11 : L 11 = false := by
        cases h11 : L 11 with
        | false => rfl
        | true =>
         have h9 := hcl 11 h11 9 (by decide)
         have h7 := hcl 9 h9 7 (by decide)
         rw [hL] at h7; cases h7
       clear hcl
       have o3 : groV7 W.heap.size k g4 n4 c4 m2 c2 q ind A2 (yl.take q) r 3 L (V 3) W5 := (hd.1).2
       clear hd
       simp only [laidL, Act.put, List.setIfInBounds_toArray, List.set_cons_zero, List.set_cons_succ] at hK ⊢
       generalize V 6 = v6 at e6 hK ⊢
       subst e6
       rcases o3 with h | h | ⟨A3, c3, e3, ho3⟩
       ·rw [hL] at h; cases h
       ·rw [hn11] at h; cases h
       generalize V 3 = v3 at e3 hK ⊢
       subst e3
       have hrd : Reads W5 W.heap.size 1 A2 q (encN (yl.take q)) := (reads_take HW.out.2.1 (by omega)).below (hC.2.2.1 hn11)
       refine wp_append_reads W5 (.tmp 51) (.tmp 54) 49 rfl W.heap.size 3 i0 (.int .i64 0) 1 8 Tryz.underlying49 hi0 hy0 hy1 hy2 rfl (by decide) _ _ _ rfl ho3 W.heap.size A2 q c2 _ rfl hrd (encN_one _) (by unfold maxLen; have := HN.out; have := HQ.out.1; omega) (by have := HN.out; have := HQ.out.1; omega) hC.1.size ?_
       intro A5 c5 w5 ho5 hg5
       have hbl : Below W.heap.size W5 w5 := (Below.refl _ _).grown hg5 hC.1.size (own_row_ge ho3)
       refine hK _ _ ⟨⟨fun h => absurd rfl h, fun _ => hbl, fun h => absurd h (by decide)⟩, .inr ⟨A5, c5, ?_, ?_⟩⟩
       ·rw [List.length_append, List.length_take, show min q yl.length = q by have := HQ.out.2; omega]
       ·rw [List.length_append, List.length_take, show min q yl.length = q by have := HQ.out.2; omega, encN_app]; exact ho5
      ·intro V L W5 hL hC hd K hK
       clear hd
       simp only [laidL, Act.put, List.setIfInBounds_toArray, List.set_cons_zero, List.set_cons_succ] at hK ⊢
       go_simp
       exact hK _ _ ⟨⟨fun _ _ => Below.refl _ _, fun _ => Below.refl _ _, fun h => absurd h (by decide)⟩, rfl⟩
      ·intro V L W5 hL hC hd K hK
       have q0 : groV7 W.heap.size k g4 n4 c4 m2 c2 q ind A2 (yl.take q) r 0 L (V 0) W5 := (hd.1).2
       have e0 : V 0 = valR r := q0
       clear q0
       have q1 : groV7 W.heap.size k g4 n4 c4 m2 c2 q ind A2 (yl.take q) r 1 L (V 1) W5 := (hd.2.1).2
       have e1 : V 1 = .int .i64 (k : Int) := q1
       clear q1
       have q8 : groV7 W.heap.size k g4 n4 c4 m2 c2 q ind A2 (yl.take q) r 8 L (V 8) W5 := (hd.2.2.2.1).2
       have e8 : V 8 = .int .i64 (ind : Int) := q8
       clear q8
       have hcl := hC.2.2.2
       have hn11 : L 11 = false := by
        cases h11 : L 11 with
        | false => rfl
        | true =>
         have h9 := hcl 11 h11 9 (by decide)
         rw [hL] at h9; cases h9
       clear hcl
       have o7 : groV7 W.heap.size k g4 n4 c4 m2 c2 q ind A2 (yl.take q) r 7 L (V 7) W5 := (hd.2.2.1).2
       clear hd
       simp only [laidL, Act.put, List.setIfInBounds_toArray, List.set_cons_zero, List.set_cons_succ] at hK ⊢
       generalize V 0 = v0 at e0 hK ⊢
       subst e0
       generalize V 1 = v1 at e1 hK ⊢
       subst e1
       generalize V 8 = v8 at e8 hK ⊢
       subst e8
       rcases o7 with h | ⟨A5, c5, e7, ho5⟩
       ·rw [hn11] at h; cases h
       have hll : (dataR r ++ yl.take q).length ≤ 68 := by rw [List.length_append, List.length_take]; have := HN.out; have := HQ.out.1; omega
       obtain ⟨ll, hle⟩ : ∃ x, x = (dataR r ++ yl.take q).length := ⟨_, rfl⟩
       rw [← hle] at hll e7 ho5
       clear hle
       generalize V 7 = v7 at e7 hK ⊢
       subst e7
       have hA5 : (A5 = none ∧ c5 = 0) ∨ ∃ b o, A5 = some ⟨b, o, none⟩ ∧ b < W5.heap.size := by
        rcases own_nil_or ho5 with ⟨e1, e2, _⟩ | ⟨b, e1⟩
        ·exact .inl ⟨e1, e2⟩
        ·subst e1
         exact .inr ⟨b, 0, rfl, (own_block ho5).2.1⟩
       have hle5 := own_le ho5
       have cs := naming_any r HR.out k (by have := HK.out.2; omega) ind hib A5 ll c5 (dataR r ++ yl.take q) W5 (Reads.of_own ho5) hll hle5 hA5
       clear hll hA5 hle5
       go_simp
       go_at_call 82
       refine cs.mono ?_
       rintro e w3 ⟨rfl, hb3⟩
       exact hK _ _ ⟨⟨fun _ _ => hb3, fun _ => hb3.mono hC.1.size, fun h => absurd h (by decide)⟩, rfl⟩
      ·intro V L W5 hL hC hd K hK
       clear hd
       simp only [laidL, Act.put, List.setIfInBounds_toArray, List.set_cons_zero, List.set_cons_succ] at hK ⊢
       go_simp
       exact hK _ _ ⟨⟨fun _ _ => Below.refl _ _, fun _ => Below.refl _ _, fun h => absurd h (by decide)⟩, rfl⟩
      ·intro V L W5 hL hC hd K hK
       have q9 : groV7 W.heap.size k g4 n4 c4 m2 c2 q ind A2 (yl.take q) r 9 L (V 9) W5 := (hd.1).2
       have e9 : V 9 = valR (nameR r k (dataR r ++ yl.take q) ind) := q9
       clear q9
       have q10 : groV7 W.heap.size k g4 n4 c4 m2 c2 q ind A2 (yl.take q) r 10 L (V 10) W5 := (hd.2.1).2
       have e10 : V 10 = .slice (some ⟨g4, 0, none⟩) n4 c4 := q10
       clear q10
       clear hd
       simp only [laidL, Act.put, List.setIfInBounds_toArray, List.set_cons_zero, List.set_cons_succ] at hK ⊢
       generalize V 9 = v9 at e9 hK ⊢
       subst e9
       generalize V 10 = v10 at e10 hK ⊢
       subst e10
       go_simp
       have hO : OwI W5 w1.heap.size g4 n4 c4 yi := by have h := hC.2.1; rwa [if_neg (by rw [hL]; decide)] at h
       go_at_call 34
       have cs := saveR_any (nameR r k (dataR r ++ yl.take q) ind) (nameR_ok HR.out (by have := HK.out.2; omega) hib) w1.heap.size g4 n4 c4 yi W5 hO
       refine cs.mono ?_
       rintro e w3 ⟨rfl, hO3, hb3⟩
       exact hK _ _ ⟨⟨fun _ h => absurd rfl h, fun h => absurd rfl h, fun _ => ⟨hb3, hO3⟩⟩, rfl⟩
     ·intro V L W5 hL hC hV
      have hO5 : OwI W5 w1.heap.size g4 n4 c4 (saveR yi (nameR r k (dataR r ++ yl.take q) ind)) := by have h := hC.2.1; rw [if_pos (hL 11 (by decide))] at h; exact h
      have HF := Lib.hid (And.intro hO5 (HW.out.2.2.1.trans (hC.1.to_below (B := w.heap.size) (by have := HBB.out.1.size; omega) HW.out.2.2.1.size)))
      clear hV hL hC hO5
      simp only [laidL, Act.put, List.setIfInBounds_toArray, List.set_cons_zero, List.set_cons_succ]
      go_wp2
      go_ret2
      rw [HE.out]
      exact ⟨g4, n4, c4, rfl, ⟨own_base HF.out.1.own HBB.out.1.size, HF.out.1.pos⟩, HT.out.2.2.1, HF.out.2⟩
  ·have HE : Hid (growI img r k = (yi, ye)) := Lib.hid (by rw [HG.out, if_pos hy])
   have hyb : (ye != 0) = true := by rw [bne_iff_ne]; exact hy
   clear hy
   go_wp2
   go_ret2
   rw [HE.out]
   exact ⟨g4, n4, c4, rfl, ⟨own_base HT.out.1.own HBB.out.1.size, HT.out.1.pos⟩, HT.out.2.2.1, bstep HBB.out.1 HT.out.2.2.2⟩

end Go.Proofs.YtpdfkakhahfcjaaGreat
