/-
  The program's clone of a component: the same, in memory of the call's own.
-/
import Derived.Test.YtlfhhnjdfpgadaaGreatDoorG10
import Derived.Test.YtlfhhnjdfpgadaaGreatDoorG09
namespace Go.Proofs.YtlfhhnjdfpgadaaGreatDoor
open Go.RowKit

theorem enc3_app {α : Type} (f : α → Value × Value × Value) : ∀ (l l2 : List α), enc3 f (l ++ l2) = enc3 f l ++ enc3 f l2
  | [], _ => rfl
  | x :: l, l2 => by simp only [List.cons_append, enc3, enc3_app f l l2]
theorem enc3_set {α : Type} (f : α → Value × Value × Value) (l1 : List α) (x y : α) (l2 : List α) :
    (((enc3 f (l1 ++ x :: l2)).set (l1.length * 3) (f y).1).set (l1.length * 3 + 1) (f y).2.1).set (l1.length * 3 + 2) (f y).2.2 = enc3 f (l1 ++ y :: l2) := by
  rw [enc3_app, enc3_app, List.set_append_right _ _ (by rw [enc3_length]; omega), List.set_append_right _ _ (by rw [enc3_length]; omega), List.set_append_right _ _ (by rw [enc3_length]; omega), enc3_length]
  congr 1
  rw [Nat.sub_self, show l1.length * 3 + 1 - l1.length * 3 = 1 by omega, show l1.length * 3 + 2 - l1.length * 3 = 2 by omega]
  rfl
/-- While a list's elements are copied: those ahead of i are new ones. -/
structure L3 {α β : Type} (f : α → Value × Value × Value) (ok : α → World → Prop) (g : α → β) (wt : α → Nat) (t : TypeId) (w wr : World) (src : List α) (R : Option Addr) (n C i : Nat) (l1 : List α) : Prop where
  row : wr.ownsRow (w.heap.size + 2) t 3 (.slice R n C) n (enc3 f (l1 ++ src.drop i))
  ln : l1.length = i
  sm : l1.map g = (src.take i).map g
  sz : (l1.map wt).sum = ((src.take i).map wt).sum
  ok : ∀ x ∈ l1, Held (fun b => w.heap.size + 2 ≤ b ∧ (Value.slice R n C).ownBlock ≠ some b) wr (ok x)
section
variable {α β : Type} {f : α → Value × Value × Value} {ok : α → World → Prop} {g : α → β} {wt : α → Nat} {t : TypeId} {w wr w5 : World} {src l1 : List α} {R : Option Addr} {n C i : Nat}
theorem L3.step (h : L3 f ok g wt t w wr src R n C i l1) (hb : Below wr.heap.size wr w5) : L3 f ok g wt t w w5 src R n C i l1 :=
  ⟨own_below h.row hb, h.ln, h.sm, h.sz, fun r hr => (h.ok r hr).step hb⟩
theorem L3.next {x y : α} {G : Nat} (h : L3 f ok g wt t w wr src (some ⟨G, 0, none⟩) n C i l1) (hx : src[i]? = some x) (hb : Below wr.heap.size wr w5) (hg : g y = g x) (hw : wt y = wt x) (hz : w.heap.size + 2 ≤ wr.heap.size) (hG : G < wr.heap.size) (hy : Held (fun b => wr.heap.size ≤ b) w5 (ok y)) :
    L3 f ok g wt t w (((w5.setCell ⟨G, i * 3, none⟩ (f y).1).setCell ⟨G, i * 3 + 1, none⟩ (f y).2.1).setCell ⟨G, i * 3 + 2, none⟩ (f y).2.2) src (some ⟨G, 0, none⟩) n C (i + 1) (l1 ++ [y]) := by
  have h5 := h.step hb
  have hil : i < src.length := (List.getElem?_eq_some_iff.1 hx).1
  have hd : src.drop i = x :: src.drop (i + 1) := by
    rw [List.drop_eq_getElem_cons hil]
    congr 1
    exact Option.some.inj ((List.getElem?_eq_getElem hil).symm.trans hx)
  have htk : src.take (i + 1) = src.take i ++ [x] := by rw [List.take_add_one, hx]; rfl
  have hln := h.ln
  have hsm := h.sm
  have hsz := h.sz
  have hrow := h5.row
  rw [hd] at hrow
  have hs := World.ownsRow.stored (World.ownsRow.stored (World.ownsRow.stored hrow (l1.length * 3) (f y).1).1 (l1.length * 3 + 1) (f y).2.1).1 (l1.length * 3 + 2) (f y).2.2
  rw [enc3_set, hln] at hs
  refine ⟨?_, by simp [hln], ?_, ?_, fun r' hr' => ?_⟩
  · have : l1 ++ [y] ++ src.drop (i + 1) = l1 ++ y :: src.drop (i + 1) := by simp
    rw [this]
    exact hs.1
  · rw [List.map_append, htk, List.map_append, hsm, List.map_singleton, List.map_singleton, hg]
  · rw [List.map_append, htk, List.map_append, List.sum_append, List.sum_append, hsz, List.map_singleton, List.map_singleton, hw]
  · have hk : ∀ b, (Value.slice (some ⟨G, 0, none⟩) n C).ownBlock ≠ some b → (((w5.setCell ⟨G, i * 3, none⟩ (f y).1).setCell ⟨G, i * 3 + 1, none⟩ (f y).2.1).setCell ⟨G, i * 3 + 2, none⟩ (f y).2.2).heap[b]? = w5.heap[b]? :=
      fun b hb' => set3_other _ _ _ _ _ _ _ _ b (fun e => hb' (by subst e; rfl))
    rcases List.mem_append.1 hr' with h1 | h1
    · exact (h5.ok r' h1).next (by rw [set3_size]; exact Nat.le_refl _) (fun b hb2 _ => hk b hb2.2)
    · rw [List.mem_singleton.1 h1]
      refine (hy.weak (fun b hb2 hb3 => ⟨by have : wr.heap.size ≤ b := hb2; omega, fun e => ?_⟩)).next (by rw [set3_size]; exact Nat.le_refl _) (fun b hb2 _ => hk b hb2.2)
      have e' : G = b := by injection e
      have : wr.heap.size ≤ b := hb2
      omega
theorem L3.start {w2 : World} (h : w2.ownsRow (w.heap.size + 2) t 3 (.slice R n C) n (enc3 f src)) : L3 f ok g wt t w w2 src R n C 0 [] := ⟨by simpa using h, rfl, rfl, rfl, fun x hx => (by cases hx)⟩
/-- A store into another block than the row's, and ahead of all copies. -/
theorem L3.other (h : L3 f ok g wt t w wr src R n C i l1) (hs : wr.heap.size = w5.heap.size) (hk : ∀ b, w.heap.size + 2 ≤ b → w5.heap[b]? = wr.heap[b]?) (ho : w5.ownsRow (w.heap.size + 2) t 3 (.slice R n C) n (enc3 f (l1 ++ src.drop i))) : L3 f ok g wt t w w5 src R n C i l1 :=
  ⟨ho, h.ln, h.sm, h.sz, fun x hx => (h.ok x hx).next (by omega) (fun b hb _ => hk b hb.1)⟩
/-- At the end. -/
theorem L3.all (h : L3 f ok g wt t w wr src R n C i l1) (hi : src.length = i) : l1.map g = src.map g ∧ (l1.map wt).sum = (src.map wt).sum ∧ wr.ownsRow (w.heap.size + 2) t 3 (.slice R n C) n (enc3 f l1) ∧ Held (fun b => w.heap.size + 2 ≤ b) wr (fun W => Reads W W.heap.size 3 R n (enc3 f l1) ∧ ∀ x ∈ l1, ok x W) := by
  have htk : src.take i = src := List.take_of_length_le (by omega)
  have hdr : src.drop i = [] := List.drop_eq_nil_of_le (by omega)
  have hrow := h.row
  rw [hdr, List.append_nil] at hrow
  have h1 := h.sm
  have h2 := h.sz
  rw [htk] at h1 h2
  exact ⟨h1, h2, hrow, (held_own hrow).and (Held.all fun x hx => (h.ok x hx).weak (fun b hb _ => hb.1))⟩
end
theorem c3_set {w : World} {g n c n' c' k kc : Nat} {nm : ByteArray} {A K A' : Option Addr} (h : C3 w g nm A n c K k kc) : C3 (w.setCell ⟨g, 1, none⟩ (.slice A' n' c')) g nm A' n' c' K k kc := by
  unfold C3 at h ⊢
  rw [heap_setCell_same w g 1 _ _ _ h]
  rfl
theorem c3_set2 {w : World} {g n c k kc n' c' : Nat} {nm : ByteArray} {A K K' : Option Addr} (h : C3 w g nm A n c K k kc) : C3 (w.setCell ⟨g, 2, none⟩ (.slice K' n' c')) g nm A n c K' n' c' := by
  unfold C3 at h ⊢
  rw [heap_setCell_same w g 2 _ _ _ h]
  rfl
theorem c3_all {w : World} {g n c k kc n' c' k' kc' : Nat} {nm nm' : ByteArray} {A K A' K' : Option Addr} (h : C3 w g nm A n c K k kc) : C3 (((w.setCell ⟨g, 0, none⟩ (.string nm')).setCell ⟨g, 1, none⟩ (.slice A' n' c')).setCell ⟨g, 2, none⟩ (.slice K' k' kc')) g nm' A' n' c' K' k' kc' := by
  unfold C3 at h ⊢
  rw [heap_setCell_same _ g 2 _ _ _ (heap_setCell_same _ g 1 _ _ _ (heap_setCell_same w g 0 _ _ _ h))]
  rfl
theorem load_comp {w : World} {g n c k kc : Nat} {nm : ByteArray} {A K : Option Addr} (h : C3 w g nm A n c K k kc) : (Go.loadVar 25 ⟨g, 0, none⟩).run Tryz.prog w = .ok (.agg #[.string nm, .slice A n c, .slice K k kc]) w := by
  obtain ⟨a0, a1, a2⟩ := h.cells
  unfold loadVar
  go_simp
theorem qsize_mem12 : ∀ {l : List QR} {q : QR}, q ∈ l → qsize q ≤ qsizes l
  | x :: l, q, h => by
    unfold qsizes
    rcases List.mem_cons.1 h with rfl | h
    · simp
    · have := qsize_mem12 h
      unfold qsizes at this
      simp; omega
/-- What a call of clone answers. -/
def CloAns (r : CR) (w : World) (e : Ending) (w' : World) : Prop :=
  ∃ r' : CR, e = .returned (.agg #[(fC r').1, (fC r').2.1, (fC r').2.2]) ∧ compOf r' = compOf r ∧ csize r' = csize r ∧ Held (fun b => w.heap.size ≤ b) w' (fun W => COk W W.heap.size r') ∧ Below w.heap.size w w'
/-- While a component's properties are copied. -/
structure CL1 (w wr : World) (nm : ByteArray) (qs : List QR) (R : Option Addr) (n C i : Nat) (l1 : List QR) (K : Option Addr) (k kc : Nat) : Prop where
  bx : C3 wr w.heap.size nm R n C K k kc
  rs : C3 wr (w.heap.size + 1) ⟨#[]⟩ none 0 0 none 0 0
  ls : L3 fQ (fun q W => QOk W W.heap.size q) proQ qsize 30 w wr qs R n C i l1
  bel : Below w.heap.size w wr
  sz : w.heap.size + 2 ≤ wr.heap.size
theorem CL1.step {w wr w1 : World} {nm : ByteArray} {qs l1 : List QR} {R K : Option Addr} {n C i k kc : Nat} (h : CL1 w wr nm qs R n C i l1 K k kc) (hb : Below wr.heap.size wr w1) : CL1 w w1 nm qs R n C i l1 K k kc :=
  ⟨h.bx.step hb, h.rs.step hb, h.ls.step hb, bstep h.bel hb, by have := h.sz; have := hb.size; omega⟩
/-- While its components are. -/
structure CL2 (w wr : World) (nm : ByteArray) (R : Option Addr) (n C : Nat) (l1 : List QR) (cs : List CR) (K : Option Addr) (k kc i : Nat) (l2 : List CR) : Prop where
  bx : C3 wr w.heap.size nm R n C K k kc
  rs : C3 wr (w.heap.size + 1) ⟨#[]⟩ none 0 0 none 0 0
  ls : L3 fC (fun x W => COk W W.heap.size x) compOf csize 25 w wr cs K k kc i l2
  qs : Held (fun b => w.heap.size + 2 ≤ b ∧ (Value.slice K k kc).ownBlock ≠ some b) wr (fun W => Reads W W.heap.size 3 R n (enc3 fQ l1) ∧ ∀ q ∈ l1, QOk W W.heap.size q)
  bel : Below w.heap.size w wr
  sz : w.heap.size + 2 ≤ wr.heap.size
theorem CL2.step {w wr w1 : World} {nm : ByteArray} {l1 : List QR} {cs l2 : List CR} {R K : Option Addr} {n C k kc i : Nat} (h : CL2 w wr nm R n C l1 cs K k kc i l2) (hb : Below wr.heap.size wr w1) : CL2 w w1 nm R n C l1 cs K k kc i l2 :=
  ⟨h.bx.step hb, h.rs.step hb, h.ls.step hb, h.qs.step hb, bstep h.bel hb, by have := h.sz; have := hb.size; omega⟩

set_option maxRecDepth 100000 in
set_option maxHeartbeats 8000000 in
theorem clone12 : ∀ (N : Nat) (r : CR) (w : World), csize r ≤ N → N ≤ 1048576 → COk w w.heap.size r → Calls Tryz.prog 22 #[.agg #[(fC r).1, (fC r).2.1, (fC r).2.2]] w (CloAns r w)
  | 0, .mk nm A n c qs K k kc cs, w, hN, _, _ => absurd hN (by simp [csize])
  | N + 1, .mk nm A n c qs K k kc cs, w, hN, hNM, hC => by
    have hmx : Tryz.prog.follows .mixedOrders = true := by kernel_rfl
    have hb1 : Below w.heap.size w (w.alloc (.cells #[.string nm, .slice A n c, .slice K k kc] 25)) := (Below.refl _ w).alloc (Nat.le_refl _) _
    have hb2 := (Below.refl _ (w.alloc (.cells #[.string nm, .slice A n c, .slice K k kc] 25))).alloc (Nat.le_refl _) (.cells #[.string ⟨#[]⟩, .slice none 0 0, .slice none 0 0] 25)
    have P1 := Lib.hid ((C3.new w nm A n c K k kc).step hb2)
    have P2 := Lib.hid (C3.new (w.alloc (.cells #[.string nm, .slice A n c, .slice K k kc] 25)) ⟨#[]⟩ none 0 0 none 0 0)
    have HB := Lib.hid (bstep hb1 hb2)
    have HC := Lib.hid hC
    have IH := Lib.hid (clone12 N)
    have HN : Hid (csizes cs ≤ N ∧ qsizes qs ≤ 1048576 ∧ N ≤ 1048576) := Lib.hid (by rw [csize] at hN; omega)
    have HL := Lib.hid (And.intro hC.rq.len3 hC.rc.len3)
    have hn : n ≤ 1048576 := by
      have h1 := qs_len qs
      have h2 := HL.out.1
      have h3 := HN.out.2.1
      omega
    have hk : k ≤ 1048576 := by
      have h1 := cs_len cs
      have h2 := HL.out.2
      have h3 := HN.out
      omega
    clear hC hN hNM hb1 hb2
    show Calls Tryz.prog 22 #[.agg #[.string nm, .slice A n c, .slice K k kc]] w _
    go_enter Tryz.func22, Tryz.ntmps22
    generalize hW : (w.alloc (.cells #[.string nm, .slice A n c, .slice K k kc] 25)).alloc (.cells #[.string ⟨#[]⟩, .slice none 0 0, .slice none 0 0] 25) = w1 at P1 P2 HB
    have hs1 : w1.heap.size = w.heap.size + 2 := by rw [← hW]; simp
    have hs0 : (w.alloc (.cells #[.string nm, .slice A n c, .slice K k kc] 25)).heap.size = w.heap.size + 1 := by simp
    rw [hs0] at P2
    clear hs0
    obtain ⟨x0, x1, x2⟩ := P1.out.cells
    have cc := cloneQ_any A n c (enc3 fQ qs) w1 (HC.out.step HB.out).rq hn (one_enc3 one_fQ _)
    have xf := P1.out.frozen
    go_wp2_with fail
    refine cc.mono ?_
    rintro e w2 ⟨R, C, rfl, hown, hbx⟩
    rw [hs1] at hown
    have P1b := Lib.hid (P1.out.step hbx)
    have HJ : Hid (CL1 w (w2.setCell ⟨w.heap.size, 1, none⟩ (.slice R n C)) nm qs R n C 0 [] K k kc) := Lib.hid (by
      refine ⟨c3_set P1b.out, (heap_setCell_other _ _ _ _ (by show w.heap.size + 1 ≠ w.heap.size; omega)).trans (P2.out.step hbx), L3.start (ownsRow_setCell_other hown (fun e => ?_) _), (bstep HB.out hbx).setCell (p := ⟨w.heap.size, 1, none⟩) (Nat.le_refl _) _, by have := hbx.size; simp; omega⟩
      have := own_row_ge hown _ e
      change w.heap.size + 2 ≤ w.heap.size at this
      omega)
    clear cc x0 x1 x2 xf hown hbx P1 P2 HB hW hs1
    obtain ⟨x0, x1, x2⟩ := P1b.out.cells
    have xf := P1b.out.frozen
    go_upto_region 2 with fail
    generalize w2.setCell ⟨w.heap.size, 1, none⟩ (.slice R n C) = w3 at HJ ⊢
    clear x0 x1 x2 xf P1b
    obtain ⟨x0, x1, x2⟩ := HJ.out.bx.cells
    go_wp2
    clear x0 x1 x2
    go_loopw [14] (fun s14 wr => ∃ (i : Nat) (l1 : List QR), s14 = .int .i64 i ∧ i ≤ n ∧ Hid (CL1 w wr nm qs R n C i l1 K k kc)) (fun s14 _ => n - (intOf s14).toNat)
    case atStart => exact ⟨0, [], rfl, Nat.zero_le _, HJ⟩
    case round =>
      clear HJ
      obtain ⟨i, l1, rfl, hi, HJ⟩ := hrel
      by_cases hlt : i < n
      · obtain ⟨q, hq⟩ : ∃ q, qs[i]? = some q := ⟨qs[i]'(by have := HL.out.1; omega), List.getElem?_eq_getElem (by have := HL.out.1; omega)⟩
        obtain ⟨g, hRe, hg, hgl, _, hcs⟩ := own_cells HJ.out.ls.row (by omega)
        have hx : (l1 ++ qs.drop i)[i]? = some q := by rw [List.getElem?_append_right (by rw [HJ.out.ls.ln]; exact Nat.le_refl _), HJ.out.ls.ln]; simpa using hq
        obtain ⟨e0, e1, e2⟩ := enc3_get (f := fQ) hx
        have c0 := hcs _ _ e0
        have c1 := hcs _ _ e1
        have c2 := hcs _ _ e2
        simp only [fQ] at c0 c1 c2
        have HR := Lib.hid hq
        have HG := Lib.hid (And.intro hg hgl)
        have ha : Below wr.heap.size wr (wr.alloc (.cells #[.string q.name, .slice q.L q.n q.c, .string q.vl] 30)) := (Below.refl _ wr).alloc (Nat.le_refl _) _
        have HJ2 := Lib.hid (HJ.out.step ha)
        have X1 := Lib.hid (P3.new wr q.name q.vl q.L q.n q.c).cells
        have C1 := Lib.hid (And.intro (cell_keep c0 ha) (And.intro (cell_keep c1 ha) (cell_keep c2 ha)))
        have CL := Lib.hid (fun (w5 : World) (h5 : Below (wr.alloc (.cells #[.string q.name, .slice q.L q.n q.c, .string q.vl] 30)).heap.size (wr.alloc (.cells #[.string q.name, .slice q.L q.n q.c, .string q.vl] 30)) w5) =>
          cloneProp_any q w5 ((HC.out.vq q (List.mem_of_getElem? hq)).step (bstep HJ2.out.bel h5)) (by have h1 := qsize_mem12 (List.mem_of_getElem? hq); have h2 := HN.out.2.1; omega))
        clear hq hcs hx e0 e1 e2 HJ ha
        subst hRe
        go_upto_region 5 with fail
        generalize hwa : wr.alloc (.cells #[.string q.name, .slice q.L q.n q.c, .string q.vl] 30) = wa at HJ2 X1 C1 CL ⊢
        have hwz : wa.heap.size = wr.heap.size + 1 := by rw [← hwa]; simp
        generalize wr.heap.size = X at X1 HG hwz ⊢
        clear hwa c0 c1 c2
        have Z1 := Lib.hid HJ2.out.bx.cells.2.1
        refine wp_region_till (fun w' => Below wa.heap.size wa w') 6 7 hmx (by kernel_rfl) ?_
        have HS : Below wa.heap.size wa wa.drew := (Below.refl _ _).drew
        refine till_take (i := 0) _ (.pointer (some ⟨w.heap.size, 1, none⟩)) [0] rfl (by kernel_rfl) (by kernel_rfl) (by kernel_rfl) (by kernel_rfl) (fun _ _ _ h => h) (.inl ⟨by rfl, fun w' hS => ?_⟩) HS ?_
        · go_simp
        try simp only [Act.put, List.setIfInBounds_toArray, List.set_cons_zero, List.set_cons_succ]
        refine till_take (i := 1) _ (.slice (some ⟨g, 0, none⟩) n C) [1] rfl (by kernel_rfl) (by kernel_rfl) (by kernel_rfl) (by kernel_rfl) (fun _ _ _ h => h) (.inl ⟨by rfl, fun w' hS => ?_⟩) HS ?_
        · have z1 := cell_keep Z1.out hS
          go_simp
        try simp only [Act.put, List.setIfInBounds_toArray, List.set_cons_zero, List.set_cons_succ]
        refine till_take (i := 2) _ (.int .i64 (i : Int)) [2] rfl (by kernel_rfl) (by kernel_rfl) (by kernel_rfl) (by kernel_rfl) (fun _ _ _ h => h) (.inl ⟨by rfl, fun w' hS => ?_⟩) HS ?_
        · go_simp
        try simp only [Act.put, List.setIfInBounds_toArray, List.set_cons_zero, List.set_cons_succ]
        refine till_take (i := 3) _ (.agg #[.string q.name, .slice q.L q.n q.c, .string q.vl]) [3] rfl (by kernel_rfl) (by kernel_rfl) (by kernel_rfl) (by kernel_rfl) (fun _ _ _ h => h) (.inl ⟨by rfl, fun w' hS => ?_⟩) HS ?_
        · have z0 := cell_keep X1.out.1 hS
          have z1 := cell_keep X1.out.2.1 hS
          have z2 := cell_keep X1.out.2.2 hS
          go_simp
        try simp only [Act.put, List.setIfInBounds_toArray, List.set_cons_zero, List.set_cons_succ]
        refine till_one (i := 4) _ (by kernel_rfl) rfl rfl (fun K hK => ?_)
        go_simp
        go_at_call 21
        refine (CL.out wa.drew HS).mono ?_
        rintro e w5 ⟨q5, rfl, hq5, hz5, hh5, hb5⟩
        try simp only [fC]
        have HS5 : Below wa.heap.size wa w5 := HS.trans hb5
        have C5 := Lib.hid (And.intro (cell_keep C1.out.1 HS5) (And.intro (cell_keep C1.out.2.1 HS5) (cell_keep C1.out.2.2 HS5)))
        clear HS
        refine hK.out _ _ (fun _ _ => HS5) ?_
        try simp only [Act.put, List.setIfInBounds_toArray, List.set_cons_zero, List.set_cons_succ]
        clear hK K
        refine till_one (i := 5) _ (by kernel_rfl) rfl rfl (fun K hK => ?_)
        go_simp
        refine hK.out _ _ (fun _ _ => HS5) ?_
        try simp only [Act.put, List.setIfInBounds_toArray, List.set_cons_zero, List.set_cons_succ]
        clear hK K
        refine till_one (i := 6) _ (by kernel_rfl) rfl rfl (fun K hK => ?_)
        obtain ⟨ci0, ci1, ci2⟩ := C5.out
        have cf := fun o => World.ownsRow.frozenAt (own_below HJ2.out.ls.row HS5) o
        go_simp
        refine hK.out _ _ (fun h _ => absurd rfl h) ?_
        try simp only [Act.put, List.setIfInBounds_toArray, List.set_cons_zero, List.set_cons_succ]
        clear hK K
        refine till_done (by kernel_rfl) ?_
        have HN2 : Hid (CL1 w (((w5.setCell ⟨g, i * 3, none⟩ (.string q5.name)).setCell ⟨g, i * 3 + 1, none⟩ (.slice q5.L q5.n q5.c)).setCell ⟨g, i * 3 + 2, none⟩ (.string q5.vl)) nm qs (some ⟨g, 0, none⟩) n C (i + 1) (l1 ++ [q5]) K k kc) := Lib.hid (by
          have hg1 := HG.out.1
          have hg2 := HG.out.2
          have h2 := HJ2.out.step HS5
          refine ⟨(set3_other _ _ _ _ _ _ _ _ _ (by omega)).trans h2.bx, (set3_other _ _ _ _ _ _ _ _ _ (by omega)).trans h2.rs, HJ2.out.ls.next HR.out HS5 hq5 hz5 HJ2.out.sz (by omega) hh5, ?_, by rw [set3_size]; exact h2.sz⟩
          refine ((h2.bel.setCell (p := ⟨g, i * 3, none⟩) ?_ _).setCell (p := ⟨g, i * 3 + 1, none⟩) ?_ _).setCell (p := ⟨g, i * 3 + 2, none⟩) ?_ _ <;> (show w.heap.size ≤ g; omega))
        clear HJ2 hq5 hz5 hh5 hb5 HS5 Z1 X1 C1 C5 CL ci0 ci1 ci2 cf
        go_wp2
        go_round
        case rel => exact ⟨i + 1, _, by go_num, by omega, HN2⟩
        case measure => simp [intOf]; omega
      · obtain rfl : i = n := by omega
        obtain ⟨x0, x1, x2⟩ := HJ.out.bx.cells
        have xf := HJ.out.bx.frozen
        have HA := Lib.hid (HJ.out.ls.all HL.out.1)
        have cc := cloneC_any K k kc (enc3 fC cs) wr (HC.out.step HJ.out.bel).rc hk (one_enc3 one_fC _)
        go_wp2_with fail
        refine cc.mono ?_
        rintro e w4 ⟨R2, C2, rfl, hown, hbx⟩
        have H4 := Lib.hid (HJ.out.step hbx)
        have HJ5 : Hid (CL2 w (w4.setCell ⟨w.heap.size, 2, none⟩ (.slice R2 k C2)) nm R i C l1 cs R2 k C2 0 []) := Lib.hid (by
          have hz := HJ.out.sz
          have hown' : w4.ownsRow (w.heap.size + 2) 25 3 (.slice R2 k C2) k (enc3 fC cs) := own_base hown hz
          have hk4 : ∀ b, w.heap.size + 2 ≤ b → (w4.setCell ⟨w.heap.size, 2, none⟩ (.slice R2 k C2)).heap[b]? = w4.heap[b]? := fun b hb => heap_setCell_other _ _ _ _ (by show b ≠ w.heap.size; omega)
          refine ⟨c3_set2 H4.out.bx, (heap_setCell_other _ _ _ _ (by show w.heap.size + 1 ≠ w.heap.size; omega)).trans H4.out.rs, L3.start (ownsRow_setCell_other hown' (fun e => ?_) _), ?_, H4.out.bel.setCell (p := ⟨w.heap.size, 2, none⟩) (Nat.le_refl _) _, by have := H4.out.sz; simp; omega⟩
          · have := own_row_ge hown' _ e
            change w.heap.size + 2 ≤ w.heap.size at this
            omega
          · have h1 := HA.out.2.2.2
            have h2 : Held (fun b => w.heap.size + 2 ≤ b ∧ (Value.slice R2 k C2).ownBlock ≠ some b) wr (fun W => Reads W W.heap.size 3 R i (enc3 fQ l1) ∧ ∀ q ∈ l1, QOk W W.heap.size q) := h1.weak (fun b hb hl => ⟨hb, fun e => by have := own_row_ge hown b e; omega⟩)
            exact (h2.step hbx).next (by simp) (fun b hb _ => hk4 b hb.1))
        clear cc x0 x1 x2 xf hown hbx HJ
        have HA : Hid (l1.map proQ = qs.map proQ ∧ (l1.map qsize).sum = (qs.map qsize).sum ∧ i ≤ C ∧ C ≤ maxLen) := Lib.hid (by
          obtain ⟨A6, c6, e6, hle, hcap⟩ := own_slice HA.out.2.2.1
          injection e6 with _ _ e6
          subst e6
          exact ⟨HA.out.1, HA.out.2.1, hle, hcap⟩)
        obtain ⟨x0, x1, x2⟩ := H4.out.bx.cells
        have xf := H4.out.bx.frozen
        go_upto_region 8 with fail
        generalize w4.setCell ⟨w.heap.size, 2, none⟩ (.slice R2 k C2) = w6 at HJ5 ⊢
        clear x0 x1 x2 xf H4
        obtain ⟨x0, x1, x2⟩ := HJ5.out.bx.cells
        go_wp2
        clear x0 x1 x2
        go_loopw [33] (fun s33 wr => ∃ (j : Nat) (l2 : List CR), s33 = .int .i64 j ∧ j ≤ k ∧ Hid (CL2 w wr nm R i C l1 cs R2 k C2 j l2)) (fun s33 _ => k - (intOf s33).toNat)
        case atStart => exact ⟨0, [], rfl, Nat.zero_le _, HJ5⟩
        case round =>
          clear HJ5
          obtain ⟨j, l2, rfl, hj, HJ⟩ := hrel
          by_cases hlt2 : j < k
          · obtain ⟨x, hq⟩ : ∃ x, cs[j]? = some x := ⟨cs[j]'(by have := HL.out.2; omega), List.getElem?_eq_getElem (by have := HL.out.2; omega)⟩
            obtain ⟨g, hRe, hg, hgl, _, hcs⟩ := own_cells HJ.out.ls.row (by omega)
            have hx : (l2 ++ cs.drop j)[j]? = some x := by rw [List.getElem?_append_right (by rw [HJ.out.ls.ln]; exact Nat.le_refl _), HJ.out.ls.ln]; simpa using hq
            obtain ⟨e0, e1, e2⟩ := enc3_get (f := fC) hx
            have c0 := hcs _ _ e0
            have c1 := hcs _ _ e1
            have c2 := hcs _ _ e2
            have HR := Lib.hid hq
            have HG := Lib.hid (And.intro hg hgl)
            have HX := Lib.hid (And.intro (HC.out.vc x (List.mem_of_getElem? hq)) (csize_mem (List.mem_of_getElem? hq)))
            obtain ⟨xn, xA, xa, xac, xqs, xK, xk, xkc, xcs⟩ := x
            simp only [fC] at c0 c1 c2
            have ha : Below wr.heap.size wr (wr.alloc (.cells #[.string xn, .slice xA xa xac, .slice xK xk xkc] 25)) := (Below.refl _ wr).alloc (Nat.le_refl _) _
            have HJ2 := Lib.hid (HJ.out.step ha)
            have X1 : Hid ((wr.alloc (.cells #[.string xn, .slice xA xa xac, .slice xK xk xkc] 25)).cell? ⟨wr.heap.size, 0, none⟩ = some (.string xn) ∧ (wr.alloc (.cells #[.string xn, .slice xA xa xac, .slice xK xk xkc] 25)).cell? ⟨wr.heap.size, 1, none⟩ = some (.slice xA xa xac) ∧ (wr.alloc (.cells #[.string xn, .slice xA xa xac, .slice xK xk xkc] 25)).cell? ⟨wr.heap.size, 2, none⟩ = some (.slice xK xk xkc)) := Lib.hid ⟨by simp, by simp, by simp⟩
            have C1 := Lib.hid (And.intro (cell_keep c0 ha) (And.intro (cell_keep c1 ha) (cell_keep c2 ha)))
            have CL : Hid (∀ w5, Below (wr.alloc (.cells #[.string xn, .slice xA xa xac, .slice xK xk xkc] 25)).heap.size (wr.alloc (.cells #[.string xn, .slice xA xa xac, .slice xK xk xkc] 25)) w5 → Calls Tryz.prog 22 #[.agg #[.string xn, .slice xA xa xac, .slice xK xk xkc]] w5 (CloAns (.mk xn xA xa xac xqs xK xk xkc xcs) w5)) := Lib.hid (fun (w5 : World) h5 => by
              have h1 := HX.out.2
              have h2 := HN.out
              exact IH.out _ w5 (by omega) (by omega) (HX.out.1.step (bstep HJ2.out.bel h5)))
            clear hq hcs hx e0 e1 e2 HJ ha
            subst hRe
            go_upto_region 11 with fail
            generalize hwa : wr.alloc (.cells #[.string xn, .slice xA xa xac, .slice xK xk xkc] 25) = wa at HJ2 X1 C1 CL ⊢
            have hwz : wa.heap.size = wr.heap.size + 1 := by rw [← hwa]; simp
            generalize wr.heap.size = X at X1 HG hwz ⊢
            clear hwa c0 c1 c2
            have Z1 := Lib.hid HJ2.out.bx.cells.2.2
            refine wp_region_till (fun w' => Below wa.heap.size wa w') 6 7 hmx (by kernel_rfl) ?_
            have HS : Below wa.heap.size wa wa.drew := (Below.refl _ _).drew
            refine till_take (i := 0) _ (.pointer (some ⟨w.heap.size, 2, none⟩)) [0] rfl (by kernel_rfl) (by kernel_rfl) (by kernel_rfl) (by kernel_rfl) (fun _ _ _ h => h) (.inl ⟨by rfl, fun w' hS => ?_⟩) HS ?_
            · go_simp
            try simp only [Act.put, List.setIfInBounds_toArray, List.set_cons_zero, List.set_cons_succ]
            refine till_take (i := 1) _ (.slice (some ⟨g, 0, none⟩) k C2) [1] rfl (by kernel_rfl) (by kernel_rfl) (by kernel_rfl) (by kernel_rfl) (fun _ _ _ h => h) (.inl ⟨by rfl, fun w' hS => ?_⟩) HS ?_
            · have z1 := cell_keep Z1.out hS
              go_simp
            try simp only [Act.put, List.setIfInBounds_toArray, List.set_cons_zero, List.set_cons_succ]
            refine till_take (i := 2) _ (.int .i64 (j : Int)) [2] rfl (by kernel_rfl) (by kernel_rfl) (by kernel_rfl) (by kernel_rfl) (fun _ _ _ h => h) (.inl ⟨by rfl, fun w' hS => ?_⟩) HS ?_
            · go_simp
            try simp only [Act.put, List.setIfInBounds_toArray, List.set_cons_zero, List.set_cons_succ]
            refine till_take (i := 3) _ (.agg #[.string xn, .slice xA xa xac, .slice xK xk xkc]) [3] rfl (by kernel_rfl) (by kernel_rfl) (by kernel_rfl) (by kernel_rfl) (fun _ _ _ h => h) (.inl ⟨by rfl, fun w' hS => ?_⟩) HS ?_
            · have z0 := cell_keep X1.out.1 hS
              have z1 := cell_keep X1.out.2.1 hS
              have z2 := cell_keep X1.out.2.2 hS
              go_simp
            try simp only [Act.put, List.setIfInBounds_toArray, List.set_cons_zero, List.set_cons_succ]
            refine till_one (i := 4) _ (by kernel_rfl) rfl rfl (fun K hK => ?_)
            go_simp
            go_at_call 22
            refine (CL.out wa.drew HS).mono ?_
            rintro e w5 ⟨⟨yn, yA, ya, yac, yqs, yK, yk, ykc, ycs⟩, rfl, hq5, hz5, hh5, hb5⟩
            try simp only [fC]
            have HS5 : Below wa.heap.size wa w5 := HS.trans hb5
            have C5 := Lib.hid (And.intro (cell_keep C1.out.1 HS5) (And.intro (cell_keep C1.out.2.1 HS5) (cell_keep C1.out.2.2 HS5)))
            clear HS
            refine hK.out _ _ (fun _ _ => HS5) ?_
            try simp only [Act.put, List.setIfInBounds_toArray, List.set_cons_zero, List.set_cons_succ]
            clear hK K
            refine till_one (i := 5) _ (by kernel_rfl) rfl rfl (fun K hK => ?_)
            go_simp
            refine hK.out _ _ (fun _ _ => HS5) ?_
            try simp only [Act.put, List.setIfInBounds_toArray, List.set_cons_zero, List.set_cons_succ]
            clear hK K
            refine till_one (i := 6) _ (by kernel_rfl) rfl rfl (fun K hK => ?_)
            obtain ⟨ci0, ci1, ci2⟩ := C5.out
            have cf := fun o => World.ownsRow.frozenAt (own_below HJ2.out.ls.row HS5) o
            go_simp
            refine hK.out _ _ (fun h _ => absurd rfl h) ?_
            try simp only [Act.put, List.setIfInBounds_toArray, List.set_cons_zero, List.set_cons_succ]
            clear hK K
            refine till_done (by kernel_rfl) ?_
            have HN2 : Hid (CL2 w (((w5.setCell ⟨g, j * 3, none⟩ (.string yn)).setCell ⟨g, j * 3 + 1, none⟩ (.slice yA ya yac)).setCell ⟨g, j * 3 + 2, none⟩ (.slice yK yk ykc)) nm R i C l1 cs (some ⟨g, 0, none⟩) k C2 (j + 1) (l2 ++ [.mk yn yA ya yac yqs yK yk ykc ycs])) := Lib.hid (by
              have hg1 := HG.out.1
              have hg2 := HG.out.2
              have h2 := HJ2.out.step HS5
              have hz := HJ2.out.sz
              have hh6 : Held (fun b => wa.heap.size ≤ b) w5 (fun W => COk W W.heap.size (.mk yn yA ya yac yqs yK yk ykc ycs)) := hh5
              have hnx := L3.next (f := fC) (ok := fun x W => COk W W.heap.size x) (g := compOf) (wt := csize) (x := .mk xn xA xa xac xqs xK xk xkc xcs) (y := .mk yn yA ya yac yqs yK yk ykc ycs) (G := g) HJ2.out.ls HR.out HS5 hq5 hz5 hz (by omega) hh6
              simp only [fC] at hnx
              refine ⟨(set3_other _ _ _ _ _ _ _ _ _ (by omega)).trans h2.bx, (set3_other _ _ _ _ _ _ _ _ _ (by omega)).trans h2.rs, hnx, ?_, ?_, by rw [set3_size]; exact h2.sz⟩
              · exact h2.qs.next (by rw [set3_size]; exact Nat.le_refl _) (fun b hb _ => set3_other _ _ _ _ _ _ _ _ b (fun e => hb.2 (by subst e; rfl)))
              · refine ((h2.bel.setCell (p := ⟨g, j * 3, none⟩) ?_ _).setCell (p := ⟨g, j * 3 + 1, none⟩) ?_ _).setCell (p := ⟨g, j * 3 + 2, none⟩) ?_ _ <;> (show w.heap.size ≤ g; omega))
            clear HJ2 hq5 hz5 hh5 hb5 HS5 Z1 X1 C1 C5 CL ci0 ci1 ci2 cf
            go_wp2
            go_round
            case rel => exact ⟨j + 1, _, by go_num, by omega, HN2⟩
            case measure => simp [intOf]; omega
          · obtain rfl : j = k := by omega
            have HB2 := Lib.hid (HJ.out.ls.all HL.out.2)
            obtain ⟨x0, x1, x2⟩ := HJ.out.bx.cells
            obtain ⟨y0, y1, y2⟩ := HJ.out.rs.cells
            have xf := HJ.out.rs.frozen
            go_wp2
            have HP := c3_all (nm' := nm) (A' := R) (n' := i) (c' := C) (K' := R2) (k' := j) (kc' := C2) HJ.out.rs
            refine bodyPost_ret (results_one rfl _ rfl (load_comp HP)) rfl ?_
            obtain ⟨A6, c6, e6, hle, hcap⟩ := own_slice HB2.out.2.2.1
            injection e6 with _ _ e6
            subst e6
            have HNC := HA.out
            refine ⟨.mk nm R i C l1 R2 j C2 l2, rfl, ?_, ?_, ?_, ?_⟩
            · rw [compOf_mk, compOf_mk, HB2.out.1, HNC.1]
            · rw [csize, csize, csizes_sum, csizes_sum, HB2.out.2.1]
              unfold qsizes
              rw [HNC.2.1]
            · refine Held.weak (S := fun b => w.heap.size + 2 ≤ b) ?_ (fun b hb _ => by show w.heap.size ≤ b; have : w.heap.size + 2 ≤ b := hb; omega)
              have hq : Held (fun b => w.heap.size + 2 ≤ b) wr (fun W => Reads W W.heap.size 3 R i (enc3 fQ l1) ∧ ∀ q ∈ l1, QOk W W.heap.size q) := HJ.out.qs.weak (fun b hb _ => hb.1)
              refine Held.next ((hq.and HB2.out.2.2.2).imp (fun W hW => .mk hW.1.1 hW.1.2 HNC.2.2.1 HNC.2.2.2 hW.2.1 hW.2.2 hle hcap)) ?_ ?_
              · rw [set3_size]; exact Nat.le_refl _
              · intro b hb _
                exact set3_other _ _ _ _ _ _ _ _ b (by have : w.heap.size + 2 ≤ b := hb; omega)
            · refine ((HJ.out.bel.setCell (p := ⟨w.heap.size + 1, 0, none⟩) ?_ _).setCell (p := ⟨w.heap.size + 1, 1, none⟩) ?_ _).setCell (p := ⟨w.heap.size + 1, 2, none⟩) ?_ _ <;> (show w.heap.size ≤ w.heap.size + 1; omega)
end Go.Proofs.YtlfhhnjdfpgadaaGreatDoor

/-
  A component's first property of a name.
-/
namespace Go.Proofs.YtlfhhnjdfpgadaaGreatDoor
open Go.RowKit

/-- A property stored cell by cell. -/
def put3 (w : World) (g : Nat) (nm vl : ByteArray) (L : Option Addr) (n c : Nat) : World := ((w.setCell ⟨g, 0, none⟩ (.string nm)).setCell ⟨g, 1, none⟩ (.slice L n c)).setCell ⟨g, 2, none⟩ (.string vl)
theorem put3_box {w : World} {g n c n' c' : Nat} {nm vl nm' vl' : ByteArray} {L L' : Option Addr} (h : P3 w g nm' vl' L' n' c') : P3 (put3 w g nm vl L n c) g nm vl L n c := by
  unfold P3 at h ⊢
  unfold put3
  simp [World.setCell, Array.getElem?_modify, h]
theorem put3_below {w : World} {B g n c : Nat} {nm vl : ByteArray} {L : Option Addr} (hB : B ≤ g) : Below B w (put3 w g nm vl L n c) :=
  (((Below.refl B w).setCell (p := ⟨g, 0, none⟩) hB _).setCell (p := ⟨g, 1, none⟩) hB _).setCell (p := ⟨g, 2, none⟩) hB _
/-- What a call of Prop answers. -/
def PrpAns (qs : List QR) (name : ByteArray) (w : World) (e : Ending) (w' : World) : Prop :=
  Below w.heap.size w w' ∧ ((qs.filter (named name) = [] ∧ e = .returned (.tuple #[.agg #[.string ⟨#[]⟩, .slice none 0 0, .string ⟨#[]⟩], .bool false])) ∨
    ∃ q l, qs.filter (named name) = q :: l ∧ e = .returned (.tuple #[.agg #[.string q.name, .slice q.L q.n q.c, .string q.vl], .bool true]))

set_option maxRecDepth 100000 in
set_option maxHeartbeats 4000000 in
theorem refProp_any (nm name : ByteArray) (A : Option Addr) (n c : Nat) (qs : List QR) (K : Option Addr) (k kc : Nat) (cs : List CR) (w : World) (hM : csize (.mk nm A n c qs K k kc cs) ≤ 1048576) (hC : COk w w.heap.size (.mk nm A n c qs K k kc cs)) :
    Calls Tryz.prog 7 #[.agg #[.string nm, .slice A n c, .slice K k kc], .string name] w (PrpAns qs name w) := by
  have hb1 : Below w.heap.size w (w.alloc (.cells #[.string nm, .slice A n c, .slice K k kc] 25)) := (Below.refl _ w).alloc (Nat.le_refl _) _
  have hb2 := (Below.refl _ (w.alloc (.cells #[.string nm, .slice A n c, .slice K k kc] 25))).alloc (Nat.le_refl _) (.cells #[.string ⟨#[]⟩, .slice none 0 0, .string ⟨#[]⟩] 30)
  have HA := Lib.hid ((CA.new hC).step hb2)
  have HP : Hid (P3 ((w.alloc (.cells #[.string nm, .slice A n c, .slice K k kc] 25)).alloc (.cells #[.string ⟨#[]⟩, .slice none 0 0, .string ⟨#[]⟩] 30)) (w.heap.size + 1) ⟨#[]⟩ ⟨#[]⟩ none 0 0) := Lib.hid (by
    have := P3.new (w.alloc (.cells #[.string nm, .slice A n c, .slice K k kc] 25)) ⟨#[]⟩ ⟨#[]⟩ none 0 0
    simpa using this)
  have HB := Lib.hid (bstep hb1 hb2)
  have c1 := fun W (h : COk W W.heap.size (.mk nm A n c qs K k kc cs)) => refProps_any nm name A n c qs K k kc cs W hM h
  have C1 := Lib.hid c1
  clear hC hM hb1 hb2 c1
  go_enter Tryz.func7, Tryz.ntmps7
  generalize hW : (w.alloc (.cells #[.string nm, .slice A n c, .slice K k kc] 25)).alloc (.cells #[.string ⟨#[]⟩, .slice none 0 0, .string ⟨#[]⟩] 30) = w1 at *
  obtain ⟨p0, p1, p2⟩ := HA.out.bx.cells
  go_wp2_with fail
  refine (C1.out _ HA.out.ok).mono ?_
  rintro e w2 ⟨R, N, C, rfl, hR, _, hNC, hCm, hb2⟩
  have HP2 := Lib.hid (HP.out.step hb2)
  have HB2 := Lib.hid (bstep HB.out hb2)
  have hN := hR.len3
  have hNm : N ≤ 9223372036854775807 := by unfold maxLen at hCm; omega
  clear hW HP HB HA hb2 p0 p1 p2 C1
  obtain ⟨y0, y1, y2⟩ := HP2.out.cells
  have yf := fun o => HP2.out.frozen o
  by_cases h0 : N = 0
  · have hnil : qs.filter (named name) = [] := List.length_eq_zero_iff.1 (by omega)
    have t0 : ((N : Int) == 0) = true := by rw [beq_iff_eq]; omega
    have HN := Lib.hid hnil
    have HZ := Lib.hid (And.intro (put3_box (nm := ⟨#[]⟩) (vl := ⟨#[]⟩) (L := none) (n := 0) (c := 0) HP2.out) (HB2.out.trans (put3_below (w := w2) (g := w.heap.size + 1) (nm := ⟨#[]⟩) (vl := ⟨#[]⟩) (L := none) (n := 0) (c := 0) (Nat.le_succ _))))
    clear hR hN hnil h0 hCm hNC
    unfold put3 at HZ
    go_wp2_with fail
    refine bodyPost_ret (results_two rfl _ rfl rfl (load_prop HZ.out.1)) rfl ?_
    exact ⟨HZ.out.2, .inl ⟨HN.out, rfl⟩⟩
  · obtain ⟨q, l, hql⟩ : ∃ q l, qs.filter (named name) = q :: l := by
      cases hf : qs.filter (named name) with
      | nil => rw [hf] at hN; exact absurd hN.symm h0
      | cons q l => exact ⟨q, l, rfl⟩
    rw [hql] at hR
    obtain ⟨b, o, rfl, _, q0, q1, q2⟩ := hR.tri (i := 0) (x := q) rfl
    have t0 : ((N : Int) == 0) = false := by rw [beq_eq_false_iff_ne]; omega
    have h1 : 0 < N := by omega
    rw [Nat.zero_mul, Nat.add_zero] at q0 q1 q2
    simp only [fQ] at q0 q1 q2
    have HN := Lib.hid hql
    have HZ := Lib.hid (And.intro (put3_box (nm := q.name) (vl := q.vl) (L := q.L) (n := q.n) (c := q.c) HP2.out) (HB2.out.trans (put3_below (w := w2) (g := w.heap.size + 1) (nm := q.name) (vl := q.vl) (L := q.L) (n := q.n) (c := q.c) (Nat.le_succ _))))
    clear hR hN hql h0 hCm hNC
    unfold put3 at HZ
    go_wp2_with fail
    refine bodyPost_ret (results_two rfl _ rfl rfl (load_prop HZ.out.1)) rfl ?_
    exact ⟨HZ.out.2, .inr ⟨q, l, HN.out, rfl⟩⟩

end Go.Proofs.YtlfhhnjdfpgadaaGreatDoor
