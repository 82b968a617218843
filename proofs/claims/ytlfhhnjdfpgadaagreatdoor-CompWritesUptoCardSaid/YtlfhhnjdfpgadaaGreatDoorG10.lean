/-
  The program's clones: what holds as long as certain blocks are as they were; rows of the call's own; slices.Clone at four types.
-/
import Derived.Test.YtlfhhnjdfpgadaaGreatDoorG09
import Derived.Lib.SliceRun
namespace Go.Proofs.YtlfhhnjdfpgadaaGreatDoor
open Go.RowKit

/-- What holds in any world in which the blocks of S are as they were. -/
def Held (S : Nat → Prop) (w : World) (F : World → Prop) : Prop := ∀ W : World, w.heap.size ≤ W.heap.size → (∀ b, S b → b < w.heap.size → W.heap[b]? = w.heap[b]?) → F W
section
variable {S S' : Nat → Prop} {w w' : World} {F F' : World → Prop}
theorem Held.here (h : Held S w F) : F w := h w (Nat.le_refl _) (fun _ _ _ => rfl)
theorem Held.next (h : Held S w F) (hs : w.heap.size ≤ w'.heap.size) (hk : ∀ b, S b → b < w.heap.size → w'.heap[b]? = w.heap[b]?) : Held S w' F :=
  fun W h1 h2 => h W (Nat.le_trans hs h1) (fun b hb hl => (h2 b hb (Nat.lt_of_lt_of_le hl hs)).trans (hk b hb hl))
theorem Held.weak (h : Held S w F) (hs : ∀ b, S b → b < w.heap.size → S' b) : Held S' w F := fun W h1 h2 => h W h1 (fun b hb hl => h2 b (hs b hb hl) hl)
theorem Held.imp (h : Held S w F) (hf : ∀ W, F W → F' W) : Held S w F' := fun W h1 h2 => hf W (h W h1 h2)
theorem Held.and (h : Held S w F) (h' : Held S w F') : Held S w (fun W => F W ∧ F' W) := fun W h1 h2 => ⟨h W h1 h2, h' W h1 h2⟩
theorem Held.all {α : Type} {l : List α} {G : α → World → Prop} (h : ∀ x ∈ l, Held S w (G x)) : Held S w (fun W => ∀ x ∈ l, G x W) := fun W h1 h2 x hx => h x hx W h1 h2
theorem Held.step (h : Held S w F) (hb : Below w.heap.size w w') : Held S w' F := h.next hb.size (fun b _ hl => hb.block b hl)
end
theorem held_own {w : World} {base size n c : Nat} {e : TypeId} {A : Option Addr} {xs : List Value} (h : w.ownsRow base e size (.slice A n c) n xs) : Held (fun b => base ≤ b) w (fun W => Reads W W.heap.size size A n xs) := fun W hs hk =>
  ⟨h.1, fun hn => by
    obtain ⟨g, rfl, hb, hlt, ⟨cur, hcur⟩, hc⟩ := own_cells h hn
    refine ⟨g, 0, rfl, by omega, fun j u hu => ?_⟩
    rw [Nat.zero_add]
    exact (World.cell?_of_block (a := ⟨g, j, none⟩) (hk g hb hlt)).trans (hc j u hu)⟩
theorem results_one {P : Program} {fn : Func} {t : Tmp} {T : TypeId} (h : fn.results = #[.cell t T]) (tmps : Array Value) {w : World} {a : Addr} {v : Value} (ht : tmps.getD t undef = .pointer (some a)) (hv : (Go.loadVar T a).run P w = .ok v w) :
    (results fn tmps).run P w = .ok v w := by
  have ht2 : tmps[t]?.getD undef = .pointer (some a) := by rw [← Array.getD_eq_getD_getElem?]; exact ht
  simp [results, h, ht2, asAddr, hv]
theorem p3_all {w : World} {g n c n' c' : Nat} {nm vl nm' vl' : ByteArray} {L L' : Option Addr} (h : P3 w g nm vl L n c) : P3 (((w.setCell ⟨g, 0, none⟩ (.string nm')).setCell ⟨g, 1, none⟩ (.slice L' n' c')).setCell ⟨g, 2, none⟩ (.string vl')) g nm' vl' L' n' c' := by
  unfold P3 at h ⊢
  rw [heap_setCell_same _ g 2 _ _ _ (heap_setCell_same _ g 1 _ _ _ (heap_setCell_same w g 0 _ _ _ h))]
  rfl
theorem set3_other (w : World) (g o o1 o2 : Nat) (a b c : Value) (k : Nat) (h : k ≠ g) : (((w.setCell ⟨g, o, none⟩ a).setCell ⟨g, o1, none⟩ b).setCell ⟨g, o2, none⟩ c).heap[k]? = w.heap[k]? := by
  rw [heap_setCell_other _ _ _ _ h, heap_setCell_other _ _ _ _ h, heap_setCell_other _ _ _ _ h]
theorem set3_size (w : World) (g o o1 o2 : Nat) (a b c : Value) : (((w.setCell ⟨g, o, none⟩ a).setCell ⟨g, o1, none⟩ b).setCell ⟨g, o2, none⟩ c).heap.size = w.heap.size := by simp
theorem infoStr : (Tryz.prog.info? 9).map (fun i => (i.zero, i.size, i.bytes)) = some (some (.string ⟨#[]⟩), 1, 16) := by kernel_rfl
theorem infoPar : (Tryz.prog.info? 56).map (fun i => (i.zero, i.size, i.bytes)) = some (some (.agg #[.string ⟨#[]⟩, .slice none 0 0]), 2, 40) := by kernel_rfl
theorem one_encS : ∀ (l : List ByteArray), ∀ u ∈ encS l, u.oneCell' = true := fun l u hu => by
  unfold encS at hu
  obtain ⟨x, _, rfl⟩ := List.mem_map.1 hu
  rfl
theorem one_encP : ∀ (l : List PR), ∀ u ∈ encP l, u.oneCell' = true
  | [], u, hu => by cases hu
  | r :: l, u, hu => by
    rcases List.mem_cons.1 hu with rfl | hu
    · rfl
    · rcases List.mem_cons.1 hu with rfl | hu
      · rfl
      · exact one_encP l u hu
theorem one_enc3 {α : Type} {f : α → Value × Value × Value} (hf : ∀ x, (f x).1.oneCell' = true ∧ (f x).2.1.oneCell' = true ∧ (f x).2.2.oneCell' = true) : ∀ (l : List α), ∀ u ∈ enc3 f l, u.oneCell' = true
  | [], u, hu => by cases hu
  | x :: l, u, hu => by
    rcases List.mem_cons.1 hu with rfl | hu
    · exact (hf x).1
    · rcases List.mem_cons.1 hu with rfl | hu
      · exact (hf x).2.1
      · rcases List.mem_cons.1 hu with rfl | hu
        · exact (hf x).2.2
        · exact one_enc3 hf l u hu
theorem one_fQ (q : QR) : (fQ q).1.oneCell' = true ∧ (fQ q).2.1.oneCell' = true ∧ (fQ q).2.2.oneCell' = true := ⟨rfl, rfl, rfl⟩
theorem one_fC : ∀ (r : CR), (fC r).1.oneCell' = true ∧ (fC r).2.1.oneCell' = true ∧ (fC r).2.2.oneCell' = true
  | .mk .. => ⟨rfl, rfl, rfl⟩

set_option maxRecDepth 100000 in
set_option maxHeartbeats 2000000 in
theorem cloneStr_any (A : Option Addr) (n c : Nat) (xs : List Value) (w : World) (hR : Reads w w.heap.size 1 A n xs) (hn : n ≤ 1048576) (h1 : ∀ u ∈ xs, u.oneCell' = true) :
    Calls Tryz.prog 37 #[.slice A n c] w fun e w' => ∃ (A' : Option Addr) (c' : Nat), e = .returned (.slice A' n c') ∧ w'.ownsRow w.heap.size 9 1 (.slice A' n c') n xs ∧ Below w.heap.size w w' := by
  obtain ⟨i0, hi0, hz0, hz1, hz2⟩ := info_parts infoStr
  have q22 := fun (w : World) (a : Option Addr) (n c n' c' : Nat) => Lib.run_eql_slice_nil w _ _ a n c n' c' Tryz.underlying46
  have HR := Lib.hid hR
  rcases A with _ | ad
  · have h0 : n = 0 := by
      rcases Nat.eq_zero_or_pos n with h | h
      · exact h
      · obtain ⟨b, o, e, _⟩ := hR.2 h; cases e
    subst h0
    have hx : xs = [] := List.eq_nil_of_length_eq_zero (by have := hR.1; simpa using this)
    subst hx
    clear hR
    go_enter Tryz.func37, Tryz.ntmps37
    go_wp2
    go_ret
    exact ⟨none, 0, rfl, own_nil, Below.refl _ _⟩
  · clear hR
    go_enter Tryz.func37, Tryz.ntmps37
    go_wp2_with (at_builtin; refine wpList_append_reads _ rfl _ _ 46 rfl w.heap.size 9 i0 (.string ⟨#[]⟩) 1 16 Tryz.underlying46 hi0 hz0 hz1 hz2 rfl (by decide) _ _ _ rfl (World.ownsRow_made w #[] 0 (Nat.le_refl _) (Nat.zero_le _) (by simp)) _ (some ad) n c xs rfl (HR.out.alloc _) h1 (by unfold maxLen; omega) (by omega) (by simp) ?_; intro A7 c7 w7 hown7 hgrow7 _)
    have HG := Lib.hid (And.intro hown7 hgrow7)
    clear hown7 hgrow7
    try simp only [Nat.zero_add]
    go_wp2
    go_ret
    exact ⟨A7, c7, rfl, by simpa using HG.out.1, ((Below.refl _ w).alloc (Nat.le_refl _) _).grown HG.out.2 (by simp) (fun k hk => own_row_ge (World.ownsRow_made (base := w.heap.size) (e := 9) (size := 1) w #[] 0 (Nat.le_refl _) (Nat.zero_le _) (by simp)) k hk)⟩
set_option maxRecDepth 100000 in
set_option maxHeartbeats 2000000 in
theorem cloneP_any (A : Option Addr) (n c : Nat) (xs : List Value) (w : World) (hR : Reads w w.heap.size 2 A n xs) (hn : n ≤ 1048576) (h1 : ∀ u ∈ xs, u.oneCell' = true) :
    Calls Tryz.prog 36 #[.slice A n c] w fun e w' => ∃ (A' : Option Addr) (c' : Nat), e = .returned (.slice A' n c') ∧ w'.ownsRow w.heap.size 56 2 (.slice A' n c') n xs ∧ Below w.heap.size w w' := by
  obtain ⟨i0, hi0, hz0, hz1, hz2⟩ := info_parts infoPar
  have q22 := fun (w : World) (a : Option Addr) (n c n' c' : Nat) => Lib.run_eql_slice_nil w _ _ a n c n' c' Tryz.underlying28
  have HR := Lib.hid hR
  rcases A with _ | ad
  · have h0 : n = 0 := by
      rcases Nat.eq_zero_or_pos n with h | h
      · exact h
      · obtain ⟨b, o, e, _⟩ := hR.2 h; cases e
    subst h0
    have hx : xs = [] := List.eq_nil_of_length_eq_zero (by have := hR.1; simpa using this)
    subst hx
    clear hR
    go_enter Tryz.func36, Tryz.ntmps36
    go_wp2
    go_ret
    exact ⟨none, 0, rfl, own_nil, Below.refl _ _⟩
  · clear hR
    go_enter Tryz.func36, Tryz.ntmps36
    go_wp2_with (at_builtin; refine wpList_append_reads _ rfl _ _ 28 rfl w.heap.size 56 i0 (.agg #[.string ⟨#[]⟩, .slice none 0 0]) 2 40 Tryz.underlying28 hi0 hz0 hz1 hz2 rfl (by decide) _ _ _ rfl (World.ownsRow_made w #[] 0 (Nat.le_refl _) (Nat.zero_le _) (by simp)) _ (some ad) n c xs rfl (HR.out.alloc _) h1 (by unfold maxLen; omega) (by omega) (by simp) ?_; intro A7 c7 w7 hown7 hgrow7 _)
    have HG := Lib.hid (And.intro hown7 hgrow7)
    clear hown7 hgrow7
    try simp only [Nat.zero_add]
    go_wp2
    go_ret
    exact ⟨A7, c7, rfl, by simpa using HG.out.1, ((Below.refl _ w).alloc (Nat.le_refl _) _).grown HG.out.2 (by simp) (fun k hk => own_row_ge (World.ownsRow_made (base := w.heap.size) (e := 56) (size := 2) w #[] 0 (Nat.le_refl _) (Nat.zero_le _) (by simp)) k hk)⟩
set_option maxRecDepth 100000 in
set_option maxHeartbeats 2000000 in
theorem cloneQ_any (A : Option Addr) (n c : Nat) (xs : List Value) (w : World) (hR : Reads w w.heap.size 3 A n xs) (hn : n ≤ 1048576) (h1 : ∀ u ∈ xs, u.oneCell' = true) :
    Calls Tryz.prog 38 #[.slice A n c] w fun e w' => ∃ (A' : Option Addr) (c' : Nat), e = .returned (.slice A' n c') ∧ w'.ownsRow w.heap.size 30 3 (.slice A' n c') n xs ∧ Below w.heap.size w w' := by
  obtain ⟨i0, hi0, hz0, hz1, hz2⟩ := info_parts infoQ
  have q22 := fun (w : World) (a : Option Addr) (n c n' c' : Nat) => Lib.run_eql_slice_nil w _ _ a n c n' c' Tryz.underlying22
  have HR := Lib.hid hR
  rcases A with _ | ad
  · have h0 : n = 0 := by
      rcases Nat.eq_zero_or_pos n with h | h
      · exact h
      · obtain ⟨b, o, e, _⟩ := hR.2 h; cases e
    subst h0
    have hx : xs = [] := List.eq_nil_of_length_eq_zero (by have := hR.1; simpa using this)
    subst hx
    clear hR
    go_enter Tryz.func38, Tryz.ntmps38
    go_wp2
    go_ret
    exact ⟨none, 0, rfl, own_nil, Below.refl _ _⟩
  · clear hR
    go_enter Tryz.func38, Tryz.ntmps38
    go_wp2_with (at_builtin; refine wpList_append_reads _ rfl _ _ 22 rfl w.heap.size 30 i0 (.agg #[.string ⟨#[]⟩, .slice none 0 0, .string ⟨#[]⟩]) 3 56 Tryz.underlying22 hi0 hz0 hz1 hz2 rfl (by decide) _ _ _ rfl (World.ownsRow_made w #[] 0 (Nat.le_refl _) (Nat.zero_le _) (by simp)) _ (some ad) n c xs rfl (HR.out.alloc _) h1 (by unfold maxLen; omega) (by omega) (by simp) ?_; intro A7 c7 w7 hown7 hgrow7 _)
    have HG := Lib.hid (And.intro hown7 hgrow7)
    clear hown7 hgrow7
    try simp only [Nat.zero_add]
    go_wp2
    go_ret
    exact ⟨A7, c7, rfl, by simpa using HG.out.1, ((Below.refl _ w).alloc (Nat.le_refl _) _).grown HG.out.2 (by simp) (fun k hk => own_row_ge (World.ownsRow_made (base := w.heap.size) (e := 30) (size := 3) w #[] 0 (Nat.le_refl _) (Nat.zero_le _) (by simp)) k hk)⟩
set_option maxRecDepth 100000 in
set_option maxHeartbeats 2000000 in
theorem cloneC_any (A : Option Addr) (n c : Nat) (xs : List Value) (w : World) (hR : Reads w w.heap.size 3 A n xs) (hn : n ≤ 1048576) (h1 : ∀ u ∈ xs, u.oneCell' = true) :
    Calls Tryz.prog 39 #[.slice A n c] w fun e w' => ∃ (A' : Option Addr) (c' : Nat), e = .returned (.slice A' n c') ∧ w'.ownsRow w.heap.size 25 3 (.slice A' n c') n xs ∧ Below w.heap.size w w' := by
  obtain ⟨i0, hi0, hz0, hz1, hz2⟩ := info_parts infoC
  have q22 := fun (w : World) (a : Option Addr) (n c n' c' : Nat) => Lib.run_eql_slice_nil w _ _ a n c n' c' Tryz.underlying23
  have HR := Lib.hid hR
  rcases A with _ | ad
  · have h0 : n = 0 := by
      rcases Nat.eq_zero_or_pos n with h | h
      · exact h
      · obtain ⟨b, o, e, _⟩ := hR.2 h; cases e
    subst h0
    have hx : xs = [] := List.eq_nil_of_length_eq_zero (by have := hR.1; simpa using this)
    subst hx
    clear hR
    go_enter Tryz.func39, Tryz.ntmps39
    go_wp2
    go_ret
    exact ⟨none, 0, rfl, own_nil, Below.refl _ _⟩
  · clear hR
    go_enter Tryz.func39, Tryz.ntmps39
    go_wp2_with (at_builtin; refine wpList_append_reads _ rfl _ _ 23 rfl w.heap.size 25 i0 (.agg #[.string ⟨#[]⟩, .slice none 0 0, .slice none 0 0]) 3 64 Tryz.underlying23 hi0 hz0 hz1 hz2 rfl (by decide) _ _ _ rfl (World.ownsRow_made w #[] 0 (Nat.le_refl _) (Nat.zero_le _) (by simp)) _ (some ad) n c xs rfl (HR.out.alloc _) h1 (by unfold maxLen; omega) (by omega) (by simp) ?_; intro A7 c7 w7 hown7 hgrow7 _)
    have HG := Lib.hid (And.intro hown7 hgrow7)
    clear hown7 hgrow7
    try simp only [Nat.zero_add]
    go_wp2
    go_ret
    exact ⟨A7, c7, rfl, by simpa using HG.out.1, ((Below.refl _ w).alloc (Nat.le_refl _) _).grown HG.out.2 (by simp) (fun k hk => own_row_ge (World.ownsRow_made (base := w.heap.size) (e := 25) (size := 3) w #[] 0 (Nat.le_refl _) (Nat.zero_le _) (by simp)) k hk)⟩
end Go.Proofs.YtlfhhnjdfpgadaaGreatDoor

/-
  The program's cloneProp and clone: the same, in memory of the call's own.
-/
namespace Go.Proofs.YtlfhhnjdfpgadaaGreatDoor
open Go.RowKit

theorem p3_set1 {w : World} {g n c n' c' : Nat} {nm vl : ByteArray} {L L' : Option Addr} (h : P3 w g nm vl L n c) : P3 (w.setCell ⟨g, 1, none⟩ (.slice L' n' c')) g nm vl L' n' c' := by
  unfold P3 at h ⊢
  rw [heap_setCell_same w g 1 _ _ _ h]
  rfl
theorem p3_other {w : World} {g n c : Nat} {nm vl : ByteArray} {L : Option Addr} (h : P3 w g nm vl L n c) (a : Addr) (v : Value) (hne : g ≠ a.block) : P3 (w.setCell a v) g nm vl L n c := (heap_setCell_other w a g v hne).trans h
theorem encP_app (l l2 : List PR) : encP (l ++ l2) = encP l ++ encP l2 := by
  induction l with
  | nil => rfl
  | cons r l ih => simp only [List.cons_append, encP, ih]
theorem encP_set1 (l1 : List PR) (r : PR) (l2 : List PR) (K : Option Addr) (kc : Nat) : (encP (l1 ++ r :: l2)).set (l1.length * 2 + 1) (.slice K r.k kc) = encP (l1 ++ { r with K := K, kc := kc } :: l2) := by
  rw [encP_app, encP_app, List.set_append_right _ _ (by rw [encP_length]; omega), encP_length]
  congr 1
  rw [show l1.length * 2 + 1 - l1.length * 2 = 1 by omega]
  rfl
theorem vs_len : ∀ l : List ByteArray, l.length ≤ vsize l
  | [] => by simp
  | x :: l => by have := vs_len l; unfold vsize at *; simp only [List.length_cons, List.map_cons, List.sum_cons]; omega
theorem ps_len : ∀ l : List PR, l.length ≤ psizes l
  | [] => by simp
  | x :: l => by have := ps_len l; unfold psizes psize at *; simp only [List.length_cons, List.map_cons, List.sum_cons]; omega
theorem mem_psizes12 : ∀ {l : List PR} {r : PR}, r ∈ l → psize r ≤ psizes l
  | x :: l, r, h => by
    unfold psizes
    rcases List.mem_cons.1 h with rfl | h
    · simp
    · have := mem_psizes12 h
      unfold psizes at this
      simp; omega
/-- While a property's parameters are copied. -/
structure LP (w wr : World) (q : QR) (R : Option Addr) (C i : Nat) (l1 : List PR) : Prop where
  bx : P3 wr w.heap.size q.name q.vl R q.n C
  rs : P3 wr (w.heap.size + 1) ⟨#[]⟩ ⟨#[]⟩ none 0 0
  row : wr.ownsRow (w.heap.size + 2) 56 2 (.slice R q.n C) q.n (encP (l1 ++ q.ps.drop i))
  ln : l1.length = i
  sm : l1.map parOf = (q.ps.take i).map parOf
  sz : psizes l1 = psizes (q.ps.take i)
  ok : ∀ r ∈ l1, Held (fun b => w.heap.size + 2 ≤ b ∧ (Value.slice R q.n C).ownBlock ≠ some b) wr (fun W => POk W W.heap.size r)
  bel : Below w.heap.size w wr
theorem psizes_app (l l2 : List PR) : psizes (l ++ l2) = psizes l + psizes l2 := by unfold psizes; rw [List.map_append, List.sum_append]
theorem LP.step {w wr w1 : World} {q : QR} {R : Option Addr} {C i : Nat} {l1 : List PR} (h : LP w wr q R C i l1) (hb : Below wr.heap.size wr w1) : LP w w1 q R C i l1 :=
  ⟨h.bx.step hb, h.rs.step hb, own_below h.row hb, h.ln, h.sm, h.sz, fun r hr => (h.ok r hr).step hb, bstep h.bel hb⟩
theorem LP.next {w wr w5 : World} {q : QR} {g C i c5 : Nat} {l1 : List PR} {r : PR} {A5 : Option Addr} (h : LP w wr q (some ⟨g, 0, none⟩) C i l1) (hr : q.ps[i]? = some r) (hg : w.heap.size + 2 ≤ g) (hgl : g < wr.heap.size) (hb : Below wr.heap.size wr w5)
    (hown : w5.ownsRow wr.heap.size 9 1 (.slice A5 r.k c5) r.k (encS r.vs)) : LP w (w5.setCell ⟨g, i * 2 + 1, none⟩ (.slice A5 r.k c5)) q (some ⟨g, 0, none⟩) C (i + 1) (l1 ++ [{ r with K := A5, kc := c5 }]) := by
  have h5 := h.step hb
  have hil : i < q.ps.length := (List.getElem?_eq_some_iff.1 hr).1
  have hd : q.ps.drop i = r :: q.ps.drop (i + 1) := by
    rw [List.drop_eq_getElem_cons hil]
    congr 1
    exact Option.some.inj ((List.getElem?_eq_getElem hil).symm.trans hr)
  have htk : q.ps.take (i + 1) = q.ps.take i ++ [r] := by rw [List.take_add_one, hr]; rfl
  have hln := h.ln
  have hsm := h.sm
  have hsz := h.sz
  have hrow := h5.row
  rw [hd] at hrow
  have hs := World.ownsRow.stored hrow (l1.length * 2 + 1) (.slice A5 r.k c5)
  rw [encP_set1, hln] at hs
  have hk : ∀ b, g ≠ b → (w5.setCell ⟨g, i * 2 + 1, none⟩ (.slice A5 r.k c5)).heap[b]? = w5.heap[b]? := fun b hb' => heap_setCell_other _ _ _ _ (fun e => hb' e.symm)
  have hsize : (w5.setCell ⟨g, i * 2 + 1, none⟩ (.slice A5 r.k c5)).heap.size = w5.heap.size := by simp
  refine ⟨(hk _ (by omega)).trans h5.bx, (hk _ (by omega)).trans h5.rs, ?_, by simp [hln], ?_, ?_, fun r' hr' => ?_, h5.bel.setCell (p := ⟨g, i * 2 + 1, none⟩) (by show w.heap.size ≤ g; omega) _⟩
  · have : l1 ++ [{ r with K := A5, kc := c5 }] ++ q.ps.drop (i + 1) = l1 ++ { r with K := A5, kc := c5 } :: q.ps.drop (i + 1) := by simp
    rw [this]
    exact hs.1
  · rw [List.map_append, htk, List.map_append, hsm]; rfl
  · rw [psizes_app, htk, psizes_app, hsz]; rfl
  · rcases List.mem_append.1 hr' with h1 | h1
    · exact (h5.ok r' h1).next (by rw [hsize]; exact Nat.le_refl _) (fun b hb2 _ => hk b (fun e => hb2.2 (by subst e; rfl)))
    · rw [List.mem_singleton.1 h1]
      obtain ⟨A6, c6, e6, hle, hcap⟩ := own_slice hown
      injection e6 with _ _ e6
      subst e6
      have hh := held_own hown
      refine ((hh.imp (F' := fun W => POk W W.heap.size { r with K := A5, kc := c5 }) (fun W hW => ⟨hW, hle, hcap⟩)).weak (fun b hb2 hb3 => ⟨by omega, fun e => ?_⟩)).next (by rw [hsize]; exact Nat.le_refl _) (fun b hb2 _ => hk b (fun e => hb2.2 (by subst e; rfl)))
      have e' : g = b := by injection e
      omega

set_option maxRecDepth 100000 in
set_option maxHeartbeats 4000000 in
theorem cloneProp_any (q : QR) (w : World) (hq : QOk w w.heap.size q) (hM : qsize q ≤ 1048576) : Calls Tryz.prog 21 #[.agg #[.string q.name, .slice q.L q.n q.c, .string q.vl]] w fun e w' =>
    ∃ q' : QR, e = .returned (.agg #[.string q'.name, .slice q'.L q'.n q'.c, .string q'.vl]) ∧ proQ q' = proQ q ∧ qsize q' = qsize q ∧ Held (fun b => w.heap.size ≤ b) w' (fun W => QOk W W.heap.size q') ∧ Below w.heap.size w w' := by
  have hmx : Tryz.prog.follows .mixedOrders = true := by kernel_rfl
  have hb1 : Below w.heap.size w (w.alloc (.cells #[.string q.name, .slice q.L q.n q.c, .string q.vl] 30)) := (Below.refl _ w).alloc (Nat.le_refl _) _
  have hb2 := (Below.refl _ (w.alloc (.cells #[.string q.name, .slice q.L q.n q.c, .string q.vl] 30))).alloc (Nat.le_refl _) (.cells #[.string ⟨#[]⟩, .slice none 0 0, .string ⟨#[]⟩] 30)
  have P1 := Lib.hid ((P3.new w q.name q.vl q.L q.n q.c).step hb2)
  have P2 := Lib.hid (P3.new (w.alloc (.cells #[.string q.name, .slice q.L q.n q.c, .string q.vl] 30)) ⟨#[]⟩ ⟨#[]⟩ none 0 0)
  have HB := Lib.hid (bstep hb1 hb2)
  have HQ := Lib.hid hq
  have HM := Lib.hid hM
  have HL : Hid (q.ps.length = q.n) := Lib.hid (by have := hq.rd.1; rw [encP_length] at this; omega)
  have hn : q.n ≤ 1048576 := by
    have h1 := ps_len q.ps
    have := HL.out
    unfold qsize at hM
    omega
  clear hq hM hb1 hb2
  go_enter Tryz.func21, Tryz.ntmps21
  generalize hW : (w.alloc (.cells #[.string q.name, .slice q.L q.n q.c, .string q.vl] 30)).alloc (.cells #[.string ⟨#[]⟩, .slice none 0 0, .string ⟨#[]⟩] 30) = w1 at P1 P2 HB
  have hs1 : w1.heap.size = w.heap.size + 2 := by rw [← hW]; simp
  have hs0 : (w.alloc (.cells #[.string q.name, .slice q.L q.n q.c, .string q.vl] 30)).heap.size = w.heap.size + 1 := by simp
  rw [hs0] at P2
  clear hs0
  obtain ⟨x0, x1, x2⟩ := P1.out.cells
  have cc := cloneP_any q.L q.n q.c (encP q.ps) w1 (HQ.out.step HB.out).rd hn (one_encP _)
  have xf := P1.out.frozen
  go_wp2_with fail
  refine cc.mono ?_
  rintro e w2 ⟨R, C, rfl, hown, hbx⟩
  rw [hs1] at hown
  have P1b := Lib.hid (P1.out.step hbx)
  have HJ : Hid (LP w (w2.setCell ⟨w.heap.size, 1, none⟩ (.slice R q.n C)) q R C 0 []) := Lib.hid (by
    have hown' : w2.ownsRow (w.heap.size + 2) 56 2 (.slice R q.n C) q.n (encP ([] ++ q.ps.drop 0)) := by simpa using hown
    refine ⟨p3_set1 P1b.out, p3_other (P2.out.step hbx) _ _ (by show w.heap.size + 1 ≠ w.heap.size; omega), ownsRow_setCell_other hown' (fun e => ?_) _, rfl, rfl, rfl, fun r hr => (by cases hr), (bstep HB.out hbx).setCell (p := ⟨w.heap.size, 1, none⟩) (Nat.le_refl _) _⟩
    have := own_row_ge hown' _ e
    change w.heap.size + 2 ≤ w.heap.size at this
    omega)
  clear cc x0 x1 x2 xf hown hbx P1 P2 HB hW
  obtain ⟨x0, x1, x2⟩ := P1b.out.cells
  have xf := P1b.out.frozen
  go_upto_region 2 with fail
  generalize w2.setCell ⟨w.heap.size, 1, none⟩ (.slice R q.n C) = w3 at HJ ⊢
  clear x0 x1 x2 xf P1b
  obtain ⟨x0, x1, x2⟩ := HJ.out.bx.cells
  go_wp2
  clear x0 x1 x2
  go_loopw [12] (fun s12 wr => ∃ (i : Nat) (l1 : List PR), s12 = .int .i64 i ∧ i ≤ q.n ∧ Hid (LP w wr q R C i l1)) (fun s12 _ => q.n - (intOf s12).toNat)
  case atStart => exact ⟨0, [], rfl, Nat.zero_le _, HJ⟩
  case round =>
    clear HJ
    obtain ⟨i, l1, rfl, hi, HJ⟩ := hrel
    by_cases hlt : i < q.n
    · obtain ⟨r, hr⟩ : ∃ r, q.ps[i]? = some r := ⟨q.ps[i]'(by have := HL.out; omega), List.getElem?_eq_getElem (by have := HL.out; omega)⟩
      obtain ⟨g, hRe, hg, hgl, _, hcs⟩ := own_cells HJ.out.row (by omega)
      have hx : (l1 ++ q.ps.drop i)[i]? = some r := by rw [List.getElem?_append_right (by rw [HJ.out.ln]; exact Nat.le_refl _), HJ.out.ln]; simpa using hr
      obtain ⟨e0, e1⟩ := encP_get hx
      have c0 := hcs _ _ e0
      have c1 := hcs _ _ e1
      have HR := Lib.hid hr
      have HG := Lib.hid (And.intro hg hgl)
      have HN : 0 < q.n := by omega
      have ha : Below wr.heap.size wr (wr.alloc (.cells #[.string r.name, .slice r.K r.k r.kc] 56)) := (Below.refl _ wr).alloc (Nat.le_refl _) _
      have HJ2 := Lib.hid (HJ.out.step ha)
      have X1 := Lib.hid (show (wr.alloc (.cells #[.string r.name, .slice r.K r.k r.kc] 56)).cell? ⟨wr.heap.size, 1, none⟩ = some (.slice r.K r.k r.kc) by simp)
      have C1 := Lib.hid (Lib.cell?_alloc_some (.cells #[.string r.name, .slice r.K r.k r.kc] 56) c1)
      have CL := Lib.hid (fun (w5 : World) (h5 : Below (wr.alloc (.cells #[.string r.name, .slice r.K r.k r.kc] 56)).heap.size (wr.alloc (.cells #[.string r.name, .slice r.K r.k r.kc] 56)) w5) =>
        have hbb := bstep HJ2.out.bel h5
        have hp := HQ.out.vs r (List.mem_of_getElem? hr)
        cloneStr_any r.K r.k r.kc (encS r.vs) w5 (hp.rd.step hbb) (by
          have h1 := mem_psizes12 (List.mem_of_getElem? hr)
          have h2 := HM.out
          have h3 : r.vs.length ≤ vsize r.vs := vs_len _
          have h4 := hp.rd.lenS
          unfold qsize at h2
          unfold psize at h1
          omega) (one_encS _))
      clear hr hcs hx e0 e1 HJ ha
      subst hRe
      go_upto_region 5 with fail
      generalize hwa : wr.alloc (.cells #[.string r.name, .slice r.K r.k r.kc] 56) = wa at HJ2 X1 C1 CL ⊢
      have hwz : wa.heap.size = wr.heap.size + 1 := by rw [← hwa]; simp
      generalize wr.heap.size = X at X1 HG hwz ⊢
      clear hwa c0 c1
      have Z1 := Lib.hid HJ2.out.bx.cells.2.1
      refine wp_region_till (fun w' => Below wa.heap.size wa w') 8 9 hmx (by kernel_rfl) ?_
      have HS : Below wa.heap.size wa wa.drew := (Below.refl _ _).drew
      refine till_take (i := 0) _ (.pointer (some ⟨w.heap.size, 1, none⟩)) [0] rfl (by kernel_rfl) (by kernel_rfl) (by kernel_rfl) (by kernel_rfl) (fun _ _ _ h => h) (.inl ⟨by rfl, fun w' hS => ?_⟩) HS ?_
      · go_simp
      try simp only [Act.put, List.setIfInBounds_toArray, List.set_cons_zero, List.set_cons_succ]
      refine till_take (i := 1) _ (.slice (some ⟨g, 0, none⟩) q.n C) [1] rfl (by kernel_rfl) (by kernel_rfl) (by kernel_rfl) (by kernel_rfl) (fun _ _ _ h => h) (.inl ⟨by rfl, fun w' hS => ?_⟩) HS ?_
      · have z1 := cell_keep Z1.out hS
        go_simp
      try simp only [Act.put, List.setIfInBounds_toArray, List.set_cons_zero, List.set_cons_succ]
      refine till_take (i := 2) _ (.int .i64 (i : Int)) [2] rfl (by kernel_rfl) (by kernel_rfl) (by kernel_rfl) (by kernel_rfl) (fun _ _ _ h => h) (.inl ⟨by rfl, fun w' hS => ?_⟩) HS ?_
      · go_simp
      try simp only [Act.put, List.setIfInBounds_toArray, List.set_cons_zero, List.set_cons_succ]
      refine till_take (i := 3) _ (.pointer (some ⟨X, 1, none⟩)) [3] rfl (by kernel_rfl) (by kernel_rfl) (by kernel_rfl) (by kernel_rfl) (fun _ _ _ h => h) (.inl ⟨by rfl, fun w' hS => ?_⟩) HS ?_
      · go_simp
      try simp only [Act.put, List.setIfInBounds_toArray, List.set_cons_zero, List.set_cons_succ]
      refine till_take (i := 4) _ (.slice r.K r.k r.kc) [4] rfl (by kernel_rfl) (by kernel_rfl) (by kernel_rfl) (by kernel_rfl) (fun _ _ _ h => h) (.inl ⟨by rfl, fun w' hS => ?_⟩) HS ?_
      · have z1 := cell_keep X1.out hS
        go_simp
      try simp only [Act.put, List.setIfInBounds_toArray, List.set_cons_zero, List.set_cons_succ]
      refine till_one (i := 5) _ (by kernel_rfl) rfl rfl (fun K hK => ?_)
      go_simp
      go_at_call 37
      refine (CL.out wa.drew HS).mono ?_
      rintro e w5 ⟨A5, c5, rfl, hown5, hb5⟩
      have HS5 : Below wa.heap.size wa w5 := HS.trans hb5
      have CI := Lib.hid (cell_keep C1.out HS5)
      clear HS
      refine hK.out _ _ (fun _ _ => HS5) ?_
      try simp only [Act.put, List.setIfInBounds_toArray, List.set_cons_zero, List.set_cons_succ]
      clear hK K
      refine till_one (i := 6) _ (by kernel_rfl) rfl rfl (fun K hK => ?_)
      go_simp
      refine hK.out _ _ (fun _ _ => HS5) ?_
      try simp only [Act.put, List.setIfInBounds_toArray, List.set_cons_zero, List.set_cons_succ]
      clear hK K
      refine till_one (i := 7) _ (by kernel_rfl) rfl rfl (fun K hK => ?_)
      go_simp
      refine hK.out _ _ (fun _ _ => HS5) ?_
      try simp only [Act.put, List.setIfInBounds_toArray, List.set_cons_zero, List.set_cons_succ]
      clear hK K
      refine till_one (i := 8) _ (by kernel_rfl) rfl rfl (fun K hK => ?_)
      have ci := CI.out
      have cf := World.ownsRow.frozenAt (own_below HJ2.out.row HS5) (i * 2 + 1)
      go_simp
      refine hK.out _ _ (fun h _ => absurd rfl h) ?_
      try simp only [Act.put, List.setIfInBounds_toArray, List.set_cons_zero, List.set_cons_succ]
      clear hK K
      refine till_done (by kernel_rfl) ?_
      have HN2 : Hid (LP w (w5.setCell ⟨g, i * 2 + 1, none⟩ (.slice A5 r.k c5)) q (some ⟨g, 0, none⟩) C (i + 1) (l1 ++ [{ r with K := A5, kc := c5 }])) := Lib.hid (HJ2.out.next HR.out HG.out.1 (by have := HG.out.2; omega) HS5 hown5)
      clear HJ2 hown5 hb5 HS5 Z1 X1 C1 CL CI
      go_wp2
      go_round
      case rel => exact ⟨i + 1, _, by go_num, by omega, HN2⟩
      case measure => simp [intOf]; omega
    · obtain rfl : i = q.n := by omega
      obtain ⟨x0, x1, x2⟩ := HJ.out.bx.cells
      obtain ⟨y0, y1, y2⟩ := HJ.out.rs.cells
      have xf := HJ.out.rs.frozen
      go_wp2
      have HP := p3_all (nm' := q.name) (vl' := q.vl) (L' := R) (n' := q.n) (c' := C) HJ.out.rs
      refine bodyPost_ret (results_one rfl _ rfl (load_prop HP)) rfl ?_
      have htk : q.ps.take q.n = q.ps := List.take_of_length_le (by rw [HL.out]; exact Nat.le_refl _)
      have hdr : q.ps.drop q.n = [] := List.drop_eq_nil_of_le (by rw [HL.out]; exact Nat.le_refl _)
      have hrow := HJ.out.row
      rw [hdr, List.append_nil] at hrow
      have hsm := HJ.out.sm
      have hsz := HJ.out.sz
      rw [htk] at hsm hsz
      obtain ⟨A6, c6, e6, hle, hcap⟩ := own_slice hrow
      injection e6 with _ _ e6
      subst e6
      refine ⟨⟨q.name, R, q.n, C, q.vl, l1⟩, rfl, ?_, ?_, ?_, ?_⟩
      · unfold proQ proOf; rw [hsm]
      · unfold qsize; rw [hsz]
      · refine Held.weak (S := fun b => w.heap.size + 2 ≤ b) ?_ (fun b hb _ => by show w.heap.size ≤ b; have : w.heap.size + 2 ≤ b := hb; omega)
        refine Held.next ((Held.and (held_own hrow) (Held.all fun r hr => (HJ.out.ok r hr).weak (fun b hb _ => hb.1))).imp (fun W hW => ⟨hW.1, hW.2, hle, hcap⟩)) ?_ ?_
        · rw [set3_size]; exact Nat.le_refl _
        · intro b hb _
          exact set3_other _ _ _ _ _ _ _ _ b (by have : w.heap.size + 2 ≤ b := hb; omega)
      · refine ((HJ.out.bel.setCell (p := ⟨w.heap.size + 1, 0, none⟩) ?_ _).setCell (p := ⟨w.heap.size + 1, 1, none⟩) ?_ _).setCell (p := ⟨w.heap.size + 1, 2, none⟩) ?_ _ <;> (show w.heap.size ≤ w.heap.size + 1; omega)
end Go.Proofs.YtlfhhnjdfpgadaaGreatDoor
