/-
  The same inode with another size and other blocks.
-/
import Derived.Test.YtpdfkakhahfcjaaGreatG12
import Derived.Test.YtpdfkakhahfcjaaGreatG04
import Derived.Test.YtpdfkakhahfcjaaGreatG09
namespace Go.Proofs.YtpdfkakhahfcjaaGreat
open Go.RowKit

/-- A row of numbers copied over the first ones' names, or the listed ones': whatever its length. -/
theorem copyBlN_run {W : World} {g : Nat} {r : RecI} (h : BR W g r) (hr : OkR r) {A : Option Addr} {n c : Nat} {l : List Nat} (hs : Reads W W.heap.size 1 A n (encN l)) :
    ∃ W', (Builtin.copy_ #[49, 49] 3 #[.slice (some ⟨g, 3, none⟩) 4 4, .slice A n c]).run Tryz.prog W = .ok (goInt (min n 4 : Nat)) W' ∧ BR W' g { r with bl := l.take 4 ++ r.bl.drop (min n 4) } ∧ But g W W' := by
  have hl := hs.lenN
  rcases Nat.eq_zero_or_pos n with h0 | h0
  · subst h0
    obtain rfl : l = [] := List.eq_nil_of_length_eq_zero hl
    refine ⟨W, run_copy_none W _ _ _ _ _ _ _ _ _ _ Tryz.underlying49 sizeInt (by rfl), ?_, But.refl _ _⟩
    simpa using h
  · obtain ⟨b, o, rfl, _, hc⟩ := hs.2 h0
    have hlen : (encN (l.take 4)).length = min n 4 := by rw [encN_length, List.length_take, hl]; omega
    have := run_copy_row (P := Tryz.prog) W 49 49 3 3 g 3 4 4 ⟨b, o, none⟩ n c (cellsR r).toArray _ (encN (l.take 4)) Tryz.underlying49 sizeInt h (by rw [hlen]) (fun j v hv => by
      rw [Addr.add_mid]
      refine hc j v ?_
      rw [show encN (l.take 4) = (encN l).take 4 by simp [encN]] at hv
      have hj : j < 4 := by have := (List.getElem?_eq_some_iff.1 hv).1; rw [List.length_take] at this; omega
      rwa [List.getElem?_take_of_lt hj] at hv) (by rw [hlen, List.size_toArray, cellsR_length hr]; omega) (encN_one _)
    rw [hlen] at this
    refine ⟨_, this, ?_, But.setRow _ _ _⟩
    have h2 := h.copyBl (l := l.take 4) (by rw [List.length_take, hr.bl]; omega)
    rw [hlen] at h2
    rwa [show (l.take 4).length = min n 4 by rw [List.length_take, hl]; omega] at h2
theorem copyLsN_run {W : World} {g : Nat} {r : RecI} (h : BR W g r) (hr : OkR r) {A : Option Addr} {n c : Nat} {l : List Nat} (hn : n ≤ 64) (hs : Reads W W.heap.size 1 A n (encN l)) :
    ∃ W', (Builtin.copy_ #[49, 49] 3 #[.slice (some ⟨g, 8, none⟩) 64 64, .slice A n c]).run Tryz.prog W = .ok (goInt (n : Nat)) W' ∧ BR W' g { r with ls := l ++ r.ls.drop n } ∧ But g W W' := by
  have hl := hs.lenN
  rcases Nat.eq_zero_or_pos n with h0 | h0
  · subst h0
    obtain rfl : l = [] := List.eq_nil_of_length_eq_zero hl
    refine ⟨W, run_copy_none W _ _ _ _ _ _ _ _ _ _ Tryz.underlying49 sizeInt (by rfl), ?_, But.refl _ _⟩
    simpa using h
  · obtain ⟨b, o, rfl, _, hc⟩ := hs.2 h0
    have hlen : (encN l).length = n := by rw [encN_length, hl]
    have := run_copy_row (P := Tryz.prog) W 49 49 3 3 g 8 64 64 ⟨b, o, none⟩ n c (cellsR r).toArray _ (encN l) Tryz.underlying49 sizeInt h (by rw [hlen]; show n = min n 64; omega) (fun j v hv => by rw [Addr.add_mid]; exact hc j v hv) (by rw [hlen, List.size_toArray, cellsR_length hr]; omega) (encN_one _)
    rw [hlen] at this
    refine ⟨_, this, ?_, But.setRow _ _ _⟩
    have h2 := h.copyLs hr (l := l) (by rw [hl, hr.ls]; omega)
    rw [hlen] at h2
    rwa [hl] at h2

def restV (m : Nat) (l : List Nat) (g : Nat) : Value → World → Prop := fun v w => ∃ A2 c2, v = .slice A2 m c2 ∧ (∀ a, A2 = some a → a.block ≠ g) ∧ Reads w w.heap.size 1 A2 m (encN l)
theorem restV_out {m : Nat} {l : List Nat} {g : Nat} {v : Value} {w : World} (h : restV m l g v w) : ∃ x : Option Addr × Nat, v = .slice x.1 m x.2 ∧ Reads w w.heap.size 1 x.1 m (encN l) := by
  obtain ⟨A2, c2, e, _, hr⟩ := h
  exact ⟨(A2, c2), e, hr⟩
theorem restV.but {m : Nat} {l : List Nat} {g : Nat} {v : Value} {w w' : World} (h : restV m l g v w) (hb : But g w w') : restV m l g v w' := by
  obtain ⟨A2, c2, e, hne, hr⟩ := h
  exact ⟨A2, c2, e, hne, hr.but hb hne⟩
theorem Reads.drop {w : World} {B n k b o : Nat} {l : List Nat} (h : Reads w B 1 (some ⟨b, o, none⟩) n (encN l)) (hk : k ≤ n) : Reads w B 1 (some ⟨b, o + k, none⟩) (n - k) (encN (l.drop k)) :=
  ⟨by rw [encN_length, List.length_drop, h.lenN]; omega, fun hn => by
    obtain ⟨b', o', e, hlt, hc⟩ := h.2 (by omega)
    injection e with e
    injection e with e1 e2
    subst e1; subst e2
    refine ⟨b, o + k, rfl, hlt, fun j u hj => ?_⟩
    rw [Nat.add_assoc]
    refine hc (k + j) u ?_
    rw [show encN (l.drop k) = (encN l).drop k by simp [encN], List.getElem?_drop] at hj
    exact hj⟩
def nameV (g9 k : Nat) (A : Option Addr) (n c : Nat) (l : List Nat) : Nat → Value → World → Prop
  | 0 => eqV (.pointer (some ⟨g9, 8, none⟩))
  | 1 => eqV (.slice (some ⟨g9, 8, none⟩) 64 64)
  | 2 => eqV (.slice A n c)
  | 3 => eqV (.int .i64 (k : Int))
  | 4 => restV (n - k) (l.drop k) g9
  | _ => fun _ _ => True
theorem nameV_stable (g9 k : Nat) (A : Option Addr) (n c : Nat) (l : List Nat) (j : Nat) (v : Value) (w w' : World) (hs : But g9 w w') (h : nameV g9 k A n c l j v w) : nameV g9 k A n c l j v w' := by
  match j, h with
  | 0, h => exact h
  | 1, h => exact h
  | 2, h => exact h
  | 3, h => exact h
  | 4, h => exact restV.but h hs
  | _ + 5, _ => trivial

set_option maxRecDepth 100000 in
set_option maxHeartbeats 8000000 in
theorem naming_any (r : RecI) (hr : OkR r) (size : Nat) (hs : size < 4294967296) (ind : Nat) (hi : ind < 65536) (A : Option Addr) (n c : Nat) (l : List Nat) (w : World) (h : Reads w w.heap.size 1 A n (encN l)) (hn : n ≤ 68) (hc : n ≤ c) (hA : (A = none ∧ c = 0) ∨ ∃ b o, A = some ⟨b, o, none⟩ ∧ b < w.heap.size) :
    Calls Tryz.prog 82 #[valR r, .int .i64 size, .slice A n c, .int .i64 ind] w fun e w' => e = .returned (valR (nameR r size l ind)) ∧ Below w.heap.size w w' := by
  have hmx : Tryz.prog.follows .mixedOrders = true := by kernel_rfl
  have hz := fun W => zero_run W
  have HR := Lib.hid hr
  have H := Lib.hid h
  have HL := Lib.hid h.lenN
  have hnum := hr.num
  have B1 := ((BR.new w r).alloc (.cells (cellsR (zeroR 0)).toArray 62))
  have hcn := B1.num
  clear h hr
  unfold valR
  go_enter Tryz.func82, Tryz.ntmps82
  go_upto_region 2 with (first | (refine wpList_built rfl _ _ rfl _ (built_num r.num) ?_) | (refine wpList_store_row rfl _ _ _ rfl (w.heap.size + 1 + 1) (cellsR (zeroR r.num)).toArray rfl rfl _ (cellsR (zeroR 0)).toArray (by simpa using heap_alloc_new ((w.alloc (.cells (cellsR r).toArray 62)).alloc (.cells (cellsR (zeroR 0)).toArray 62)) _) (by rw [List.size_toArray, cellsR_length (zeroR_ok hnum)]; exact sizeR) (by rw [List.size_toArray, List.size_toArray, cellsR_length (zeroR_ok hnum), cellsR_length (zeroR_ok (by omega))]) (all_oneCell_toArray (cellsR_one _)) ?_))
  have B9 : BR ((((w.alloc (.cells (cellsR r).toArray 62)).alloc (.cells (cellsR (zeroR 0)).toArray 62)).alloc (.cells (cellsR (zeroR 0)).toArray 62)).setRow (w.heap.size + 1 + 1) (cellsR (zeroR r.num)).toArray) (w.heap.size + 1 + 1) (zeroR r.num) := by
    have := (BR.new ((w.alloc (.cells (cellsR r).toArray 62)).alloc (.cells (cellsR (zeroR 0)).toArray 62)) (zeroR 0)).setRow (zeroR r.num)
    simpa using this
  have B8 : BR ((((w.alloc (.cells (cellsR r).toArray 62)).alloc (.cells (cellsR (zeroR 0)).toArray 62)).alloc (.cells (cellsR (zeroR 0)).toArray 62)).setRow (w.heap.size + 1 + 1) (cellsR (zeroR r.num)).toArray) (w.heap.size + 1) (zeroR 0) := by
    have := ((BR.new (w.alloc (.cells (cellsR r).toArray 62)) (zeroR 0)).alloc (.cells (cellsR (zeroR 0)).toArray 62)).but (But.setRow _ (w.heap.size + 1 + 1) (cellsR (zeroR r.num)).toArray) (by simp)
    simpa using this
  have B4 := ((B1.alloc (.cells (cellsR (zeroR 0)).toArray 62)).but (But.setRow _ (w.heap.size + 1 + 1) (cellsR (zeroR r.num)).toArray) (by omega))
  have bb : Below w.heap.size w ((((w.alloc (.cells (cellsR r).toArray 62)).alloc (.cells (cellsR (zeroR 0)).toArray 62)).alloc (.cells (cellsR (zeroR 0)).toArray 62)).setRow (w.heap.size + 1 + 1) (cellsR (zeroR r.num)).toArray) := ((((Below.refl _ w).alloc (Nat.le_refl _) _).alloc (by simp) _).alloc (by simp; omega) _).trans ((But.setRow _ (w.heap.size + 1 + 1) _).to_below (by omega) (by simp; omega))
  generalize ((((w.alloc (.cells (cellsR r).toArray 62)).alloc (.cells (cellsR (zeroR 0)).toArray 62)).alloc (.cells (cellsR (zeroR 0)).toArray 62)).setRow (w.heap.size + 1 + 1) (cellsR (zeroR r.num)).toArray) = w1 at B9 B8 B4 bb ⊢
  clear hz B1 hcn
  obtain ⟨g9, hg9⟩ : ∃ g9, g9 = w.heap.size + 1 + 1 := ⟨_, rfl⟩
  rw [← hg9] at B9 ⊢
  obtain ⟨g8, hg8⟩ : ∃ g8, g8 = w.heap.size + 1 := ⟨_, rfl⟩
  rw [← hg8] at B8 ⊢
  obtain ⟨g4, hg4⟩ : ∃ g4, g4 = w.heap.size := ⟨_, rfl⟩
  rw [← hg4] at B4 ⊢
  have HG : Hid (g4 = w.heap.size ∧ g8 = w.heap.size + 1 ∧ g9 = w.heap.size + 2) := Lib.hid ⟨hg4, hg8, by omega⟩
  have hne : g9 ≠ g4 := by omega
  have hne2 : g4 ≠ g9 := by omega
  clear hg9 hg8 hg4
  have hc4 := B4.kind
  have hk9 := B9.kind
  have hs9 := B9.size
  have hi9 := B9.ind (zeroR_ok hnum)
  have hf1 := B9.free 1
  have hf2 := B9.free 2
  have hf7 := B9.free 7
  have S9 := (((B9.setKind r.kind).setSize size).setInd ⟨rfl, by simp [zeroR], hnum, HR.out.kind, hs, by simp [zeroR]⟩ ind)
  have bts : But g9 w1 (((w1.setCell ⟨g9, 1, none⟩ (.int .i64 (r.kind : Int))).setCell ⟨g9, 2, none⟩ (.int .i64 (size : Int))).setCell ⟨g9, 7, none⟩ (.int .i64 (ind : Int))) := ((But.set _ _ _ _).trans (But.set _ _ _ _)).trans (But.set _ _ _ _)
  have HS := Lib.hid (And.intro S9 (And.intro (B8.but bts (by have := HG.out; omega)) (bb.trans (bts.to_below (B := w.heap.size) (by have := HG.out; omega) bb.size))))
  clear B9 B8 B4 S9 bts bb
  go_upto_region 3 with fail
  generalize (((w1.setCell ⟨g9, 1, none⟩ (.int .i64 (r.kind : Int))).setCell ⟨g9, 2, none⟩ (.int .i64 (size : Int))).setCell ⟨g9, 7, none⟩ (.int .i64 (ind : Int))) = w2 at HS ⊢
  clear hc4 hk9 hs9 hi9 hf1 hf2 hf7
  obtain ⟨r2, hr2⟩ : ∃ r2 : RecI, r2 = { zeroR r.num with kind := r.kind, size := size, ind := ind } := ⟨_, rfl⟩
  have ok2 : OkR r2 := by rw [hr2]; exact ⟨rfl, by simp [zeroR], hnum, HR.out.kind, hs, hi⟩
  have HS : Hid (BR w2 g9 r2 ∧ BR w2 g8 (zeroR 0) ∧ Below w.heap.size w w2) := Lib.hid (by rw [hr2]; exact HS.out)
  obtain ⟨w3, hcp, hB3, hbt3⟩ := copyBlN_run HS.out.1 ok2 (A := A) (n := n) (c := c) (l := l) (H.out.step HS.out.2.2)
  have HS3 := Lib.hid (And.intro hB3 (And.intro (HS.out.2.1.but hbt3 (by have := HG.out; omega)) (HS.out.2.2.trans (hbt3.to_below (B := w.heap.size) (by have := HG.out; omega) HS.out.2.2.size))))
  have HR2 := Lib.hid (And.intro hr2 ok2)
  clear hB3 hbt3 hr2 ok2
  obtain ⟨k, hk⟩ : ∃ k, k = min n 4 := ⟨_, rfl⟩
  rw [← hk] at hcp HS3
  have hkn : (k : Int) ≤ (n : Int) := by omega
  have hkc : (k : Int) ≤ (c : Int) := by omega
  have hk0 : (0 : Int) ≤ (k : Int) := by omega
  have HK := Lib.hid hk
  have HA := Lib.hid hA
  clear hk hA
  go_wp2
  obtain ⟨r3, hr3⟩ : ∃ r : RecI, r = { r2 with bl := l.take 4 ++ r2.bl.drop k } := ⟨_, rfl⟩
  have ok3 : OkR r3 := by
    have h1 := HL.out
    have h2 := HK.out
    rw [hr3]
    exact ⟨by rw [List.length_append, List.length_take, List.length_drop, HR2.out.2.bl]; omega, HR2.out.2.ls, HR2.out.2.num, HR2.out.2.kind, HR2.out.2.size, HR2.out.2.ind⟩
  rw [← hr3] at HS3
  obtain ⟨r4, hr4⟩ : ∃ r : RecI, r = { r3 with ls := l.drop k ++ r3.ls.drop (n - k) } := ⟨_, rfl⟩
  have ok4 : OkR r4 := by
    have h1 := HL.out
    have h2 := HK.out
    rw [hr4]
    exact ⟨ok3.bl, by rw [List.length_append, List.length_drop, List.length_drop, ok3.ls]; omega, ok3.num, ok3.kind, ok3.size, ok3.ind⟩
  have HE : Hid (nameR r size l ind = r4) := Lib.hid (by
    have h1 := HL.out
    have h2 := HK.out
    rw [hr4, hr3, HR2.out.1]
    have e1 : padN 4 (l.take 4) = l.take 4 ++ ([0, 0, 0, 0] : List Nat).drop k := by
      unfold padN
      rw [List.length_take, show min 4 l.length = k by omega]
      rw [show ([0, 0, 0, 0] : List Nat) = List.replicate 4 0 from rfl, List.drop_replicate]
    have e2 : padN 64 ((l.drop 4).take 64) = l.drop k ++ (List.replicate 64 0).drop (n - k) := by
      unfold padN
      have e3 : (l.drop 4).take 64 = l.drop k := by
        rw [List.take_of_length_le (by rw [List.length_drop]; omega)]
        by_cases h : n ≤ 4
        · rw [List.drop_of_length_le (by omega), List.drop_of_length_le (by omega)]
        · rw [show k = 4 by omega]
      rw [e3, List.drop_replicate, List.length_drop, h1]
    unfold nameR zeroR
    simp only [e1, e2])
  have HK3 := Lib.hid (And.intro ok3 (And.intro ok4 hr4))
  clear hr3 hr4 ok3 ok4
  refine wp_region_rel2 (fun L w' => BR w' g9 (if L 5 = true then r4 else r3) ∧ But g9 w3 w') (fun i w w' => But g9 w w' ∧ (i ≠ 5 → Below w.heap.size w w') ∧ (i = 5 → BR w' g9 r4)) (nameV g9 k A n c l) hmx (by kernel_rfl) ⟨by rw [if_neg (by decide)]; exact HS3.out.1, But.of_below (Below.refl _ _).drew _⟩ (fun i L w w' hi hC hs => by
    by_cases h9 : i = 5
    · have h2 := hs.2.2 h9
      subst h9
      exact ⟨by rw [if_pos (by simp)]; exact h2, hC.2.trans hs.1⟩
    · have h1 := hs.2.1 h9
      refine ⟨?_, hC.2.trans hs.1⟩
      have e : (if (5 : Nat) = i then true else L 5) = L 5 := if_neg (Ne.symm h9)
      show BR w' g9 (if (if (5 : Nat) = i then true else L 5) = true then _ else _)
      rw [e]
      exact hC.1.step h1) (fun i j v w w' _ hs h => nameV_stable g9 k A n c l j v w w' hs.1 h) ?_ ?_
  · refine ⟨?_, ?_, ?_, ?_, ?_, ?_, trivial⟩
    · intro V L W hL hC hd K hK
      clear hd
      simp only [laidL, Act.put, List.setIfInBounds_toArray, List.set_cons_zero, List.set_cons_succ] at hK ⊢
      go_simp
      exact hK _ _ ⟨⟨But.refl _ _, fun _ => Below.refl _ _, fun h => absurd h (by decide)⟩, rfl⟩
    · intro V L W hL hC hd K hK
      have q0 : nameV g9 k A n c l 0 (V 0) W := hd.1
      have e0 : V 0 = .pointer (some ⟨g9, 8, none⟩) := q0
      clear q0
      clear hd
      simp only [laidL, Act.put, List.setIfInBounds_toArray, List.set_cons_zero, List.set_cons_succ] at hK ⊢
      generalize V 0 = v0 at e0 hK ⊢
      subst e0
      go_simp
      exact hK _ _ ⟨⟨But.refl _ _, fun _ => Below.refl _ _, fun h => absurd h (by decide)⟩, rfl⟩
    · intro V L W hL hC hd K hK
      clear hd
      simp only [laidL, Act.put, List.setIfInBounds_toArray, List.set_cons_zero, List.set_cons_succ] at hK ⊢
      go_simp
      exact hK _ _ ⟨⟨But.refl _ _, fun _ => Below.refl _ _, fun h => absurd h (by decide)⟩, rfl⟩
    · intro V L W hL hC hd K hK
      clear hd
      simp only [laidL, Act.put, List.setIfInBounds_toArray, List.set_cons_zero, List.set_cons_succ] at hK ⊢
      go_simp
      exact hK _ _ ⟨⟨But.refl _ _, fun _ => Below.refl _ _, fun h => absurd h (by decide)⟩, rfl⟩
    · intro V L W hL hC hd K hK
      have q2 : nameV g9 k A n c l 2 (V 2) W := hd.1
      have e2 : V 2 = .slice A n c := q2
      clear q2
      have q3 : nameV g9 k A n c l 3 (V 3) W := hd.2.1
      have e3 : V 3 = .int .i64 (k : Int) := q3
      clear q3
      clear hd
      simp only [laidL, Act.put, List.setIfInBounds_toArray, List.set_cons_zero, List.set_cons_succ] at hK ⊢
      generalize V 2 = v2 at e2 hK ⊢
      subst e2
      generalize V 3 = v3 at e3 hK ⊢
      subst e3
      rcases HA.out with ⟨eA, ec⟩ | ⟨b, o, eA, hb⟩
      · subst eA
        subst ec
        obtain rfl : n = 0 := by omega
        obtain rfl : k = 0 := by omega
        go_simp
        exact hK _ _ ⟨⟨But.refl _ _, fun _ => Below.refl _ _, fun h => absurd h (by decide)⟩, none, 0, rfl, fun a e => (by cases e), by rw [encN_length, List.length_drop, HL.out], fun h => absurd h (by omega)⟩
      · subst eA
        have hRd := (H.out.step HS3.out.2.2).but hC.2 (fun a e => by injection e with e; subst e; have := HG.out; show b ≠ g9; omega)
        have hkn2 : k ≤ n := by omega
        have HD := Lib.hid (hRd.drop hkn2)
        clear hRd hkn2
        by_cases hck : c = k
        · subst hck
          obtain rfl : n = c := by omega
          go_simp
          exact hK _ _ ⟨⟨But.refl _ _, fun _ => Below.refl _ _, fun h => absurd h (by decide)⟩, some ⟨b, o, none⟩, 0, by rw [Nat.sub_self], fun a e => by injection e with e; subst e; have := HG.out; show b ≠ g9; omega, by rw [encN_length, List.length_drop, HL.out]; omega, fun h => absurd h (by omega)⟩
        · go_simp
          exact hK _ _ ⟨⟨But.refl _ _, fun _ => Below.refl _ _, fun h => absurd h (by decide)⟩, _, _, rfl, fun a e => by injection e with e; subst e; have := HG.out; show b ≠ g9; omega, HD.out⟩
    · intro V L W hL hC hd K hK
      have q1 : nameV g9 k A n c l 1 (V 1) W := hd.1
      have e1 : V 1 = .slice (some ⟨g9, 8, none⟩) 64 64 := q1
      clear q1
      have q4 : nameV g9 k A n c l 4 (V 4) W := hd.2.1
      have q4 : restV (n - k) (l.drop k) g9 (V 4) W := q4
      have p4 := restV_out q4
      clear q4
      cases p4
      rename_i b4 hh
      have e4 := hh.1
      have h4 := hh.2
      clear hh
      clear hd
      simp only [laidL, Act.put, List.setIfInBounds_toArray, List.set_cons_zero, List.set_cons_succ] at hK ⊢
      generalize V 1 = v1 at e1 hK ⊢
      subst e1
      generalize V 4 = v4 at e4 hK ⊢
      subst e4
      have hB : BR W g9 r3 := by have h := hC.1; rwa [if_neg (by rw [hL]; decide)] at h
      obtain ⟨W2, hcp2, hB2, hbt⟩ := copyLsN_run hB HK3.out.1 (n := n - k) (c := b4.2) (A := b4.1) (l := l.drop k) (by have := HK.out; omega) h4
      rw [← HK3.out.2.2] at hB2
      go_simp
      exact hK _ _ ⟨⟨hbt, fun h => absurd rfl h, fun _ => hB2⟩, trivial⟩
  · intro V L w5 hL hC hV
    have hB5 := hC.1
    rw [if_pos (hL 5 (by decide))] at hB5
    have HB5 := Lib.hid (And.intro hB5 (And.intro (HS3.out.2.1.but hC.2 (by have := HG.out; omega)) (HS3.out.2.2.trans (hC.2.to_below (B := w.heap.size) (by have := HG.out; omega) HS3.out.2.2.size))))
    clear hL hC hV hB5
    simp only [laidL, Act.put, List.setIfInBounds_toArray, List.set_cons_zero, List.set_cons_succ]
    have BL := (HB5.out.2.1).setRow r4
    have hbl : Below w.heap.size w (w5.setRow g8 (cellsR r4).toArray) := HB5.out.2.2.trans ((But.setRow w5 g8 (cellsR r4).toArray).to_below (by have := HG.out; omega) HB5.out.2.2.size)
    have HX := Lib.hid (And.intro BL hbl)
    clear BL hbl
    go_wp2_with (first | (refine wpList_load_mid rfl _ _ rfl g9 0 rfl (cellsR r4) _ (HB5.out.1).range Tryz.underlying62 rfl (by rw [cellsR_length HK3.out.2.1]; exact sizeR) ?_) | (refine wpList_store_row rfl _ _ _ rfl g8 (cellsR r4).toArray rfl rfl _ (cellsR (zeroR 0)).toArray HB5.out.2.1 (by rw [List.size_toArray, cellsR_length HK3.out.2.1]; exact sizeR) (by rw [List.size_toArray, List.size_toArray, cellsR_length HK3.out.2.1, cellsR_length (zeroR_ok (by omega))]) (all_oneCell_toArray (cellsR_one _)) ?_))
    have hlv := HX.out.1.loadVar HK3.out.2.1
    rw [HE.out]
    exact bodyPost_ret (v := valR r4) (results_rec rfl _ rfl hlv) rfl ⟨rfl, HX.out.2⟩

end Go.Proofs.YtpdfkakhahfcjaaGreat

/-
  An inode got; one that is not free.
-/
namespace Go.Proofs.YtpdfkakhahfcjaaGreat
open Go.RowKit

theorem built7 : Tryz.prog.built 47 [] = some (cellsI (zeroR 0)).toArray := by kernel_rfl
theorem info7 : (Tryz.prog.info? 47).map (fun i => (i.zero, i.size)) = some (some (.agg (cellsI (zeroR 0)).toArray), 7) := by kernel_rfl
theorem cellsI_part {r : RecI} (h : OkR r) : (cellsR r).toArray.extract 1 8 = (cellsI r).toArray := by
  have hl := cellsI_length h
  apply Array.ext'
  rw [Array.toList_extract]
  show ((cellsR r).drop 1).take 7 = cellsI r
  show ((cellsI r ++ encN r.ls)).take 7 = cellsI r
  rw [List.take_append_of_le_length (by omega), List.take_of_length_le (by omega)]
theorem okz : OkR (zeroR 0) := zeroR_ok (by omega)
theorem sizeI {r : RecI} (h : OkR r) : (Tryz.prog.info? 47).map (·.size) = some (cellsI r).toArray.size := by rw [List.size_toArray, cellsI_length h]; exact sizeIn
theorem holdI {r r' : RecI} (h : OkR r) (h' : OkR r') : (cellsI r).toArray.size = (cellsI r').toArray.size := by rw [List.size_toArray, List.size_toArray, cellsI_length h, cellsI_length h']
/-- The block g is an inode's variable. -/
def BI (w : World) (g : Nat) (r : RecI) : Prop := w.heap[g]? = some (.cells (cellsI r).toArray 47 (0, 0))
theorem BI.loadVar {w : World} {g : Nat} {r : RecI} (h : BI w g r) (hr : OkR r) : (Go.loadVar 47 ⟨g, 0, none⟩).run Tryz.prog w = .ok (valI r) w :=
  run_loadVar_mid w g 0 47 (cellsI r) _ (fun j v hv => by
    unfold BI at h
    rw [Nat.zero_add]
    simp [World.cell?, h, hv]) Tryz.underlying47 rfl (by rw [cellsI_length hr]; exact sizeIn)
theorem BI.new (w : World) (r : RecI) : BI (w.alloc (.cells (cellsI r).toArray 47)) w.heap.size r := heap_alloc_new w _
theorem BI.setRow {w : World} {g : Nat} {r : RecI} (h : BI w g r) (r' : RecI) : BI (w.setRow g (cellsI r').toArray) g r' := by
  unfold BI at h ⊢
  exact setRow_heap w g _ _ _ _ h
theorem field_run {r : RecI} (h : OkR r) (W : World) : (Instr.field 62 (.agg (cellsR r).toArray) 1).run Tryz.prog W = .ok (.agg (cellsI r).toArray) W := by
  have hl := cellsI_length h
  have hp : List.take 7 (cellsR r).tail = cellsI r := by
    show (cellsI r ++ encN r.ls).take 7 = cellsI r
    rw [List.take_append_of_le_length (by omega), List.take_of_length_le (by omega)]
  simp [Instr.field, run_underlying Tryz.underlying62, asAgg, part, Tryz.isAgg47, Tryz.sizeOf47, hp]
/-- What Get tells: the inode and the error. -/
def getI (img : List ByteArray) (i : Int) : RecI × Int := if i < 0 ∨ (cntA img.length : Int) ≤ i then (zeroR 0, 15) else (recI img i.toNat, 0)
def GetP (w : World) (x : RecI × Int) (e : Ending) (w' : World) : Prop := e = .returned (.tuple #[valI x.1, .int .i64 x.2]) ∧ Below w.heap.size w w'

set_option maxRecDepth 100000 in
set_option maxHeartbeats 4000000 in
theorem get_any (A : Option Addr) (n c : Nat) (img : List ByteArray) (i : Int) (w : World) (h : Reads w w.heap.size 1 A n (encS img)) (hn : n ≤ 512) :
    Calls Tryz.prog 72 #[.slice A n c, .int .i64 i] w (GetP w (getI img i)) := by
  have hz := (zero_of_info info7).1
  have ci := fun W => inodes_any A n c (by unfold maxLen; omega) W
  have hl := h.lenS
  have hcn : cntA n ≤ 128 := by unfold cntA; omega
  have HG : Hid (getI img i = if i < 0 ∨ (cntA n : Int) ≤ i then (zeroR 0, 15) else (recI img i.toNat, 0)) := Lib.hid (by unfold getI; rw [hl])
  have H := Lib.hid h
  generalize cntA n = C at ci HG hcn
  clear h hl
  by_cases h0 : i < 0
  · have hd0 : decide (i < 0) = true := decide_eq_true h0
    have HE : Hid (getI img i = (zeroR 0, 15)) := Lib.hid (by rw [HG.out, if_pos (.inl h0)])
    go_enter Tryz.func72, Tryz.ntmps72
    go_wp2_with (first | (refine wpList_built rfl _ _ rfl _ built7 ?_) | (refine wpList_store_row rfl _ _ _ rfl w.heap.size (cellsI (zeroR 0)).toArray rfl rfl _ (cellsI (zeroR 0)).toArray (heap_alloc_new w _) (sizeI okz) (holdI okz okz) (all_oneCell_toArray (cellsI_one _)) ?_) | (go_at_call 32; refine (ci _).mono ?_; rintro e w2 ⟨rfl, rfl⟩))
    have HX := Lib.hid (And.intro ((BI.new w (zeroR 0)).setRow (zeroR 0)) (((Below.refl w.heap.size w).alloc (Nat.le_refl _) (.cells (cellsI (zeroR 0)).toArray 47)).trans (below_setRow _ (Nat.le_refl _) (cellsI (zeroR 0)).toArray)))
    have hlv := HX.out.1.loadVar okz
    rw [HE.out]
    exact bodyPost_ret (v := .tuple #[valI (zeroR 0), .int .i64 15]) (results_rec2 rfl _ rfl rfl hlv) rfl ⟨rfl, HX.out.2⟩
  have hd0 : decide (i < 0) = false := decide_eq_false h0
  obtain ⟨k, rfl⟩ : ∃ k : Nat, i = k := ⟨i.toNat, by omega⟩
  by_cases h1 : C ≤ k
  · have h1i : (C : Int) ≤ (k : Int) := by omega
    have h1d : decide ((C : Int) ≤ (k : Int)) = true := decide_eq_true h1i
    have h1n : decide (C ≤ k) = true := decide_eq_true h1
    have HE : Hid (getI img k = (zeroR 0, 15)) := Lib.hid (by rw [HG.out, if_pos (.inr h1i)])
    go_enter Tryz.func72, Tryz.ntmps72
    go_wp2_with (first | (refine wpList_built rfl _ _ rfl _ built7 ?_) | (refine wpList_store_row rfl _ _ _ rfl w.heap.size (cellsI (zeroR 0)).toArray rfl rfl _ (cellsI (zeroR 0)).toArray (heap_alloc_new w _) (sizeI okz) (holdI okz okz) (all_oneCell_toArray (cellsI_one _)) ?_) | (go_at_call 32; refine (ci _).mono ?_; rintro e w2 ⟨rfl, rfl⟩))
    have HX := Lib.hid (And.intro ((BI.new w (zeroR 0)).setRow (zeroR 0)) (((Below.refl w.heap.size w).alloc (Nat.le_refl _) (.cells (cellsI (zeroR 0)).toArray 47)).trans (below_setRow _ (Nat.le_refl _) (cellsI (zeroR 0)).toArray)))
    have hlv := HX.out.1.loadVar okz
    rw [HE.out]
    exact bodyPost_ret (v := .tuple #[valI (zeroR 0), .int .i64 15]) (results_rec2 rfl _ rfl rfl hlv) rfl ⟨rfl, HX.out.2⟩
  · have h1i : ¬ (C : Int) ≤ (k : Int) := by omega
    have h1d : decide ((C : Int) ≤ (k : Int)) = false := decide_eq_false h1i
    have h1n : decide (C ≤ k) = false := decide_eq_false h1
    have HE : Hid (getI img k = (recI img k, 0)) := Lib.hid (by rw [HG.out, if_neg (by omega), Int.toNat_natCast])
    have hk : k ≤ 1024 := by omega
    have HOK := Lib.hid (recI_ok img k hk)
    have hfr := fun W => field_run (recI_ok img k hk) W
    have cl := load_any A n c img k hk (w.alloc (.cells (cellsI (zeroR 0)).toArray 47)) (H.out.alloc _)
    unfold valR at cl
    generalize recI img k = r at HE HOK hfr cl
    go_enter Tryz.func72, Tryz.ntmps72
    go_wp2_with (go_at_call 32; refine (ci _).mono ?_; rintro e w2 ⟨rfl, rfl⟩)
    refine cl.mono ?_
    rintro e w3 ⟨rfl, hb3⟩
    have hh := (hb3.block w.heap.size (by simp)).trans (heap_alloc_new w _)
    have hbb := ((Below.refl w.heap.size w).alloc (Nat.le_refl _) (.cells (cellsI (zeroR 0)).toArray 47)).trans (hb3.mono (by simp))
    have HB := Lib.hid (And.intro (show BI w3 w.heap.size (zeroR 0) from hh) hbb)
    clear hb3 hbb cl
    go_wp2_with (refine wpList_store_row rfl _ _ _ rfl w.heap.size (cellsI r).toArray rfl rfl _ (cellsI (zeroR 0)).toArray (hh) (sizeI HOK.out) (holdI okz HOK.out) (all_oneCell_toArray (cellsI_one _)) ?_)
    have HX := Lib.hid (And.intro ((HB.out.1).setRow r) (HB.out.2.trans (below_setRow w3 (Nat.le_refl _) (cellsI r).toArray)))
    have hlv := HX.out.1.loadVar HOK.out
    rw [HE.out]
    exact bodyPost_ret (v := .tuple #[valI r, .int .i64 0]) (results_rec2 rfl _ rfl rfl hlv) rfl ⟨rfl, HX.out.2⟩

end Go.Proofs.YtpdfkakhahfcjaaGreat

/-
  An inode that is not free; all blocks of one.
-/
namespace Go.Proofs.YtpdfkakhahfcjaaGreat
open Go.RowKit

theorem built0 : Tryz.prog.built 62 [] = some (cellsR (zeroR 0)).toArray := built_no
theorem sizeRr {r : RecI} (h : OkR r) : (Tryz.prog.info? 62).map (·.size) = some (cellsR r).toArray.size := by rw [List.size_toArray, cellsR_length h]; exact sizeR
theorem holdR {r r' : RecI} (h : OkR r) (h' : OkR r') : (cellsR r).toArray.size = (cellsR r').toArray.size := by rw [List.size_toArray, List.size_toArray, cellsR_length h, cellsR_length h']
theorem BI.kind {w : World} {g : Nat} {r : RecI} (h : BI w g r) : w.cell? ⟨g, 0, none⟩ = some (.int .i64 (r.kind : Int)) := by
  unfold BI at h
  simp [World.cell?, h, cellsI]
/-- What held tells. -/
def heldI (img : List ByteArray) (i : Int) : RecI × Int := if (getI img i).2 ≠ 0 then (zeroR 0, 15) else if (getI img i).1.kind = 0 then (zeroR 0, 20) else (recI img i.toNat, 0)
def HeldP (w : World) (x : RecI × Int) (e : Ending) (w' : World) : Prop := e = .returned (.tuple #[valR x.1, .int .i64 x.2]) ∧ Below w.heap.size w w'
theorem getI_ok (img : List ByteArray) (i : Int) (hn : img.length ≤ 512) : OkR (getI img i).1 ∧ ((getI img i).2 = 15 ∨ ((getI img i).2 = 0 ∧ 0 ≤ i ∧ i ≤ 1024 ∧ (getI img i).1 = recI img i.toNat)) := by
  unfold getI
  split
  · exact ⟨okz, .inl rfl⟩
  · next h =>
    have hc : cntA img.length ≤ 128 := by unfold cntA; omega
    exact ⟨recI_ok _ _ (by omega), .inr ⟨rfl, by omega, by omega, rfl⟩⟩

set_option maxRecDepth 100000 in
set_option maxHeartbeats 8000000 in
theorem held_any (A : Option Addr) (n c : Nat) (img : List ByteArray) (i : Int) (w : World) (h : Reads w w.heap.size 1 A n (encS img)) (hn : n ≤ 512) :
    Calls Tryz.prog 38 #[.slice A n c, .int .i64 i] w (HeldP w (heldI img i)) := by
  have hz := fun W => zero_run W
  have hz7 := (zero_of_info info7).1
  have hl := h.lenS
  have H := Lib.hid h
  have hok := getI_ok img i (by omega)
  have cg : Calls Tryz.prog 72 #[.slice A n c, .int .i64 i] (w.alloc (.cells (cellsR (zeroR 0)).toArray 62)) fun e w' => e = .returned (.tuple #[.agg (cellsI (getI img i).1).toArray, .int .i64 (getI img i).2]) ∧ Below (w.alloc (.cells (cellsR (zeroR 0)).toArray 62)).heap.size (w.alloc (.cells (cellsR (zeroR 0)).toArray 62)) w' := get_any A n c img i _ (h.alloc _) hn
  have cl := fun (k : Nat) (hk : k ≤ 1024) W hW => load_any A n c img k hk W hW
  unfold valR at cl
  have HH : Hid (heldI img i = if (getI img i).2 ≠ 0 then (zeroR 0, 15) else if (getI img i).1.kind = 0 then (zeroR 0, 20) else (recI img i.toNat, 0)) := Lib.hid rfl
  have HRI := Lib.hid (fun (k : Nat) (hk : k ≤ 1024) => recI_ok img k hk)
  clear h hl
  generalize getI img i = x at hok cg HH
  obtain ⟨r, ec⟩ := x
  obtain ⟨hr, hec⟩ := hok
  dsimp only at hr hec cg HH
  have HR := Lib.hid hr
  clear hr
  have B0 := BR.new w (zeroR 0)
  have hb0 := (Below.refl w.heap.size w).alloc (Nat.le_refl _) (.cells (cellsR (zeroR 0)).toArray 62)
  rcases hec with rfl | ⟨rfl, hi0, hi1, hri⟩
  · have HE : Hid (heldI img i = (zeroR 0, 15)) := Lib.hid (by rw [HH.out, if_pos (by decide)])
    go_enter Tryz.func38, Tryz.ntmps38
    go_wp2_with fail
    refine cg.mono ?_
    rintro e w1 ⟨rfl, hb1⟩
    have B1 := B0.step hb1
    have bb1 := hb0.trans (hb1.mono (by simp))
    have hh1 := heap_alloc_new w1 (.cells (cellsI (zeroR 0)).toArray 47)
    have BI2 := (show BI (w1.alloc (.cells (cellsI (zeroR 0)).toArray 47)) w1.heap.size (zeroR 0) from hh1).setRow r
    have hk2 := BI2.kind
    have bts : But w1.heap.size w1 ((w1.alloc (.cells (cellsI (zeroR 0)).toArray 47)).setRow w1.heap.size (cellsI r).toArray) := (But.of_below ((Below.refl _ _).alloc (Nat.le_refl _) _) _).trans (But.setRow _ _ _)
    have hne : w.heap.size ≠ w1.heap.size := by have := B1.lt; omega
    have B2 := B1.but bts hne
    have bb2 := bb1.trans (bts.to_below (B := w.heap.size) (by have := B1.lt; omega) bb1.size)
    clear bts hb1 cg bb1
    go_wp2_with (first | (refine wpList_built rfl _ _ rfl _ built0 ?_) | (refine wpList_store_row rfl _ _ _ rfl w1.heap.size (cellsI r).toArray rfl rfl _ (cellsI (zeroR 0)).toArray hh1 (sizeI HR.out) (holdI okz HR.out) (all_oneCell_toArray (cellsI_one _)) ?_) | (refine wpList_store_row rfl _ _ _ rfl w.heap.size (cellsR (zeroR 0)).toArray rfl rfl _ (cellsR (zeroR 0)).toArray (B2) (sizeRr okz) (holdR okz okz) (all_oneCell_toArray (cellsR_one _)) ?_))
    have HX := Lib.hid (And.intro (B2.setRow (zeroR 0)) (bb2.trans (below_setRow ((w1.alloc (.cells (cellsI (zeroR 0)).toArray 47)).setRow w1.heap.size (cellsI r).toArray) (Nat.le_refl _) (cellsR (zeroR 0)).toArray)))
    have hlv := HX.out.1.loadVar okz
    rw [HE.out]
    exact bodyPost_ret (v := .tuple #[valR (zeroR 0), .int .i64 15]) (results_rec2 rfl _ rfl rfl hlv) rfl ⟨rfl, HX.out.2⟩
  clear hri
  obtain ⟨k, rfl⟩ : ∃ k : Nat, i = k := ⟨i.toNat, by omega⟩
  by_cases hkz : r.kind = 0
  · have HE : Hid (heldI img k = (zeroR 0, 20)) := Lib.hid (by rw [HH.out, if_neg (by decide), if_pos hkz])
    have hkb : ((r.kind : Int) == 0) = true := by rw [hkz]; rfl
    clear hkz
    go_enter Tryz.func38, Tryz.ntmps38
    go_wp2_with fail
    refine cg.mono ?_
    rintro e w1 ⟨rfl, hb1⟩
    have B1 := B0.step hb1
    have bb1 := hb0.trans (hb1.mono (by simp))
    have hh1 := heap_alloc_new w1 (.cells (cellsI (zeroR 0)).toArray 47)
    have BI2 := (show BI (w1.alloc (.cells (cellsI (zeroR 0)).toArray 47)) w1.heap.size (zeroR 0) from hh1).setRow r
    have hk2 := BI2.kind
    have bts : But w1.heap.size w1 ((w1.alloc (.cells (cellsI (zeroR 0)).toArray 47)).setRow w1.heap.size (cellsI r).toArray) := (But.of_below ((Below.refl _ _).alloc (Nat.le_refl _) _) _).trans (But.setRow _ _ _)
    have hne : w.heap.size ≠ w1.heap.size := by have := B1.lt; omega
    have B2 := B1.but bts hne
    have bb2 := bb1.trans (bts.to_below (B := w.heap.size) (by have := B1.lt; omega) bb1.size)
    clear bts hb1 cg bb1
    go_wp2_with (first | (refine wpList_built rfl _ _ rfl _ built0 ?_) | (refine wpList_store_row rfl _ _ _ rfl w1.heap.size (cellsI r).toArray rfl rfl _ (cellsI (zeroR 0)).toArray hh1 (sizeI HR.out) (holdI okz HR.out) (all_oneCell_toArray (cellsI_one _)) ?_) | (refine wpList_store_row rfl _ _ _ rfl w.heap.size (cellsR (zeroR 0)).toArray rfl rfl _ (cellsR (zeroR 0)).toArray (B2) (sizeRr okz) (holdR okz okz) (all_oneCell_toArray (cellsR_one _)) ?_))
    have HX := Lib.hid (And.intro (B2.setRow (zeroR 0)) (bb2.trans (below_setRow ((w1.alloc (.cells (cellsI (zeroR 0)).toArray 47)).setRow w1.heap.size (cellsI r).toArray) (Nat.le_refl _) (cellsR (zeroR 0)).toArray)))
    have hlv := HX.out.1.loadVar okz
    rw [HE.out]
    exact bodyPost_ret (v := .tuple #[valR (zeroR 0), .int .i64 20]) (results_rec2 rfl _ rfl rfl hlv) rfl ⟨rfl, HX.out.2⟩
  · have hkl : k ≤ 1024 := by omega
    have HE : Hid (heldI img k = (recI img k, 0)) := Lib.hid (by rw [HH.out, if_neg (by decide), if_neg hkz, Int.toNat_natCast])
    have hkb : ((r.kind : Int) == 0) = false := by rw [beq_eq_false_iff_ne]; omega
    clear hkz
    go_enter Tryz.func38, Tryz.ntmps38
    go_wp2_with fail
    refine cg.mono ?_
    rintro e w1 ⟨rfl, hb1⟩
    have B1 := B0.step hb1
    have bb1 := hb0.trans (hb1.mono (by simp))
    have hh1 := heap_alloc_new w1 (.cells (cellsI (zeroR 0)).toArray 47)
    have BI2 := (show BI (w1.alloc (.cells (cellsI (zeroR 0)).toArray 47)) w1.heap.size (zeroR 0) from hh1).setRow r
    have hk2 := BI2.kind
    have bts : But w1.heap.size w1 ((w1.alloc (.cells (cellsI (zeroR 0)).toArray 47)).setRow w1.heap.size (cellsI r).toArray) := (But.of_below ((Below.refl _ _).alloc (Nat.le_refl _) _) _).trans (But.setRow _ _ _)
    have hne : w.heap.size ≠ w1.heap.size := by have := B1.lt; omega
    have B2 := B1.but bts hne
    have bb2 := bb1.trans (bts.to_below (B := w.heap.size) (by have := B1.lt; omega) bb1.size)
    clear bts hb1 cg bb1
    go_wp2_with (refine wpList_store_row rfl _ _ _ rfl w1.heap.size (cellsI r).toArray rfl rfl _ (cellsI (zeroR 0)).toArray hh1 (sizeI HR.out) (holdI okz HR.out) (all_oneCell_toArray (cellsI_one _)) ?_)
    refine (cl k hkl _ (H.out.step bb2)).mono ?_
    rintro e w3 ⟨rfl, hb3⟩
    have HOK := Lib.hid (HRI.out k hkl)
    have B3 := B2.step hb3
    have bb3 := bb2.trans (hb3.mono bb2.size)
    generalize recI img k = r5 at HOK HE
    go_wp2_with (refine wpList_store_row rfl _ _ _ rfl w.heap.size (cellsR r5).toArray rfl rfl _ (cellsR (zeroR 0)).toArray (B3) (sizeRr HOK.out) (holdR okz HOK.out) (all_oneCell_toArray (cellsR_one _)) ?_)
    have HX := Lib.hid (And.intro (B3.setRow r5) (bb3.trans (below_setRow w3 (Nat.le_refl _) (cellsR r5).toArray)))
    have hlv := HX.out.1.loadVar HOK.out
    rw [HE.out]
    exact bodyPost_ret (v := .tuple #[valR r5, .int .i64 0]) (results_rec2 rfl _ rfl rfl hlv) rfl ⟨rfl, HX.out.2⟩

end Go.Proofs.YtpdfkakhahfcjaaGreat

/-
  The document's own answer: how many blocks, an inode's bytes.
-/
namespace Go.Proofs.YtpdfkakhahfcjaaGreat
open Go.RowKit

set_option maxRecDepth 100000 in
theorem refNeeds_any (n : Nat) (hn : n ≤ 4611686018427387904) (w : World) : Calls Tryz.prog 24 #[.int .i64 n] w fun e w' => e = .returned (.int .i64 (needN n : Nat)) ∧ w = w' := by
  go_enter Tryz.func24, Tryz.ntmps24
  go_wp2
  go_ret
  exact ⟨congrArg (fun z => Ending.returned (Value.int .i64 z)) (by unfold needN; omega), rfl⟩

theorem blkI_of {img : List ByteArray} (h : FitA img) {i : Nat} (hi : i < img.length) : blkI img i = blk img i := by
  have e : blk img i = img[i] := by unfold blk; rw [List.getD_eq_getElem?_getD, List.getElem?_eq_getElem hi]; rfl
  exact if_pos ⟨hi, by rw [e]; exact h.2.1 _ (List.getElem_mem hi)⟩
theorem inode_at {n i : Nat} (h8 : 8 ≤ n) (h5 : n ≤ 512) (hi : i < cntA n) : 2 + i / 4 < n := by
  have h1 := first_le h8 h5
  have h2 := cnt_mod n
  have h3 : firstA n = 2 + cntA n / 4 := rfl
  omega

set_option maxRecDepth 100000 in
theorem refRaw_any (A : Option Addr) (n c : Nat) (img : List ByteArray) (i : Nat) (w : World) (h : Reads w w.heap.size 1 A n (encS img)) (hf : FitA img) (hi : i < cntA n) :
    Calls Tryz.prog 19 #[.slice A n c, .int .i64 i] w fun e w' => e = .returned (.string (rawI img i)) ∧ w = w' := by
  have hl := h.lenS
  have h8 : 8 ≤ n := by have := hf.1; omega
  have h5 : n ≤ 512 := by have := hf.1; omega
  have hat := inode_at h8 h5 hi
  have hC := (first_le h8 h5).2.2.2.1
  have hsz : (blk img (2 + i / 4)).size = 128 := by rw [← blkI_of hf (by omega)]; exact blkI_size _ _
  have hr : rawI img i = (blk img (2 + i / 4)).extract (32 * (i % 4)) (32 * (i % 4) + 32) := by unfold rawI; rw [blkI_of hf (by omega)]
  obtain ⟨b, o, rfl, hb, hc⟩ := h.str hat
  rw [hr]
  clear h hf hr
  generalize blk img (2 + i / 4) = s at hc hsz ⊢
  have h4 : (i : Int).tmod 4 = ((i % 4 : Nat) : Int) := by rw [Int.tmod_eq_emod_of_nonneg (by omega)]; omega
  have h4e : (i : Int) % 4 = ((i % 4 : Nat) : Int) := by omega
  have hd : (i : Int).tdiv 4 = ((i / 4 : Nat) : Int) := by rw [Int.tdiv_eq_ediv_of_nonneg (by omega)]; omega
  have hde : (i : Int) / 4 = ((i / 4 : Nat) : Int) := by omega
  have hm4 : i % 4 < 4 := Nat.mod_lt _ (by omega)
  have hj : i / 4 ≤ 1024 := by omega
  generalize i % 4 = m at *
  generalize i / 4 = j at *
  have hw1 : IntKind.i64.wrap (2 + (j : Int)) = 2 + (j : Int) := by rw [IntKind.wrap_i64]; omega
  have hw2 : (2 + (j : Int)).toNat = 2 + j := by omega
  have hw3 : (2 + (j : Int)) < (n : Int) := by omega
  have hw4 : (0 : Int) ≤ 2 + (j : Int) := by omega
  have hw5 : IntKind.i64.wrap (32 * (m : Int)) = 32 * (m : Int) := by rw [IntKind.wrap_i64]; omega
  have hw6 : IntKind.i64.wrap (32 * (m : Int) + 32) = 32 * (m : Int) + 32 := by rw [IntKind.wrap_i64]; omega
  have hw7 : (32 * (m : Int)).toNat = 32 * m := by omega
  have hw8 : (32 * (m : Int) + 32).toNat = 32 * m + 32 := by omega
  have hw9 : (0 : Int) ≤ 32 * (m : Int) := by omega
  have hw10 : 32 * (m : Int) ≤ 32 * (m : Int) + 32 := by omega
  have hw11 : 32 * (m : Int) + 32 ≤ (s.size : Int) := by omega
  go_enter Tryz.func19, Tryz.ntmps19
  go_wp2
  go_ret
  exact ⟨rfl, rfl⟩

theorem sub2 {l : List UInt8} {o : Nat} (h : o + 2 ≤ l.length) : (l.drop o).take 2 = [l.getD o 0, l.getD (o + 1) 0] := by
  rw [List.drop_eq_getElem_cons (by omega), List.drop_eq_getElem_cons (by omega)]
  simp only [List.take_succ_cons, List.take_zero, List.getD_eq_getElem?_getD, List.getElem?_eq_getElem (show o < l.length by omega), List.getElem?_eq_getElem (show o + 1 < l.length by omega), Option.getD_some]
theorem ext_toList (s : ByteArray) (a b : Nat) : (s.extract a b).data.toList = (s.data.toList.drop a).take (b - a) := by
  rw [ByteArray.data_extract, Array.toList_extract]
theorem neL_two {s : ByteArray} {o : Nat} (h : o + 2 ≤ s.size) : neL (s.extract o (o + 2)).data.toList = w2 s o := by
  have hl : s.data.toList.length = s.size := by simp
  rw [ext_toList, show o + 2 - o = 2 by omega, sub2 (by omega)]
  unfold neL w2 byA
  simp only [List.foldl_cons, List.foldl_nil]
  omega
theorem neL_four {s : ByteArray} {o : Nat} (h : o + 4 ≤ s.size) : neL (s.extract o (o + 4)).data.toList = 65536 * w2 s o + w2 s (o + 2) := by
  have hl : s.data.toList.length = s.size := by simp
  have e : (s.data.toList.drop o).take 4 = [s.data.toList.getD o 0, s.data.toList.getD (o + 1) 0, s.data.toList.getD (o + 2) 0, s.data.toList.getD (o + 3) 0] := by
    rw [show 4 = 2 + 2 by rfl, List.take_add, sub2 (by omega), List.drop_drop, sub2 (by omega)]; rfl
  rw [ext_toList, show o + 4 - o = 4 by omega, e]
  unfold neL w2 byA
  simp only [List.foldl_cons, List.foldl_nil, Nat.add_assoc, Nat.reduceAdd]
  omega

section
variable {w w' : World} {g : Nat} {r : RecI}
theorem BI.lt (h : BI w g r) : g < w.heap.size := (Array.getElem?_eq_some_iff.1 h).1
theorem BI.step (h : BI w g r) (hb : Below w.heap.size w w') : BI w' g r := (hb.block g h.lt).trans h
theorem BI.alloc (h : BI w g r) (o : Obj) : BI (w.alloc o) g r := (Below.heap_alloc w o g h.lt).trans h
theorem BI.cell (h : BI w g r) {j : Nat} {v : Value} (hv : (cellsI r)[j]? = some v) : w.cell? ⟨g, j, none⟩ = some v := by
  unfold BI at h
  simp [World.cell?, h, hv]
theorem BI.range (h : BI w g r) : w.rangeAt g 0 (cellsI r) := fun j v hv => by
  rw [Nat.zero_add]; exact h.cell hv
theorem BI.free (h : BI w g r) (j : Nat) : w.frozen? ⟨g, j, none⟩ = false := by
  unfold BI at h
  simp [World.frozen?, h]
theorem BI.size (h : BI w g r) : w.cell? ⟨g, 1, none⟩ = some (.int .i64 (r.size : Int)) := h.cell rfl
theorem cellsI_bl (r : RecI) (j : Nat) (hj : j < r.bl.length) : (cellsI r)[2 + j]? = some (.int .i64 (r.bl.getD j 0 : Nat)) := by
  unfold cellsI
  rw [show 2 + j = j + 1 + 1 by omega]
  simp only [List.getElem?_cons_succ]
  rw [List.getElem?_append_left (by rw [encN_length]; exact hj), encN_get hj]
theorem cellsI_ind (r : RecI) (h4 : r.bl.length = 4) : (cellsI r)[6]? = some (.int .i64 (r.ind : Int)) := by
  unfold cellsI
  rw [show 6 = 4 + 1 + 1 by omega]
  simp only [List.getElem?_cons_succ]
  rw [List.getElem?_append_right (by rw [encN_length]; omega), encN_length, h4]; rfl
theorem BI.ind (h : BI w g r) (h4 : r.bl.length = 4) : w.cell? ⟨g, 6, none⟩ = some (.int .i64 (r.ind : Int)) := h.cell (cellsI_ind r h4)
theorem BI.bl (h : BI w g r) {j : Nat} (hj : j < r.bl.length) : w.cell? ⟨g, 2 + j, none⟩ = some (.int .i64 (r.bl.getD j 0 : Nat)) := h.cell (cellsI_bl r j hj)
theorem BI.setC (h : BI w g r) (j : Nat) (u : Value) {r' : RecI} (e : (cellsI r).set j u = cellsI r') : BI (w.setCell ⟨g, j, none⟩ u) g r' := by
  unfold BI at h ⊢
  simp [World.setCell, Array.getElem?_modify, h, ← e]
theorem cellsI_setBl (r : RecI) (j x : Nat) (hj : j < r.bl.length) : (cellsI r).set (2 + j) (.int .i64 (x : Int)) = cellsI { r with bl := r.bl.set j x } := by
  unfold cellsI
  rw [show 2 + j = j + 1 + 1 by omega]
  simp only [List.set_cons_succ]
  rw [List.set_append_left _ _ (by rw [encN_length]; exact hj), encW_set]
theorem BI.setBl (h : BI w g r) {j : Nat} (hj : j < r.bl.length) (x : Nat) : BI (w.setCell ⟨g, 2 + j, none⟩ (.int .i64 (x : Int))) g { r with bl := r.bl.set j x } := h.setC _ _ (cellsI_setBl r j x hj)
end
/-- Only what an inode's own cells tell counts for its value. -/
def recS (s : ByteArray) : RecI := ⟨0, byA s 0, 65536 * w2 s 1 + w2 s 3, [w2 s 5, w2 s 7, w2 s 9, w2 s 11], w2 s 13, []⟩
theorem recS_val (img : List ByteArray) (i : Nat) : valI (recS (rawI img i)) = valI (recI img i) := rfl
theorem recS_cells (img : List ByteArray) (i : Nat) : cellsI (recS (rawI img i)) = cellsI (recI img i) := rfl
end Go.Proofs.YtpdfkakhahfcjaaGreat
