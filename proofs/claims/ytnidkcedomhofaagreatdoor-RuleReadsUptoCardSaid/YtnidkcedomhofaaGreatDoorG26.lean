/-
  The program's own functions of layer 14: the parts by their names, and a part's values.
-/
import Derived.Test.YtnidkcedomhofaaGreatDoorG24
import Derived.Test.YtnidkcedomhofaaGreatDoorG25
namespace Go.Proofs.YtnidkcedomhofaaGreatDoor
open Go.RowKit

/-- The method that reads a value of the part k. -/
def fnK (k : Nat) : Nat :=
  match k with
  | 0 => 84
  | 1 => 85
  | 2 => 86
  | 3 => 87
  | 4 => 88
  | 5 => 89
  | 6 => 90
  | 7 => 91
  | _ => 92
theorem read_any (k : Nat) (hk : k < 9) (s : ByteArray) (hs : s.size ≤ 1048576) (K n : Nat) (r : RuV) (sn : List (List UInt8)) (W : World) (hK : K < n) (hn : n ≤ W.heap.size) (hl : lenR r ≤ 100000000) (hv : VV W) (h : Rd K n r sn W) :
    Calls Tryz.prog (fnK k) #[.pointer (some ⟨K, 0, none⟩), .string s] W (RdAns k K n r sn s.data.toList W) := by
  rcases key_cases hk with rfl | rfl | rfl | rfl | rfl | rfl | rfl | rfl | rfl
  · exact m_freq s hs K n r sn W hK hn hl hv h
  · exact m_interval s hs K n r sn W hK hn hl hv h
  · exact m_count s hs K n r sn W hK hn hl hv h
  · exact m_until s hs K n r sn W hK hn hl hv h
  · exact m_month s hs K n r sn W hK hn hl hv h
  · exact m_monthDay s hs K n r sn W hK hn hl hv h
  · exact m_day s hs K n r sn W hK hn hl hv h
  · exact m_place s hs K n r sn W hK hn hl hv h
  · exact m_wkst s hs K n r sn W hK hn hl hv h
def fvK (K k : Nat) : Value := .func (.func (fnK k)) #[.pointer (some ⟨K, 0, none⟩)] #[]
def nmK (k : Nat) : ByteArray := mkB (nameB.getD k [])
/-- The row of all parts. -/
def partsRow (K : Nat) : Array Value := #[.string (nmK 0), .bool false, fvK K 0, .string (nmK 1), .bool false, fvK K 1, .string (nmK 2), .bool false, fvK K 2, .string (nmK 3), .bool false, fvK K 3, .string (nmK 4), .bool true, fvK K 4, .string (nmK 5), .bool true, fvK K 5, .string (nmK 6), .bool true, fvK K 6, .string (nmK 7), .bool true, fvK K 7, .string (nmK 8), .bool false, fvK K 8]
theorem row_at (K : Nat) {k : Nat} (hk : k < 9) : (partsRow K)[k * 3]? = some (.string (nmK k)) ∧ (partsRow K)[k * 3 + 1]? = some (.bool (isLst k)) ∧ (partsRow K)[k * 3 + 2]? = some (fvK K k) := by
  rcases key_cases hk with rfl | rfl | rfl | rfl | rfl | rfl | rfl | rfl | rfl
  all_goals exact ⟨rfl, rfl, rfl⟩
/-- What a name's part is. -/
def prtV (K : Nat) (l : List UInt8) : Value := if nameL l < 0 then .agg #[.string ⟨#[]⟩, .bool false, .nilFunc] else .agg #[.string (mkB l), .bool (isLst (nameL l).toNat), fvK K (nameL l).toNat]
theorem nameL_at {l : List UInt8} {k : Nat} (hk : k < 9) (h : nameB.getD k [] = l) : nameL l = k := by rw [← h]; exact (name_ok hk).1
theorem nameL_none {l : List UInt8} (h : ∀ j, j < 9 → nameB.getD j [] ≠ l) : nameL l = -1 := by
  unfold nameL nameB
  simp only [placeN]
  rw [if_neg (show ([70, 82, 69, 81] : List UInt8) ≠ l from h 0 (by omega)), if_neg (show ([73, 78, 84, 69, 82, 86, 65, 76] : List UInt8) ≠ l from h 1 (by omega)), if_neg (show ([67, 79, 85, 78, 84] : List UInt8) ≠ l from h 2 (by omega)), if_neg (show ([85, 78, 84, 73, 76] : List UInt8) ≠ l from h 3 (by omega)), if_neg (show ([66, 89, 77, 79, 78, 84, 72] : List UInt8) ≠ l from h 4 (by omega)), if_neg (show ([66, 89, 77, 79, 78, 84, 72, 68, 65, 89] : List UInt8) ≠ l from h 5 (by omega)), if_neg (show ([66, 89, 68, 65, 89] : List UInt8) ≠ l from h 6 (by omega)), if_neg (show ([66, 89, 83, 69, 84, 80, 79, 83] : List UInt8) ≠ l from h 7 (by omega)), if_neg (show ([87, 75, 83, 84] : List UInt8) ≠ l from h 8 (by omega))]
/-- A variable of three cells. -/
def B3 (W : World) (g : Nat) (a b c : Value) : Prop := W.heap[g]? = some (.cells #[a, b, c] 48 (0, 0))
theorem B3.lt {W : World} {g : Nat} {a b c : Value} (h : B3 W g a b c) : g < W.heap.size := by
  rcases Nat.lt_or_ge g W.heap.size with hlt | hge
  · exact hlt
  · unfold B3 at h; rw [Array.getElem?_eq_none hge] at h; cases h
theorem B3.cells {W : World} {g : Nat} {a b c : Value} (h : B3 W g a b c) : W.cell? ⟨g, 0, none⟩ = some a ∧ W.cell? ⟨g, 1, none⟩ = some b ∧ W.cell? ⟨g, 2, none⟩ = some c := by
  unfold B3 at h
  exact ⟨by simp [World.cell?, h], by simp [World.cell?, h], by simp [World.cell?, h]⟩
theorem B3.frozen {W : World} {g : Nat} {a b c : Value} (h : B3 W g a b c) : ∀ k, W.frozen? ⟨g, k, none⟩ = false := fun k => by
  unfold B3 at h
  simp [World.frozen?, h]
theorem B3.step {W W' : World} {g : Nat} {a b c : Value} (h : B3 W g a b c) (hb : Below W.heap.size W W') : B3 W' g a b c := (hb.block g h.lt).trans h
theorem B3.new (W : World) (a b c : Value) : B3 (W.alloc (.cells #[a, b, c] 48)) W.heap.size a b c := heap_alloc_new W _
theorem prtV_yes (K : Nat) {l : List UInt8} {k : Nat} (hk : k < 9) (h : nameB.getD k [] = l) : prtV K l = .agg #[.string (nmK k), .bool (isLst k), fvK K k] := by
  have := nameL_at hk h
  unfold prtV
  rw [this, if_neg (by omega), Int.toNat_natCast, ← h]
  rfl
theorem prtV_no (K : Nat) {l : List UInt8} (h : ∀ j, j < 9 → nameB.getD j [] ≠ l) : prtV K l = .agg #[.string ⟨#[]⟩, .bool false, .nilFunc] := by
  unfold prtV
  rw [nameL_none h, if_pos (by decide)]
theorem eqK (s : ByteArray) (k : Nat) : ((nmK k).toList == s.toList) = decide (nameB.getD k [] = s.data.toList) := by
  rw [show ((nmK k).toList == s.toList) = (s.toList == (mkB (nameB.getD k [])).toList) by rw [Bool.beq_comm]; rfl]
  exact eq_text s _
theorem load_b3 {W : World} {g : Nat} {n : ByteArray} {b : Bool} {c : Value} (_h1 : c.oneCell' = true) (h : B3 W g (.string n) (.bool b) c) : (Go.loadVar 48 ⟨g, 0, none⟩).run Tryz.prog W = .ok (.agg #[.string n, .bool b, c]) W := by
  obtain ⟨a0, a1, a2⟩ := h.cells
  unfold loadVar
  go_simp
set_option maxRecDepth 100000 in
set_option maxHeartbeats 8000000 in
theorem part14_any (s : ByteArray) (K : Nat) (w : World) :
    Calls Tryz.prog 51 #[.pointer (some ⟨K, 0, none⟩), .string s] w fun e w' => e = .returned (prtV K s.data.toList) ∧ Below w.heap.size w w' := by
  go_enter Tryz.func51, Tryz.ntmps51
  go_wp2
  have ha : Below w.heap.size w ((w.alloc (.cells #[.string ⟨#[]⟩, .bool false, .nilFunc] 48)).alloc (.cells (partsRow K) 48)) := ((Below.refl _ w).alloc (Nat.le_refl _) _).alloc (by simp) _
  have hz := (B3.new w (.string ⟨#[]⟩) (.bool false) .nilFunc).step (((Below.refl _ _).alloc (Nat.le_refl _) _) : Below _ _ ((w.alloc (.cells #[.string ⟨#[]⟩, .bool false, .nilFunc] 48)).alloc (.cells (partsRow K) 48)))
  have hr : ((w.alloc (.cells #[.string ⟨#[]⟩, .bool false, .nilFunc] 48)).alloc (.cells (partsRow K) 48)).heap[w.heap.size + 1]? = some (.cells (partsRow K) 48 (0, 0)) := by
    have := heap_alloc_new (w.alloc (.cells #[.string ⟨#[]⟩, .bool false, .nilFunc] 48)) (.cells (partsRow K) 48)
    rwa [World.size_alloc] at this
  have HA := Lib.hid ha
  have HZ := Lib.hid hz
  have HR := Lib.hid hr
  clear ha hz hr
  go_loopw [36] (fun p wr => ∃ k : Nat, p = .int .i64 k ∧ k ≤ 9 ∧ Hid (Below w.heap.size w wr ∧ B3 wr w.heap.size (.string ⟨#[]⟩) (.bool false) .nilFunc ∧ wr.heap[w.heap.size + 1]? = some (.cells (partsRow K) 48 (0, 0))) ∧ Hid (∀ j, j < k → nameB.getD j [] ≠ s.data.toList)) (fun p _ => 9 - (intOf p).toNat)
  case atStart => exact ⟨0, rfl, by omega, Lib.hid ⟨HA.out, HZ.out, HR.out⟩, Lib.hid (fun j hj => absurd hj (Nat.not_lt_zero j))⟩
  case round =>
    obtain ⟨k, rfl, hk, HI, HN⟩ := hrel
    clear HA HZ HR
    by_cases hlt : k < 9
    · obtain ⟨hb, hz, hr⟩ := HI.out
      obtain ⟨p0, p1, p2⟩ := row_at K hlt
      obtain ⟨fa, hfa⟩ : ∃ fa, k * 3 = fa := ⟨_, rfl⟩
      rw [hfa] at p0 p1 p2
      have c0 : wr.cell? ⟨w.heap.size + 1, fa, none⟩ = some (.string (nmK k)) := by simp [World.cell?, hr, p0]
      have c1 : wr.cell? ⟨w.heap.size + 1, fa + 1, none⟩ = some (.bool (isLst k)) := by simp [World.cell?, hr, p1]
      have c2 : wr.cell? ⟨w.heap.size + 1, fa + 2, none⟩ = some (.func (.func (fnK k)) #[.pointer (some ⟨K, 0, none⟩)] #[]) := by simp [World.cell?, hr, p2, fvK]
      have hfree := hz.frozen
      obtain ⟨z0, z1, z2⟩ := hz.cells
      have hzl := hz.lt
      have he := eqK s k
      have hst : ∀ (a : Addr) (m : Mode) (W : World), Sem.run Tryz.prog (store a (.func (.func (fnK k)) #[.pointer (some ⟨K, 0, none⟩)] #[]) m) W = stored Tryz.prog W a (.func (.func (fnK k)) #[.pointer (some ⟨K, 0, none⟩)] #[]) m := fun a m W => run_store _ W a _ m rfl
      have hki : (k : Int) < 9 := by omega
      have X := Lib.hid (And.intro hb (And.intro hz hr))
      have ht := Lib.hid hr
      clear hb hz hr p0 p1 p2 HI
      by_cases hn : nameB.getD k [] = s.data.toList
      · rw [decide_eq_true hn] at he
        have HP := Lib.hid (prtV_yes K hlt hn)
        clear hn HN
        go_wp2
        have hq := (heap_put3 (v0 := .string (nmK k)) (v1 := .bool (isLst k)) (v2 := .func (.func (fnK k)) #[.pointer (some ⟨K, 0, none⟩)] #[]) X.out.2.1)
        have hq2 : B3 (put3 wr w.heap.size (.string (nmK k)) (.bool (isLst k)) (.func (.func (fnK k)) #[.pointer (some ⟨K, 0, none⟩)] #[])) w.heap.size (.string (nmK k)) (.bool (isLst k)) (.func (.func (fnK k)) #[.pointer (some ⟨K, 0, none⟩)] #[]) := hq
        have hal : ∀ o, Below (put3 wr w.heap.size (.string (nmK k)) (.bool (isLst k)) (.func (.func (fnK k)) #[.pointer (some ⟨K, 0, none⟩)] #[])).heap.size (put3 wr w.heap.size (.string (nmK k)) (.bool (isLst k)) (.func (.func (fnK k)) #[.pointer (some ⟨K, 0, none⟩)] #[])) ((put3 wr w.heap.size (.string (nmK k)) (.bool (isLst k)) (.func (.func (fnK k)) #[.pointer (some ⟨K, 0, none⟩)] #[])).alloc o) := fun o => (Below.refl _ _).alloc (Nat.le_refl _) _
        refine bodyPost_ret (results_cell rfl _ rfl (load_b3 (n := nmK k) (b := isLst k) (c := .func (.func (fnK k)) #[.pointer (some ⟨K, 0, none⟩)] #[]) rfl (hq2.step (hal _)))) rfl ⟨?_, ?_⟩
        · rw [HP.out]; rfl
        · exact (X.out.1.trans (below_put3 (Nat.le_refl _) _ _ _)).alloc (by rw [put3_size]; exact X.out.1.size) _
      · rw [decide_eq_false hn] at he
        have HN2 : Hid (∀ j, j < k + 1 → nameB.getD j [] ≠ s.data.toList) := Lib.hid (fun j hj => by
          rcases Nat.lt_or_ge j k with h | h
          · exact HN.out j h
          · rw [show j = k by omega]; exact hn)
        clear hn HN
        go_wp2
        go_round
        case rel =>
          have hal : Below wr.heap.size wr (wr.alloc (.cells #[.string (nmK k), .bool (isLst k), .func (.func (fnK k)) #[.pointer (some ⟨K, 0, none⟩)] #[]] 48)) := (Below.refl _ _).alloc (Nat.le_refl _) _
          exact ⟨k + 1, by go_num, by omega, Lib.hid ⟨bstep X.out.1 hal, X.out.2.1.step hal, (hal.block _ (Array.getElem?_eq_some_iff.1 ht.out).1).trans ht.out⟩, HN2⟩
        case measure => simp [intOf]; omega
    · obtain rfl : k = 9 := by omega
      have HP := Lib.hid (prtV_no K HN.out)
      obtain ⟨hb, hz, hr⟩ := HI.out
      have hfree := hz.frozen
      obtain ⟨z0, z1, z2⟩ := hz.cells
      have hzl := hz.lt
      have X := Lib.hid (And.intro hb (And.intro hz hr))
      have hst : ∀ (a : Addr) (m : Mode) (W : World), Sem.run Tryz.prog (store a .nilFunc m) W = stored Tryz.prog W a .nilFunc m := fun a m W => run_store _ W a _ m rfl
      clear hb hz hr HI HN
      go_wp2
      refine bodyPost_ret (results_cell rfl _ rfl (load_b3 (n := ⟨#[]⟩) (b := false) (c := .nilFunc) rfl (heap_put3 X.out.2.1))) rfl ⟨?_, ?_⟩
      · rw [HP.out]
      · exact X.out.1.trans (below_put3 (Nat.le_refl _) _ _ _)
end Go.Proofs.YtnidkcedomhofaaGreatDoor

/-
  The program's own functions of layer 14: a part's values as they stand.
-/
namespace Go.Proofs.YtnidkcedomhofaaGreatDoor
open Go.RowKit

theorem splitC_index (k : UInt8) : ∀ (l acc : List UInt8), (Lib.indexByte l k = -1 ∧ splitC k acc l = [acc ++ l]) ∨ ∃ i : Nat, Lib.indexByte l k = (i : Int) ∧ i < l.length ∧ splitC k acc l = (acc ++ l.take i) :: splitC k [] (l.drop (i + 1))
  | [], acc => .inl ⟨rfl, by simp [splitC]⟩
  | c :: l, acc => by
    by_cases h : c = k
    · subst h
      exact .inr ⟨0, by unfold Lib.indexByte; simp, by simp, by simp [splitC]⟩
    · have hb : (c == k) = false := by rw [beq_eq_false_iff_ne]; exact h
      have e : splitC k acc (c :: l) = splitC k (acc ++ [c]) l := by rw [splitC, if_neg h]
      rcases splitC_index k l (acc ++ [c]) with ⟨h1, h2⟩ | ⟨i, h1, h2, h3⟩
      · refine .inl ⟨?_, by rw [e, h2]; simp⟩
        unfold Lib.indexByte
        rw [hb, h1]; rfl
      · refine .inr ⟨i + 1, ?_, by simp; omega, by rw [e, h3]; simp⟩
        unfold Lib.indexByte
        have : ((i : Int) == -1) = false := by rw [beq_eq_false_iff_ne]; omega
        rw [hb, h1, this]
        simp
theorem splitC_pos (k : UInt8) (l acc : List UInt8) : 0 < (splitC k acc l).length := by rw [splitC_len]; omega
theorem splitB_is : ∀ (m : Nat) (s : ByteArray), ((splitC 44 [] s.data.toList).length ≤ m + 1 → (Lib.splitB ⟨#[44]⟩ 0 m s).map (·.data.toList) = splitC 44 [] s.data.toList) ∧ (m + 1 < (splitC 44 [] s.data.toList).length → (Lib.splitB ⟨#[44]⟩ 0 m s).length = m + 1)
  | 0, s => by
    rw [Lib.splitB_zero]
    refine ⟨fun h => ?_, fun _ => rfl⟩
    rcases splitC_index 44 s.data.toList [] with ⟨_, h2⟩ | ⟨i, _, _, h3⟩
    · rw [h2]; simp
    · rw [h3, List.length_cons] at h
      have := splitC_pos 44 (s.data.toList.drop (i + 1)) []
      omega
  | m + 1, s => by
    have hi : Lib.indexB s ⟨#[44]⟩ = Lib.indexByte s.data.toList 44 := Lib.index_one _ _
    rcases splitC_index 44 s.data.toList [] with ⟨h1, h2⟩ | ⟨i, h1, h2, h3⟩
    · rw [Lib.splitB_miss _ _ _ _ (by rw [hi, h1]), h2]
      exact ⟨fun _ => by simp, fun h => by simp at h⟩
    · rw [Lib.splitB_hit _ _ _ _ i (by rw [hi, h1]), h3]
      have x1 : (s.extract 0 (i + 0)).data.toList = s.data.toList.take i := by rw [Nat.add_zero]; exact headV s i
      have x2 : (s.extract (i + (⟨#[44]⟩ : ByteArray).size) s.size).data.toList = s.data.toList.drop (i + 1) := tailV s (i + 1) (by rw [listB] at h2; omega)
      have ih := splitB_is m (s.extract (i + (⟨#[44]⟩ : ByteArray).size) s.size)
      rw [x2] at ih
      rw [List.map_cons, x1]
      refine ⟨fun h => ?_, fun h => ?_⟩
      · rw [ih.1 (by simpa using h)]; simp
      · rw [List.length_cons, ih.2 (by simpa using h)]
/-- A row of texts. -/
structure Tx (W : World) (g c : Nat) (ps : List (List UInt8)) : Prop where
  cap : ps.length ≤ c
  row : ∃ (C : Array Value) (f : Nat × Nat), W.heap[g]? = some (.cells C 9 f) ∧ ∀ (j : Nat) (p : List UInt8), ps[j]? = some p → C[j]? = some (Value.string (mkB p))
theorem Tx.lt {W : World} {g c : Nat} {ps : List (List UInt8)} (h : Tx W g c ps) : g < W.heap.size := by
  obtain ⟨C, f, h1, _⟩ := h.row
  exact (Array.getElem?_eq_some_iff.1 h1).1
theorem Tx.cell {W : World} {g c : Nat} {ps : List (List UInt8)} (h : Tx W g c ps) : ∀ (j : Nat) (p : List UInt8), ps[j]? = some p → W.cell? ⟨g, j, none⟩ = some (.string (mkB p)) := by
  obtain ⟨C, f, h1, h2⟩ := h.row
  intro j p hj
  simp [World.cell?, h1, h2 j p hj]
theorem Tx.keep {W W' : World} {g c : Nat} {ps : List (List UInt8)} (h : Tx W g c ps) (hk : KS W W') : Tx W' g c ps := by
  obtain ⟨C, f, h1, h2⟩ := h.row
  exact ⟨h.cap, C, f, hk g C _ f (by decide) (by decide) (by decide) h1, h2⟩
theorem Tx.blk {W W' : World} {g c : Nat} {ps : List (List UInt8)} (h : Tx W g c ps) (e : W'.heap[g]? = W.heap[g]?) : Tx W' g c ps := by
  obtain ⟨C, f, h1, h2⟩ := h.row
  exact ⟨h.cap, C, f, e.trans h1, h2⟩
/-- What a list's text is cut into: at most 25 pieces. -/
def ValsOk (k : Bool) (l : List UInt8) (ps : List (List UInt8)) : Prop := ps.length ≤ 25 ∧ (k = false → ps = [l]) ∧ (k = true → ((splitC 44 [] l).length ≤ 24 → ps = splitC 44 [] l) ∧ (24 < (splitC 44 [] l).length → 24 < ps.length)) ∧ ∀ p ∈ ps, p.length ≤ l.length
theorem splitC_short (k : UInt8) : ∀ (l acc : List UInt8), ∀ p ∈ splitC k acc l, p.length ≤ acc.length + l.length
  | [], acc, p, hp => by simp [splitC] at hp; subst hp; simp
  | c :: l, acc, p, hp => by
    by_cases h : c = k
    · subst h
      rw [splitC_com] at hp
      rcases List.mem_cons.1 hp with rfl | hp
      · simp
      · have := splitC_short c l [] p hp
        simp at this ⊢; omega
    · rw [splitC_on h] at hp
      have := splitC_short k l (acc ++ [c]) p hp
      simp at this ⊢; omega
theorem splitB_short : ∀ (m : Nat) (s : ByteArray), ∀ p ∈ Lib.splitB ⟨#[44]⟩ 0 m s, p.size ≤ s.size
  | 0, s, p, hp => by rw [Lib.splitB_zero] at hp; simp at hp; subst hp; exact Nat.le_refl _
  | m + 1, s, p, hp => by
    rcases Lib.indexB_cases s ⟨#[44]⟩ with h | ⟨i, h, _⟩
    · rw [Lib.splitB_miss _ _ _ _ h] at hp; simp at hp; subst hp; exact Nat.le_refl _
    · rw [Lib.splitB_hit _ _ _ _ i h] at hp
      rcases List.mem_cons.1 hp with rfl | hp
      · rw [ByteArray.size_extract]; omega
      · have := splitB_short m _ p hp
        rw [ByteArray.size_extract] at this; omega
theorem vals_split (s : ByteArray) : ValsOk true s.data.toList ((Lib.splitB ⟨#[44]⟩ 0 (min 25 (s.size + 1) - 1) s).map (·.data.toList)) := by
  have hls := bsize s
  have hc : (splitC 44 [] s.data.toList).length ≤ s.size + 1 := by rw [splitC_len]; have := List.count_le_length (a := (44 : UInt8)) (l := s.data.toList); omega
  obtain ⟨a, b⟩ := splitB_is (min 25 (s.size + 1) - 1) s
  have hp := splitC_pos 44 s.data.toList []
  refine ⟨?_, fun h => (by cases h), fun _ => ⟨fun h => a (by omega), fun h => ?_⟩, fun p hp => ?_⟩
  · by_cases h : (splitC 44 [] s.data.toList).length ≤ min 25 (s.size + 1) - 1 + 1
    · rw [a h]; omega
    · rw [List.length_map, b (by omega)]; omega
  · by_cases h2 : (splitC 44 [] s.data.toList).length ≤ min 25 (s.size + 1) - 1 + 1
    · rw [a h2]; omega
    · rw [List.length_map, b (by omega)]; omega
  · obtain ⟨q, hq, rfl⟩ := List.mem_map.1 hp
    have := splitB_short _ s q hq
    rw [← bsize, ← hls]; exact this
theorem splitB_len (s : ByteArray) : (Lib.splitB ⟨#[44]⟩ 0 (min 25 (s.size + 1) - 1) s).length ≤ min 25 (s.size + 1) := by
  obtain ⟨a, b⟩ := splitB_is (min 25 (s.size + 1) - 1) s
  by_cases h : (splitC 44 [] s.data.toList).length ≤ min 25 (s.size + 1) - 1 + 1
  · have := congrArg List.length (a h)
    rw [List.length_map] at this
    omega
  · rw [b (by omega)]; omega
set_option maxRecDepth 100000 in
set_option maxHeartbeats 4000000 in
theorem values14_any (nm : ByteArray) (b : Bool) (fv : Value) (h1 : fv.oneCell' = true) (s : ByteArray) (hs : s.size ≤ 1048576) (w : World) (hv : VV w) :
    Calls Tryz.prog 52 #[.agg #[.string nm, .bool b, fv], .string s] w fun e w' => ∃ (g c : Nat) (ps : List (List UInt8)), e = .returned (.slice (some ⟨g, 0, none⟩) ps.length c) ∧ w.heap.size ≤ g ∧ Tx w' g c ps ∧ ValsOk b s.data.toList ps ∧ Below w.heap.size w w' := by
  have hst : ∀ (a : Addr) (m : Mode) (W : World), Sem.run Tryz.prog (store a fv m) W = stored Tryz.prog W a fv m := fun a m W => run_store _ W a _ m h1
  have hcl : fv.cells = #[fv] := by revert h1; cases fv <;> simp [Value.oneCell', Value.cells]
  obtain ⟨m, hm⟩ := hv.mx
  cases b
  · go_enter Tryz.func52, Tryz.ntmps52
    go_wp2
    go_ret
    have hh := heap_alloc_new (w.alloc (.cells #[.string nm, .bool false, fv] 48)) (.cells #[.string s] 9)
    rw [World.size_alloc] at hh
    refine ⟨w.heap.size + 1, 1, [s.data.toList], rfl, by omega, ⟨by simp, _, _, hh, fun j p hj => ?_⟩, ⟨by simp, fun _ => rfl, fun h => (by cases h), fun p hp => by simp at hp; subst hp; exact Nat.le_refl _⟩, ((Below.refl _ w).alloc (Nat.le_refl _) _).alloc (by simp) _⟩
    have h0 : j = 0 ∧ p = s.data.toList := by
      cases j with
      | zero => simp at hj; exact ⟨rfl, hj.symm⟩
      | succ j => simp at hj
    obtain ⟨rfl, rfl⟩ := h0
    rw [show mkB s.data.toList = s from list_mk s]
    rfl
  · have hb1 : Below w.heap.size w (w.alloc (.cells #[.string nm, .bool true, fv] 48)) := (Below.refl _ w).alloc (Nat.le_refl _) _
    have cs := Tryz.strings_SplitN s ⟨#[44]⟩ 25 m (w.alloc (.cells #[.string nm, .bool true, fv] 48)) (by omega) ((hb1.cell (p := ⟨4, 0, none⟩) (cell_in hm)).trans hm) (by decide) (by omega) (by omega)
    go_enter Tryz.func52, Tryz.ntmps52
    go_wp2_with (go_at_call 93; refine cs.mono ?_; rintro e w' ⟨rfl, hw⟩; subst w'; clear cs)
    go_ret
    have hh := heap_alloc_new (w.alloc (.cells #[.string nm, .bool true, fv] 48)) (.cells (Lib.cellsOf (Lib.splitB ⟨#[44]⟩ 0 (min 25 (s.size + 1) - 1) s) (min 25 (s.size + 1))) 9)
    rw [World.size_alloc] at hh
    refine ⟨w.heap.size + 1, min 25 (s.size + 1), (Lib.splitB ⟨#[44]⟩ 0 (min 25 (s.size + 1) - 1) s).map (·.data.toList), by rw [List.length_map]; rfl, by omega, ⟨?_, _, _, hh, fun j p hj => ?_⟩, vals_split s, ((Below.refl _ w).alloc (Nat.le_refl _) _).alloc (by simp) _⟩
    · rw [List.length_map]
      exact splitB_len s
    · rw [List.getElem?_map] at hj
      cases hq : (Lib.splitB ⟨#[44]⟩ 0 (min 25 (s.size + 1) - 1) s)[j]? with
      | none => rw [hq] at hj; cases hj
      | some q =>
        rw [hq] at hj
        simp only [Option.map_some, Option.some.injEq] at hj
        subst hj
        have hjl := (List.getElem?_eq_some_iff.1 hq).1
        rw [show mkB q.data.toList = q from list_mk q]
        unfold Lib.cellsOf
        rw [List.getElem?_toArray, List.getElem?_append_left (by rw [List.length_map]; exact hjl), List.getElem?_map, hq]
        rfl
end Go.Proofs.YtnidkcedomhofaaGreatDoor
