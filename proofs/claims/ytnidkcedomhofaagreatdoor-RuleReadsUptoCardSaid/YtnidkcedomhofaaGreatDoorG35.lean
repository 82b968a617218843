/-
  The program's own functions of layer 14: a part, written.
-/
import Derived.Test.YtnidkcedomhofaaGreatDoorG34
namespace Go.Proofs.YtnidkcedomhofaaGreatDoor
open Go.RowKit

/-- A row of texts under way: the first i are laid. -/
def TxR (W : World) (g : Nat) (done : List (List UInt8)) (n : Nat) : Prop := W.heap[g]? = some (.cells ((pcC done ++ List.replicate (n - done.length) (Value.string ⟨#[]⟩)).toArray) 9 (0, 0)) ∧ done.length ≤ n
theorem TxR.lt {W : World} {g n : Nat} {done : List (List UInt8)} (h : TxR W g done n) : g < W.heap.size := (Array.getElem?_eq_some_iff.1 h.1).1
theorem TxR.next {W : World} {g n : Nat} {done : List (List UInt8)} (h : TxR W g done n) (hl : done.length < n) : W.cell? ⟨g, done.length, none⟩ = some (.string ⟨#[]⟩) := by
  refine cell_of h.1 ?_
  rw [List.getElem?_toArray, List.getElem?_append_right (by rw [pcC_len]; exact Nat.le_refl _), pcC_len, Nat.sub_self, List.getElem?_replicate, if_pos (by omega)]
theorem TxR.frozen {W : World} {g n : Nat} {done : List (List UInt8)} (h : TxR W g done n) (j : Nat) : W.frozen? ⟨g, j, none⟩ = false := by simp [World.frozen?, h.1]
theorem TxR.set {W : World} {g n : Nat} {done : List (List UInt8)} (h : TxR W g done n) (hl : done.length < n) (p : List UInt8) : TxR (W.setCell ⟨g, done.length, none⟩ (.string (mkB p))) g (done ++ [p]) n := by
  refine ⟨?_, by simp; omega⟩
  have hs : done.length < ((pcC done ++ List.replicate (n - done.length) (Value.string ⟨#[]⟩)).toArray).size := by simp [pcC_len]; omega
  have := heap_put (v := .string (mkB p)) h.1 hs
  rw [this]
  congr 2
  rw [List.setIfInBounds_toArray, List.set_append_right _ _ (by rw [pcC_len]; exact Nat.le_refl _), pcC_len, Nat.sub_self, pcC_app, List.length_append, List.length_singleton]
  obtain ⟨m, hm⟩ : ∃ m, n - done.length = m + 1 := ⟨n - done.length - 1, by omega⟩
  rw [hm, List.replicate_succ, List.set_cons_zero, show n - (done.length + 1) = m by omega]
  simp [pcC, mkB]
theorem TxR.step {W W' : World} {g n : Nat} {done : List (List UInt8)} (h : TxR W g done n) (hb : Below W.heap.size W W') : TxR W' g done n := ⟨(hb.block g h.lt).trans h.1, h.2⟩
theorem TxR.cells {W : World} {g n : Nat} {done : List (List UInt8)} (h : TxR W g done n) : ∀ (j : Nat) (x : ByteArray), (done.map mkB)[j]? = some x → W.cell? ⟨g, 0 + j, none⟩ = some (.string x) := fun j x hj => by
  rw [Nat.zero_add]
  refine cell_of h.1 ?_
  rw [List.getElem?_map] at hj
  cases hd : done[j]? with
  | none => rw [hd] at hj; cases hj
  | some p =>
    rw [hd] at hj
    simp only [Option.map_some, Option.some.injEq] at hj
    subst hj
    have hjl := (List.getElem?_eq_some_iff.1 hd).1
    rw [List.getElem?_toArray, List.getElem?_append_left (by rw [pcC_len]; exact hjl)]
    simp [pcC, hd, mkB]
theorem TxR.new (W : World) (n : Nat) : TxR (W.alloc (.cells (madeCells #[.string ⟨#[]⟩] n) 9)) W.heap.size [] n := by
  refine ⟨?_, Nat.zero_le _⟩
  rw [heap_alloc_new]
  show some (Obj.cells (madeCells #[Value.string ByteArray.empty] n) 9) = _
  rw [← Lib.cellsOf_nil]
  simp [Lib.cellsOf, pcC]
  exact .inr rfl
theorem infoSv2 : (Tryz.prog.info? 9).map (fun i => (i.zero, i.size, i.bytes)) = some (some (.string ⟨#[]⟩), 1, 16) := by kernel_rfl
theorem maps_mk (l : List (List UInt8)) : (l.map mkB).map (·.data.toList) = l := by
  rw [List.map_map]
  conv => rhs; rw [← List.map_id l]
  exact List.map_congr_left fun p _ => mkB_list p
/-- What a part's text is. -/
def partT (nm : List UInt8) (ts : List (List UInt8)) : List UInt8 := nm ++ 61 :: Lib.join ts [44]
theorem partT_mk (nm : List UInt8) (ts : List (List UInt8)) : mkB nm ++ ⟨#[61]⟩ ++ mkB (Lib.join ts [44]) = mkB (partT nm ts) := by
  rw [show (⟨#[61]⟩ : ByteArray) = mkB [61] from rfl, mkB_app, mkB_app]
  unfold partT
  simp
theorem join_max {M : Nat} : ∀ (ts : List (List UInt8)), (∀ t ∈ ts, t.length ≤ M) → (Lib.join ts [44]).length ≤ (M + 1) * ts.length
  | [], _ => by simp [Lib.join_nil]
  | p :: ts, h => by
    rw [Lib.join_length]
    have hs : ∀ us : List (List UInt8), (∀ t ∈ us, t.length ≤ M) → Lib.lens us ≤ M * us.length := fun us => by
      induction us with
      | nil => intro _; simp [Lib.lens]
      | cons u us ih =>
        intro hu
        have := ih (fun t ht => hu t (by simp [ht]))
        have h2 := hu u (by simp)
        simp only [Lib.lens, List.map_cons, List.sum_cons, List.length_cons] at this ⊢
        rw [Nat.mul_succ]
        omega
    have := hs (p :: ts) h
    simp only [List.length_cons, List.length_nil] at this ⊢
    have e : (M + 1) * (ts.length + 1) = M * (ts.length + 1) + (ts.length + 1) := Nat.succ_mul _ _
    rw [e]
    omega
set_option maxRecDepth 100000 in
set_option maxHeartbeats 8000000 in
theorem addI_any (v v3 : Value) (nm : List UInt8) (ps : List (List UInt8)) (l : List Int) (tx : Int → List UInt8) (g B : Nat) (w : World) (hB : B ≤ w.heap.size) (hn : nm.length ≤ 100) (hl : l.length ≤ 24) (hps : ps.length ≤ 100) (ho : w.ownsRow B 9 1 v ps.length (pcC ps)) (hs : Sl w v3 l.length 1 (intC l))
    (eg : ∀ args w, (callFunc g args).run Tryz.prog w = .ok (.enter g args) w) (htx : ∀ x ∈ l, (tx x).length ≤ 100)
    (hp : ∀ (W : World), ∀ x ∈ l, Below w.heap.size w W → Calls Tryz.prog g #[.int .i64 x] W fun e W' => e = .returned (.string (mkB (tx x))) ∧ Below W.heap.size W W') :
    Calls Tryz.prog 34 #[v, .string (mkB nm), .func (.func g) #[] #[], v3] w fun e w' => ∃ v', e = .returned v' ∧ w'.ownsRow B 9 1 v' (ps ++ (if l = [] then [] else [partT nm (l.map tx)])).length (pcC (ps ++ (if l = [] then [] else [partT nm (l.map tx)]))) ∧ Below B w w' := by
  rcases hs.2 with ⟨h0, a, c, rfl⟩ | ⟨b, o, c, rfl, hbl, hc⟩
  · have e0 : l = [] := List.eq_nil_of_length_eq_zero h0
    subst e0
    go_enter Tryz.func34, Tryz.ntmps34
    go_wp2
    go_ret
    exact ⟨v, rfl, by simpa using ho, Below.refl _ _⟩
  · by_cases e0 : l = []
    · have hl0 : l.length = 0 := by rw [e0]; rfl
      have E0 := Lib.hid e0
      have ho2 : w.ownsRow B 9 1 v (ps ++ (if l = [] then [] else [partT nm (l.map tx)])).length (pcC (ps ++ (if l = [] then [] else [partT nm (l.map tx)]))) := by rw [if_pos e0]; simpa using ho
      rw [hl0]
      clear e0
      go_enter Tryz.func34, Tryz.ntmps34
      go_wp2
      go_ret
      exact ⟨v, rfl, by first | exact ho2 | exact ho, Below.refl _ _⟩
    · have hpos : 0 < l.length := List.length_pos_iff.2 e0
      have hli : ((l.length : Int) == 0) = false := by rw [beq_eq_false_iff_ne]; omega
      rw [if_neg e0]
      have HC := Lib.hid hc
      have HP := Lib.hid hp
      have HT := Lib.hid htx
      have HO := Lib.hid ho
      have hpos2 : (0 : Int) ≤ (l.length : Int) := by omega
      have hl24 : (l.length : Int) ≤ 24 := by omega
      clear hc hp htx ho hs e0
      go_enter Tryz.func34, Tryz.ntmps34
      have hmk : ∀ W : World, (Instr.makeSlice 39 (.int .i64 l.length) (.int .i64 l.length)).run Tryz.prog W = .ok (.slice (some ⟨W.heap.size, 0, none⟩) l.length l.length) (W.alloc (.cells (madeCells #[.string ⟨#[]⟩] l.length) 9)) := fun W => by
        obtain ⟨i0, hi, hz0, hz1, hz2⟩ := info_parts infoSv2
        have h := run_make (P := Tryz.prog) W 39 9 i0 (.string ⟨#[]⟩) Tryz.underlying39 hi hz0 .i64 .i64 l.length l.length (by omega) (by omega) (by rw [hz2]; omega) (by omega)
        rw [hz1, show (Value.string ⟨#[]⟩).cells = #[Value.string ⟨#[]⟩] from rfl] at h
        simpa using h
      obtain ⟨i0, hi, hz0, hz1, hz2⟩ := info_parts infoSv2
      go_wp2
      have HX : Hid (TxR (w.alloc (.cells (madeCells #[.string ⟨#[]⟩] l.length) 9)) w.heap.size ((l.take 0).map tx) l.length ∧ Below w.heap.size w (w.alloc (.cells (madeCells #[.string ⟨#[]⟩] l.length) 9))) := Lib.hid ⟨by rw [List.take_zero]; exact TxR.new w _, (Below.refl _ _).alloc (Nat.le_refl _) _⟩
      clear hmk
      go_loopw [21] (fun p wr => ∃ k : Nat, p = .int .i64 k ∧ k ≤ l.length ∧ Hid (TxR wr w.heap.size ((l.take k).map tx) l.length ∧ Below w.heap.size w wr)) (fun p _ => l.length - (intOf p).toNat)
      case atStart => exact ⟨0, rfl, Nat.zero_le _, HX⟩
      case round =>
        obtain ⟨k, rfl, hk, HK⟩ := hrel
        clear HX
        obtain ⟨hT, hb⟩ := HK.out
        by_cases hlt : k < l.length
        · have hki : (k : Int) < (l.length : Int) := by omega
          have hkn : (k : Int) + 1 ≤ (l.length : Int) := by omega
          have hdl : ((l.take k).map tx).length = k := by rw [List.length_map, List.length_take]; omega
          obtain ⟨x, hx⟩ : ∃ x, l[k] = x := ⟨_, rfl⟩
          have hxm : x ∈ l := by rw [← hx]; exact List.getElem_mem hlt
          have hal : Below wr.heap.size wr wr := Below.refl _ _
          have cp := HP.out wr x hxm (hb.trans (hal.mono hb.size))
          have HAL := Lib.hid hal
          clear hal
          have HTX : Hid ((l.take (k + 1)).map tx = (l.take k).map tx ++ [tx x]) := Lib.hid (by rw [List.take_succ_eq_append_getElem hlt, List.map_append, hx]; rfl)
          have HDL := Lib.hid hdl
          have HHB := Lib.hid hb
          have HHT := Lib.hid hT
          have cx : wr.cell? ⟨b, o + k, none⟩ = some (.int .i64 x) := (hb.cell (p := ⟨b, o + k, none⟩) hbl).trans (HC.out k _ (by simp [intC, List.getElem?_eq_getElem hlt, hx]))
          have hx0 := hx
          clear hx hT hdl hx0
          go_wp2_with (go_at_fn g; refine cp.mono ?_; rintro e W2 ⟨rfl, hb2⟩; clear cp
                       have hT2 := HHT.out.step (bstep HAL.out hb2)
                       have cN : W2.cell? ⟨w.heap.size, k, none⟩ = some (.string ⟨#[]⟩) := (by
                         have := hT2.next (by rw [HDL.out]; exact hlt)
                         rwa [HDL.out] at this)
                       have fN := hT2.frozen k
                       have HT2 := Lib.hid hT2
                       have HB2 := Lib.hid (HHB.out.trans ((bstep HAL.out hb2).mono HHB.out.size))
                       clear hT2 hb2)
          go_round
          case rel =>
            refine ⟨k + 1, by go_num, by omega, Lib.hid ⟨?_, HB2.out.setCell (p := ⟨w.heap.size, k, none⟩) (Nat.le_refl _) _⟩⟩
            rw [HTX.out]
            have := HT2.out.set (by rw [HDL.out]; exact hlt) (tx x)
            rwa [HDL.out] at this
          case measure => simp [intOf]; omega
        · obtain rfl : k = l.length := by omega
          have hki : ¬ (l.length : Int) < (l.length : Int) := by omega
          rw [List.take_length] at hT
          have hdl : ((l.map tx).map mkB).length = l.length := by simp
          have hM : ∀ t ∈ l.map tx, t.length ≤ 100 := fun t ht => by
            obtain ⟨x, hx, rfl⟩ := List.mem_map.1 ht
            exact HT.out x hx
          have hjl := join_max (l.map tx) hM
          rw [List.length_map] at hjl
          have hjl2 : (Lib.join (l.map tx) [44]).length ≤ 2424 := by omega
          have cj := Tryz.strings_Join w.heap.size 0 l.length ((l.map tx).map mkB) ⟨#[44]⟩ wr hT.cells hT.lt (by rw [hdl]; omega) (by rw [hdl]; exact Nat.le_refl _) (by rw [maps_mk]; show (Lib.join (l.map tx) [44]).length ≤ _; omega)
          rw [hdl, maps_mk, show (⟨#[44]⟩ : ByteArray).data.toList = [44] from rfl] at cj
          have HPT := Lib.hid (partT_mk nm (l.map tx))
          have hs1 : (mkB nm).size ≤ 100 := by rw [mkB_size]; exact hn
          have hs2 : (mkB (Lib.join (l.map tx) [44])).size ≤ 2424 := by rw [mkB_size]; exact hjl2
          have hs3 : ¬ 9223372036854775807 < (mkB nm).size + (⟨#[61]⟩ : ByteArray).size := by rw [show (⟨#[61]⟩ : ByteArray).size = 1 from rfl]; omega
          have hs4 : (mkB nm ++ ⟨#[61]⟩ : ByteArray).size ≤ 101 := by rw [ByteArray.size_append, show (⟨#[61]⟩ : ByteArray).size = 1 from rfl]; omega
          have hs5 : ¬ 9223372036854775807 < (mkB nm ++ ⟨#[61]⟩ : ByteArray).size + (mkB (Lib.join (l.map tx) [44])).size := by omega
          have cj2 : Calls Tryz.prog 42 #[.slice (some ⟨w.heap.size, 0, none⟩) l.length l.length, .string ⟨#[44]⟩] wr fun e w' => e = .returned (.string (mkB (Lib.join (l.map tx) [44]))) ∧ Below wr.heap.size wr w' := cj
          have HHB := Lib.hid hb
          clear cj hdl hM hjl hjl2 hT hb HT HP HC
          generalize mkB (Lib.join (l.map tx) [44]) = J at *
          go_wp2_with (first
            | (go_at_call 42; refine cj2.mono ?_; rintro e W2 ⟨rfl, hb2⟩; clear cj2
               have HB2 := Lib.hid (HHB.out.trans (hb2.mono HHB.out.size))
               have HO2 := Lib.hid (own_below HO.out HB2.out)
               have hBW : B ≤ W2.heap.size := Nat.le_trans hB HB2.out.size
               clear hb2)
            | (at_builtin
               refine wpList_append_own _ rfl _ _ 39 rfl B 9 i0 (.string ⟨#[]⟩) 1 16 Tryz.underlying39 hi hz0 hz1 hz2 rfl (by decide) _ _ _ rfl (HO2.out.alloc _) ⟨_, 0, none⟩ 1 1 [.string (mkB nm ++ ⟨#[61]⟩ ++ J)] rfl rfl (cells_newV _ [.string (mkB nm ++ ⟨#[61]⟩ ++ J)] _) (by simp [Value.oneCell']) (by unfold maxLen; omega) (by omega) (by simp; omega) ?_
               intro v' w1 hown' hgrow _
               have HQ := Lib.hid (And.intro hown' (below_append (HB2.out.mono hB) hBW HO2.out hgrow))
               clear hown' hgrow))
          go_ret
          obtain ⟨q1, q2⟩ := HQ.out
          rw [HPT.out] at q1
          exact ⟨_, rfl, by rw [pcC_app, List.length_append]; simpa [pcC, mkB] using q1, q2⟩
def whC1 (l : List Wh) : List Value := l.flatMap fun w => [.int .i64 w.secs, .bool w.utc, .bool w.date]
theorem wh_cells1 {W : World} {b o : Nat} {l : List Wh} (h : ∀ (j : Nat) (u : Value), (whC1 l)[j]? = some u → W.cell? ⟨b, o + j, none⟩ = some u) {k : Nat} (hk : k < l.length) : W.cell? ⟨b, o + k * 3, none⟩ = some (.int .i64 (l[k]).secs) ∧ W.cell? ⟨b, o + k * 3 + 1, none⟩ = some (.bool (l[k]).utc) ∧ W.cell? ⟨b, o + k * 3 + 2, none⟩ = some (.bool (l[k]).date) := by
  have g : ∀ (l : List Wh) (k : Nat) (hk : k < l.length), (whC1 l)[k * 3]? = some (.int .i64 (l[k]).secs) ∧ (whC1 l)[k * 3 + 1]? = some (.bool (l[k]).utc) ∧ (whC1 l)[k * 3 + 2]? = some (.bool (l[k]).date) := by
    intro l
    induction l with
    | nil => intro k hk; cases hk
    | cons d l ih =>
      intro k hk
      rw [show whC1 (d :: l) = .int .i64 d.secs :: .bool d.utc :: .bool d.date :: whC1 l by simp [whC1]]
      cases k with
      | zero => exact ⟨rfl, rfl, rfl⟩
      | succ k =>
        have := ih k (by simpa using hk)
        rw [show (k + 1) * 3 = k * 3 + 1 + 1 + 1 by omega]
        simpa using this
  obtain ⟨g1, g2, g3⟩ := g l k hk
  exact ⟨h _ _ g1, by rw [Nat.add_assoc]; exact h _ _ g2, by rw [Nat.add_assoc]; exact h _ _ g3⟩
set_option maxRecDepth 100000 in
set_option maxHeartbeats 8000000 in
theorem addD_any (v v3 : Value) (nm : List UInt8) (ps : List (List UInt8)) (l : List (Int × Int)) (tx : (Int × Int) → List UInt8) (g B : Nat) (w : World) (hB : B ≤ w.heap.size) (hn : nm.length ≤ 100) (hl : l.length ≤ 24) (hps : ps.length ≤ 100) (ho : w.ownsRow B 9 1 v ps.length (pcC ps)) (hs : Sl w v3 l.length 2 (wdC l))
    (eg : ∀ args w, (callFunc g args).run Tryz.prog w = .ok (.enter g args) w) (htx : ∀ x ∈ l, (tx x).length ≤ 100)
    (hp : ∀ (W : World), ∀ x ∈ l, Below w.heap.size w W → Calls Tryz.prog g #[.agg #[.int .i64 x.1, .int .i64 x.2]] W fun e W' => e = .returned (.string (mkB (tx x))) ∧ Below W.heap.size W W') :
    Calls Tryz.prog 39 #[v, .string (mkB nm), .func (.func g) #[] #[], v3] w fun e w' => ∃ v', e = .returned v' ∧ w'.ownsRow B 9 1 v' (ps ++ (if l = [] then [] else [partT nm (l.map tx)])).length (pcC (ps ++ (if l = [] then [] else [partT nm (l.map tx)]))) ∧ Below B w w' := by
  rcases hs.2 with ⟨h0, a, c, rfl⟩ | ⟨b, o, c, rfl, hbl, hc⟩
  · have e0 : l = [] := List.eq_nil_of_length_eq_zero h0
    subst e0
    go_enter Tryz.func39, Tryz.ntmps39
    go_wp2
    go_ret
    exact ⟨v, rfl, by simpa using ho, Below.refl _ _⟩
  · by_cases e0 : l = []
    · have hl0 : l.length = 0 := by rw [e0]; rfl
      have E0 := Lib.hid e0
      have ho2 : w.ownsRow B 9 1 v (ps ++ (if l = [] then [] else [partT nm (l.map tx)])).length (pcC (ps ++ (if l = [] then [] else [partT nm (l.map tx)]))) := by rw [if_pos e0]; simpa using ho
      rw [hl0]
      clear e0
      go_enter Tryz.func39, Tryz.ntmps39
      go_wp2
      go_ret
      exact ⟨v, rfl, by first | exact ho2 | exact ho, Below.refl _ _⟩
    · have hpos : 0 < l.length := List.length_pos_iff.2 e0
      have hli : ((l.length : Int) == 0) = false := by rw [beq_eq_false_iff_ne]; omega
      rw [if_neg e0]
      have HC := Lib.hid hc
      have HP := Lib.hid hp
      have HT := Lib.hid htx
      have HO := Lib.hid ho
      have hpos2 : (0 : Int) ≤ (l.length : Int) := by omega
      have hl24 : (l.length : Int) ≤ 24 := by omega
      clear hc hp htx ho hs e0
      go_enter Tryz.func39, Tryz.ntmps39
      have hmk : ∀ W : World, (Instr.makeSlice 39 (.int .i64 l.length) (.int .i64 l.length)).run Tryz.prog W = .ok (.slice (some ⟨W.heap.size, 0, none⟩) l.length l.length) (W.alloc (.cells (madeCells #[.string ⟨#[]⟩] l.length) 9)) := fun W => by
        obtain ⟨i0, hi, hz0, hz1, hz2⟩ := info_parts infoSv2
        have h := run_make (P := Tryz.prog) W 39 9 i0 (.string ⟨#[]⟩) Tryz.underlying39 hi hz0 .i64 .i64 l.length l.length (by omega) (by omega) (by rw [hz2]; omega) (by omega)
        rw [hz1, show (Value.string ⟨#[]⟩).cells = #[Value.string ⟨#[]⟩] from rfl] at h
        simpa using h
      obtain ⟨i0, hi, hz0, hz1, hz2⟩ := info_parts infoSv2
      go_wp2
      have HX : Hid (TxR (w.alloc (.cells (madeCells #[.string ⟨#[]⟩] l.length) 9)) w.heap.size ((l.take 0).map tx) l.length ∧ Below w.heap.size w (w.alloc (.cells (madeCells #[.string ⟨#[]⟩] l.length) 9))) := Lib.hid ⟨by rw [List.take_zero]; exact TxR.new w _, (Below.refl _ _).alloc (Nat.le_refl _) _⟩
      clear hmk
      go_loopw [21] (fun p wr => ∃ k : Nat, p = .int .i64 k ∧ k ≤ l.length ∧ Hid (TxR wr w.heap.size ((l.take k).map tx) l.length ∧ Below w.heap.size w wr)) (fun p _ => l.length - (intOf p).toNat)
      case atStart => exact ⟨0, rfl, Nat.zero_le _, HX⟩
      case round =>
        obtain ⟨k, rfl, hk, HK⟩ := hrel
        clear HX
        obtain ⟨hT, hb⟩ := HK.out
        by_cases hlt : k < l.length
        · have hki : (k : Int) < (l.length : Int) := by omega
          have hkn : (k : Int) + 1 ≤ (l.length : Int) := by omega
          have hdl : ((l.take k).map tx).length = k := by rw [List.length_map, List.length_take]; omega
          obtain ⟨x, hx⟩ : ∃ x, l[k] = x := ⟨_, rfl⟩
          have hxm : x ∈ l := by rw [← hx]; exact List.getElem_mem hlt
          have hal : Below wr.heap.size wr (wr.alloc (.cells #[.int .i64 x.1, .int .i64 x.2] 57)) := (Below.refl _ _).alloc (Nat.le_refl _) _
          have cp := HP.out (wr.alloc (.cells #[.int .i64 x.1, .int .i64 x.2] 57)) x hxm (hb.trans (hal.mono hb.size))
          have HAL := Lib.hid hal
          clear hal
          have HTX : Hid ((l.take (k + 1)).map tx = (l.take k).map tx ++ [tx x]) := Lib.hid (by rw [List.take_succ_eq_append_getElem hlt, List.map_append, hx]; rfl)
          have HDL := Lib.hid hdl
          have HHB := Lib.hid hb
          have HHT := Lib.hid hT
          obtain ⟨d0, d1⟩ := wd_cells (W := wr) (b := b) (o := o) (l := l) (fun j u hj => (hb.cell (p := ⟨b, o + j, none⟩) hbl).trans (HC.out j u hj)) hlt
          rw [hx] at d0 d1
          obtain ⟨fa, hfa⟩ : ∃ fa, o + k * 2 = fa := ⟨_, rfl⟩
          rw [hfa] at d0 d1
          have hx0 := hx
          clear hx hT hdl hx0
          go_wp2_with (go_at_fn g; refine cp.mono ?_; rintro e W2 ⟨rfl, hb2⟩; clear cp
                       have hT2 := HHT.out.step (bstep HAL.out hb2)
                       have cN : W2.cell? ⟨w.heap.size, k, none⟩ = some (.string ⟨#[]⟩) := (by
                         have := hT2.next (by rw [HDL.out]; exact hlt)
                         rwa [HDL.out] at this)
                       have fN := hT2.frozen k
                       have HT2 := Lib.hid hT2
                       have HB2 := Lib.hid (HHB.out.trans ((bstep HAL.out hb2).mono HHB.out.size))
                       clear hT2 hb2)
          go_round
          case rel =>
            refine ⟨k + 1, by go_num, by omega, Lib.hid ⟨?_, HB2.out.setCell (p := ⟨w.heap.size, k, none⟩) (Nat.le_refl _) _⟩⟩
            rw [HTX.out]
            have := HT2.out.set (by rw [HDL.out]; exact hlt) (tx x)
            rwa [HDL.out] at this
          case measure => simp [intOf]; omega
        · obtain rfl : k = l.length := by omega
          have hki : ¬ (l.length : Int) < (l.length : Int) := by omega
          rw [List.take_length] at hT
          have hdl : ((l.map tx).map mkB).length = l.length := by simp
          have hM : ∀ t ∈ l.map tx, t.length ≤ 100 := fun t ht => by
            obtain ⟨x, hx, rfl⟩ := List.mem_map.1 ht
            exact HT.out x hx
          have hjl := join_max (l.map tx) hM
          rw [List.length_map] at hjl
          have hjl2 : (Lib.join (l.map tx) [44]).length ≤ 2424 := by omega
          have cj := Tryz.strings_Join w.heap.size 0 l.length ((l.map tx).map mkB) ⟨#[44]⟩ wr hT.cells hT.lt (by rw [hdl]; omega) (by rw [hdl]; exact Nat.le_refl _) (by rw [maps_mk]; show (Lib.join (l.map tx) [44]).length ≤ _; omega)
          rw [hdl, maps_mk, show (⟨#[44]⟩ : ByteArray).data.toList = [44] from rfl] at cj
          have HPT := Lib.hid (partT_mk nm (l.map tx))
          have hs1 : (mkB nm).size ≤ 100 := by rw [mkB_size]; exact hn
          have hs2 : (mkB (Lib.join (l.map tx) [44])).size ≤ 2424 := by rw [mkB_size]; exact hjl2
          have hs3 : ¬ 9223372036854775807 < (mkB nm).size + (⟨#[61]⟩ : ByteArray).size := by rw [show (⟨#[61]⟩ : ByteArray).size = 1 from rfl]; omega
          have hs4 : (mkB nm ++ ⟨#[61]⟩ : ByteArray).size ≤ 101 := by rw [ByteArray.size_append, show (⟨#[61]⟩ : ByteArray).size = 1 from rfl]; omega
          have hs5 : ¬ 9223372036854775807 < (mkB nm ++ ⟨#[61]⟩ : ByteArray).size + (mkB (Lib.join (l.map tx) [44])).size := by omega
          have cj2 : Calls Tryz.prog 42 #[.slice (some ⟨w.heap.size, 0, none⟩) l.length l.length, .string ⟨#[44]⟩] wr fun e w' => e = .returned (.string (mkB (Lib.join (l.map tx) [44]))) ∧ Below wr.heap.size wr w' := cj
          have HHB := Lib.hid hb
          clear cj hdl hM hjl hjl2 hT hb HT HP HC
          generalize mkB (Lib.join (l.map tx) [44]) = J at *
          go_wp2_with (first
            | (go_at_call 42; refine cj2.mono ?_; rintro e W2 ⟨rfl, hb2⟩; clear cj2
               have HB2 := Lib.hid (HHB.out.trans (hb2.mono HHB.out.size))
               have HO2 := Lib.hid (own_below HO.out HB2.out)
               have hBW : B ≤ W2.heap.size := Nat.le_trans hB HB2.out.size
               clear hb2)
            | (at_builtin
               refine wpList_append_own _ rfl _ _ 39 rfl B 9 i0 (.string ⟨#[]⟩) 1 16 Tryz.underlying39 hi hz0 hz1 hz2 rfl (by decide) _ _ _ rfl (HO2.out.alloc _) ⟨_, 0, none⟩ 1 1 [.string (mkB nm ++ ⟨#[61]⟩ ++ J)] rfl rfl (cells_newV _ [.string (mkB nm ++ ⟨#[61]⟩ ++ J)] _) (by simp [Value.oneCell']) (by unfold maxLen; omega) (by omega) (by simp; omega) ?_
               intro v' w1 hown' hgrow _
               have HQ := Lib.hid (And.intro hown' (below_append (HB2.out.mono hB) hBW HO2.out hgrow))
               clear hown' hgrow))
          go_ret
          obtain ⟨q1, q2⟩ := HQ.out
          rw [HPT.out] at q1
          exact ⟨_, rfl, by rw [pcC_app, List.length_append]; simpa [pcC, mkB] using q1, q2⟩
set_option maxRecDepth 100000 in
set_option maxHeartbeats 8000000 in
theorem addW_any (v v3 : Value) (nm : List UInt8) (ps : List (List UInt8)) (l : List Wh) (tx : Wh → List UInt8) (g B : Nat) (w : World) (hB : B ≤ w.heap.size) (hn : nm.length ≤ 100) (hl : l.length ≤ 24) (hps : ps.length ≤ 100) (ho : w.ownsRow B 9 1 v ps.length (pcC ps)) (hs : Sl w v3 l.length 3 (whC1 l))
    (eg : ∀ args w, (callFunc g args).run Tryz.prog w = .ok (.enter g args) w) (htx : ∀ x ∈ l, (tx x).length ≤ 100)
    (hp : ∀ (W : World), ∀ x ∈ l, Below w.heap.size w W → Calls Tryz.prog g #[.agg #[.int .i64 x.secs, .bool x.utc, .bool x.date]] W fun e W' => e = .returned (.string (mkB (tx x))) ∧ Below W.heap.size W W') :
    Calls Tryz.prog 37 #[v, .string (mkB nm), .func (.func g) #[] #[], v3] w fun e w' => ∃ v', e = .returned v' ∧ w'.ownsRow B 9 1 v' (ps ++ (if l = [] then [] else [partT nm (l.map tx)])).length (pcC (ps ++ (if l = [] then [] else [partT nm (l.map tx)]))) ∧ Below B w w' := by
  rcases hs.2 with ⟨h0, a, c, rfl⟩ | ⟨b, o, c, rfl, hbl, hc⟩
  · have e0 : l = [] := List.eq_nil_of_length_eq_zero h0
    subst e0
    go_enter Tryz.func37, Tryz.ntmps37
    go_wp2
    go_ret
    exact ⟨v, rfl, by simpa using ho, Below.refl _ _⟩
  · by_cases e0 : l = []
    · have hl0 : l.length = 0 := by rw [e0]; rfl
      have E0 := Lib.hid e0
      have ho2 : w.ownsRow B 9 1 v (ps ++ (if l = [] then [] else [partT nm (l.map tx)])).length (pcC (ps ++ (if l = [] then [] else [partT nm (l.map tx)]))) := by rw [if_pos e0]; simpa using ho
      rw [hl0]
      clear e0
      go_enter Tryz.func37, Tryz.ntmps37
      go_wp2
      go_ret
      exact ⟨v, rfl, by first | exact ho2 | exact ho, Below.refl _ _⟩
    · have hpos : 0 < l.length := List.length_pos_iff.2 e0
      have hli : ((l.length : Int) == 0) = false := by rw [beq_eq_false_iff_ne]; omega
      rw [if_neg e0]
      have HC := Lib.hid hc
      have HP := Lib.hid hp
      have HT := Lib.hid htx
      have HO := Lib.hid ho
      have hpos2 : (0 : Int) ≤ (l.length : Int) := by omega
      have hl24 : (l.length : Int) ≤ 24 := by omega
      clear hc hp htx ho hs e0
      go_enter Tryz.func37, Tryz.ntmps37
      have hmk : ∀ W : World, (Instr.makeSlice 39 (.int .i64 l.length) (.int .i64 l.length)).run Tryz.prog W = .ok (.slice (some ⟨W.heap.size, 0, none⟩) l.length l.length) (W.alloc (.cells (madeCells #[.string ⟨#[]⟩] l.length) 9)) := fun W => by
        obtain ⟨i0, hi, hz0, hz1, hz2⟩ := info_parts infoSv2
        have h := run_make (P := Tryz.prog) W 39 9 i0 (.string ⟨#[]⟩) Tryz.underlying39 hi hz0 .i64 .i64 l.length l.length (by omega) (by omega) (by rw [hz2]; omega) (by omega)
        rw [hz1, show (Value.string ⟨#[]⟩).cells = #[Value.string ⟨#[]⟩] from rfl] at h
        simpa using h
      obtain ⟨i0, hi, hz0, hz1, hz2⟩ := info_parts infoSv2
      go_wp2
      have HX : Hid (TxR (w.alloc (.cells (madeCells #[.string ⟨#[]⟩] l.length) 9)) w.heap.size ((l.take 0).map tx) l.length ∧ Below w.heap.size w (w.alloc (.cells (madeCells #[.string ⟨#[]⟩] l.length) 9))) := Lib.hid ⟨by rw [List.take_zero]; exact TxR.new w _, (Below.refl _ _).alloc (Nat.le_refl _) _⟩
      clear hmk
      go_loopw [21] (fun p wr => ∃ k : Nat, p = .int .i64 k ∧ k ≤ l.length ∧ Hid (TxR wr w.heap.size ((l.take k).map tx) l.length ∧ Below w.heap.size w wr)) (fun p _ => l.length - (intOf p).toNat)
      case atStart => exact ⟨0, rfl, Nat.zero_le _, HX⟩
      case round =>
        obtain ⟨k, rfl, hk, HK⟩ := hrel
        clear HX
        obtain ⟨hT, hb⟩ := HK.out
        by_cases hlt : k < l.length
        · have hki : (k : Int) < (l.length : Int) := by omega
          have hkn : (k : Int) + 1 ≤ (l.length : Int) := by omega
          have hdl : ((l.take k).map tx).length = k := by rw [List.length_map, List.length_take]; omega
          obtain ⟨x, hx⟩ : ∃ x, l[k] = x := ⟨_, rfl⟩
          have hxm : x ∈ l := by rw [← hx]; exact List.getElem_mem hlt
          have hal : Below wr.heap.size wr (wr.alloc (.cells #[.int .i64 x.secs, .bool x.utc, .bool x.date] 23)) := (Below.refl _ _).alloc (Nat.le_refl _) _
          have cp := HP.out (wr.alloc (.cells #[.int .i64 x.secs, .bool x.utc, .bool x.date] 23)) x hxm (hb.trans (hal.mono hb.size))
          have HAL := Lib.hid hal
          clear hal
          have HTX : Hid ((l.take (k + 1)).map tx = (l.take k).map tx ++ [tx x]) := Lib.hid (by rw [List.take_succ_eq_append_getElem hlt, List.map_append, hx]; rfl)
          have HDL := Lib.hid hdl
          have HHB := Lib.hid hb
          have HHT := Lib.hid hT
          obtain ⟨d0, d1, d2⟩ := wh_cells1 (W := wr) (b := b) (o := o) (l := l) (fun j u hj => (hb.cell (p := ⟨b, o + j, none⟩) hbl).trans (HC.out j u hj)) hlt
          rw [hx] at d0 d1 d2
          obtain ⟨fa, hfa⟩ : ∃ fa, o + k * 3 = fa := ⟨_, rfl⟩
          rw [hfa] at d0 d1 d2
          have hx0 := hx
          clear hx hT hdl hx0
          go_wp2_with (go_at_fn g; refine cp.mono ?_; rintro e W2 ⟨rfl, hb2⟩; clear cp
                       have hT2 := HHT.out.step (bstep HAL.out hb2)
                       have cN : W2.cell? ⟨w.heap.size, k, none⟩ = some (.string ⟨#[]⟩) := (by
                         have := hT2.next (by rw [HDL.out]; exact hlt)
                         rwa [HDL.out] at this)
                       have fN := hT2.frozen k
                       have HT2 := Lib.hid hT2
                       have HB2 := Lib.hid (HHB.out.trans ((bstep HAL.out hb2).mono HHB.out.size))
                       clear hT2 hb2)
          go_round
          case rel =>
            refine ⟨k + 1, by go_num, by omega, Lib.hid ⟨?_, HB2.out.setCell (p := ⟨w.heap.size, k, none⟩) (Nat.le_refl _) _⟩⟩
            rw [HTX.out]
            have := HT2.out.set (by rw [HDL.out]; exact hlt) (tx x)
            rwa [HDL.out] at this
          case measure => simp [intOf]; omega
        · obtain rfl : k = l.length := by omega
          have hki : ¬ (l.length : Int) < (l.length : Int) := by omega
          rw [List.take_length] at hT
          have hdl : ((l.map tx).map mkB).length = l.length := by simp
          have hM : ∀ t ∈ l.map tx, t.length ≤ 100 := fun t ht => by
            obtain ⟨x, hx, rfl⟩ := List.mem_map.1 ht
            exact HT.out x hx
          have hjl := join_max (l.map tx) hM
          rw [List.length_map] at hjl
          have hjl2 : (Lib.join (l.map tx) [44]).length ≤ 2424 := by omega
          have cj := Tryz.strings_Join w.heap.size 0 l.length ((l.map tx).map mkB) ⟨#[44]⟩ wr hT.cells hT.lt (by rw [hdl]; omega) (by rw [hdl]; exact Nat.le_refl _) (by rw [maps_mk]; show (Lib.join (l.map tx) [44]).length ≤ _; omega)
          rw [hdl, maps_mk, show (⟨#[44]⟩ : ByteArray).data.toList = [44] from rfl] at cj
          have HPT := Lib.hid (partT_mk nm (l.map tx))
          have hs1 : (mkB nm).size ≤ 100 := by rw [mkB_size]; exact hn
          have hs2 : (mkB (Lib.join (l.map tx) [44])).size ≤ 2424 := by rw [mkB_size]; exact hjl2
          have hs3 : ¬ 9223372036854775807 < (mkB nm).size + (⟨#[61]⟩ : ByteArray).size := by rw [show (⟨#[61]⟩ : ByteArray).size = 1 from rfl]; omega
          have hs4 : (mkB nm ++ ⟨#[61]⟩ : ByteArray).size ≤ 101 := by rw [ByteArray.size_append, show (⟨#[61]⟩ : ByteArray).size = 1 from rfl]; omega
          have hs5 : ¬ 9223372036854775807 < (mkB nm ++ ⟨#[61]⟩ : ByteArray).size + (mkB (Lib.join (l.map tx) [44])).size := by omega
          have cj2 : Calls Tryz.prog 42 #[.slice (some ⟨w.heap.size, 0, none⟩) l.length l.length, .string ⟨#[44]⟩] wr fun e w' => e = .returned (.string (mkB (Lib.join (l.map tx) [44]))) ∧ Below wr.heap.size wr w' := cj
          have HHB := Lib.hid hb
          clear cj hdl hM hjl hjl2 hT hb HT HP HC
          generalize mkB (Lib.join (l.map tx) [44]) = J at *
          go_wp2_with (first
            | (go_at_call 42; refine cj2.mono ?_; rintro e W2 ⟨rfl, hb2⟩; clear cj2
               have HB2 := Lib.hid (HHB.out.trans (hb2.mono HHB.out.size))
               have HO2 := Lib.hid (own_below HO.out HB2.out)
               have hBW : B ≤ W2.heap.size := Nat.le_trans hB HB2.out.size
               clear hb2)
            | (at_builtin
               refine wpList_append_own _ rfl _ _ 39 rfl B 9 i0 (.string ⟨#[]⟩) 1 16 Tryz.underlying39 hi hz0 hz1 hz2 rfl (by decide) _ _ _ rfl (HO2.out.alloc _) ⟨_, 0, none⟩ 1 1 [.string (mkB nm ++ ⟨#[61]⟩ ++ J)] rfl rfl (cells_newV _ [.string (mkB nm ++ ⟨#[61]⟩ ++ J)] _) (by simp [Value.oneCell']) (by unfold maxLen; omega) (by omega) (by simp; omega) ?_
               intro v' w1 hown' hgrow _
               have HQ := Lib.hid (And.intro hown' (below_append (HB2.out.mono hB) hBW HO2.out hgrow))
               clear hown' hgrow))
          go_ret
          obtain ⟨q1, q2⟩ := HQ.out
          rw [HPT.out] at q1
          exact ⟨_, rfl, by rw [pcC_app, List.length_append]; simpa [pcC, mkB] using q1, q2⟩
end Go.Proofs.YtnidkcedomhofaaGreatDoor
