/-
  The program's own functions of layer 14: a part, as far as its values.
-/
import Derived.Test.YtnidkcedomhofaaGreatDoorG26
namespace Go.Proofs.YtnidkcedomhofaaGreatDoor
open Go.RowKit

/-- A part as far as its values: its kind, its name, its value; or the error. -/
def begV (seen : List (List UInt8)) (p : List UInt8) : Except Int (Nat × List UInt8 × List UInt8) :=
  if (Lib.cut p [61]).2.2 = false then .error 10
  else if nameL (Lib.cut p [61]).1 < 0 then .error 21
  else if nameL (Lib.cut p [61]).1 = 0 ∧ freqL (Lib.cut p [61]).2.1 = 0 then .error 21
  else if (Lib.cut p [61]).1 ∈ seen then .error 25
  else if isLst (nameL (Lib.cut p [61]).1).toNat = true ∧ 24 < (splitC 44 [] (Lib.cut p [61]).2.1).length then .error 27
  else .ok ((nameL (Lib.cut p [61]).1).toNat, (Lib.cut p [61]).1, (Lib.cut p [61]).2.1)
theorem stepV_beg (r : RuV) (seen : List (List UInt8)) (p : List UInt8) : stepV r seen p = match begV seen p with
    | .error e => .error e
    | .ok x => (match foldK x.1 r (valsK x.1 x.2.2) with
      | none => .error 10
      | some q => .ok (q, seen ++ [x.2.1])) := by
  unfold stepV begV
  split
  · rfl
  · split
    · rfl
    · split
      · rfl
      · split
        · rfl
        · split
          · rfl
          · rfl
theorem bdN {B : Nat} {w w' : World} (h : Below B w w') (n : Nat) : Below B w (w'.drewN n) := h.trans ⟨rfl, rfl, rfl, Nat.le_refl _, fun _ _ => rfl⟩
theorem nil_nil (w : World) : (binOp .eql 35 .nilFunc .nilFunc).run Tryz.prog w = .ok (.bool true) w := by kernel_rfl
theorem fun_nil (f : Fn) (a b : Array Value) (w : World) : (binOp .eql 35 (.func f a b) .nilFunc).run Tryz.prog w = .ok (.bool false) w := by kernel_rfl
theorem cut_lens (l : List UInt8) (c : List UInt8) : (Lib.cut l c).1.length ≤ l.length ∧ (Lib.cut l c).2.1.length ≤ l.length := by
  unfold Lib.cut
  split
  · simp only [List.length_take, List.length_drop]; omega
  · simp
theorem infoSv : (Tryz.prog.info? 9).map (fun i => (i.zero, i.size, i.bytes)) = some (some (.string ⟨#[]⟩), 1, 16) := by kernel_rfl
/-- What begin answers. -/
def BgAns (K n : Nat) (r : RuV) (sn : List (List UInt8)) (l : List UInt8) (W : World) (e : Ending) (W' : World) : Prop :=
  match begV sn l with
  | .error f => e = .returned (.tuple #[.agg #[.string ⟨#[]⟩, .bool false, .nilFunc], .slice none 0 0, .int .i64 f]) ∧ Below W.heap.size W W'
  | .ok x => ∃ (g c : Nat), e = .returned (.tuple #[.agg #[.string (mkB x.2.1), .bool (isLst x.1), .func (.func (fnK x.1)) #[.pointer (some ⟨K, 0, none⟩)] #[]], .slice (some ⟨g, 0, none⟩) (valsK x.1 x.2.2).length c, .int .i64 0]) ∧
      W.heap.size ≤ g ∧ Tx W' g c (valsK x.1 x.2.2) ∧ (valsK x.1 x.2.2).length ≤ 24 ∧ x.1 < 9 ∧ (∀ p ∈ valsK x.1 x.2.2, p.length ≤ l.length) ∧ Ch K n W W' ∧ Rd K n r (sn ++ [x.2.1]) W'
theorem results_ctt {P : Program} {fn : Func} {t u x : Tmp} {T : TypeId} (h : fn.results = #[.cell t T, .tmp u, .tmp x]) (tmps : Array Value) {w : World} {a : Addr} {v v2 v3 : Value} (ht : tmps.getD t undef = .pointer (some a)) (hu : tmps.getD u undef = v2) (hx : tmps.getD x undef = v3) (hv : (Go.loadVar T a).run P w = .ok v w) :
    (results fn tmps).run P w = .ok (.tuple #[v, v2, v3]) w := by
  subst hu hx
  have ht2 : tmps[t]?.getD undef = .pointer (some a) := by rw [← Array.getD_eq_getD_getElem?]; exact ht
  simp [results, h, ht2, asAddr, hv]
theorem any_in (x : ByteArray) : ∀ sn : List (List UInt8), ((sn.map mkB).any fun y => x.toList == y.toList) = decide (x.data.toList ∈ sn)
  | [] => by simp
  | p :: sn => by
    rw [List.map_cons, List.any_cons, any_in x sn, eq_text]
    by_cases h : p = x.data.toList
    · subst h; simp
    · have h2 : ¬ x.data.toList = p := fun e => h e.symm
      simp [h, h2]
theorem contains_any {W : World} {n : Nat} {v : Value} {sn : List (List UInt8)} (h : W.ownsRow n 9 1 v sn.length (pcC sn)) (hl : sn.length ≤ 10000000) (x : ByteArray) :
    Calls Tryz.prog 54 #[v, .string x] W fun e w' => e = .returned (.bool (decide (x.data.toList ∈ sn))) ∧ w' = W := by
  rcases own_nil_or h with rfl | ⟨g, cap, rfl, _, _, _⟩
  · have e0 : sn = [] := by
      rcases h.2 with ⟨_, h0⟩ | ⟨g, cap, cur, hv, _⟩
      · exact List.eq_nil_of_length_eq_zero h0
      · cases hv
    subst e0
    exact (Tryz.slices_Contains_empty (α := ByteArray) none 0 (.string x) W).mono fun e w' h => ⟨by rw [h.1]; rfl, h.2⟩
  · have hc : ∀ j, j < (sn.map mkB).length → W.cell? ⟨g, 0 + j, none⟩ = some (.string (sn.map mkB)[j]!) := by
      intro j hj
      rw [List.length_map] at hj
      have ea : (⟨g, 0, none⟩ : Addr).add j = ⟨g, 0 + j, none⟩ := by unfold Addr.add; split <;> simp_all
      have := h.cells (g := g) rfl j (.string (sn.map mkB)[j]!) (by
        rw [getElem!_pos _ _ (by rwa [List.length_map])]
        simp [pcC, mkB, List.getElem?_eq_getElem hj])
      rw [ea] at this
      exact this
    have cc := Tryz.slices_Contains Value.string (fun x y => x.toList == y.toList) (EqlAt.string _ _) g 0 sn.length cap (sn.map mkB) x W (by simp) (by omega) hc
    rw [List.take_of_length_le (by simp), any_in] at cc
    exact cc
theorem own_put3 {W : World} {g n size k : Nat} {e : TypeId} {v : Value} {xs : List Value} {a b c v0 u1 u2 : Value} (hB : B3 W g a b c) (he : e ≠ 48) (h : W.ownsRow n e size v k xs) : (put3 W g v0 u1 u2).ownsRow n e size v k xs := by
  refine ⟨h.1, ?_⟩
  rcases h.2 with h' | ⟨g2, cap, cur, hv, hb, hg, hr⟩
  · exact .inl h'
  · refine .inr ⟨g2, cap, cur, hv, hb, (put3_other (fun e2 => ?_) _ _ _).trans hg, hr⟩
    subst e2
    unfold B3 at hB
    rw [hB] at hg
    simp only [Option.some.injEq, Obj.cells.injEq] at hg
    exact he hg.2.1.symm
theorem Rw.put3 {W : World} {g n : Nat} {r : RuV} {sn : List (List UInt8)} {v1 v2 v3 v4 v5 a b c v0 u1 u2 : Value} (hB : B3 W g a b c) (h : Rw W n r sn v1 v2 v3 v4 v5) : Rw (Go.Proofs.YtnidkcedomhofaaGreatDoor.put3 W g v0 u1 u2) n r sn v1 v2 v3 v4 v5 :=
  ⟨own_put3 hB (by decide) h.o1, own_put3 hB (by decide) h.o2, own_put3 hB (by decide) h.o3, own_put3 hB (by decide) h.o4, own_put3 hB (by decide) h.o5, h.a12, h.a14, h.a24⟩
theorem Ch.put3 {K n g : Nat} (W : World) (hK : K ≤ n) (hg : n ≤ g) (v0 v1 v2 : Value) : Ch K n W (Go.Proofs.YtnidkcedomhofaaGreatDoor.put3 W g v0 v1 v2) :=
  ⟨below_put3 (by omega) _ _ _, fun B => keepV_put3 B W g v0 v1 v2, fun k h1 _ => put3_other (by omega) _ _ _⟩
theorem B3.blk {W W' : World} {g : Nat} {a b c : Value} (h : B3 W g a b c) (e : W'.heap[g]? = W.heap[g]?) : B3 W' g a b c := e.trans h
set_option maxRecDepth 100000 in
set_option maxHeartbeats 8000000 in
theorem beg_a0 (s : ByteArray) (hs : s.size ≤ 1048576) (K n : Nat) (r : RuV) (sn : List (List UInt8)) (W : World) (_hK : K < n) (_hn : n ≤ W.heap.size) (hl : sn.length ≤ 2000000) (hv : VV W) (h : Rd K n r sn W) (nm v : List UInt8) (ok : Bool) (hcut : Lib.cut s.data.toList [61] = (nm, v, ok)) (hok : ok = false) (hneg : nameL nm < 0) :
    Calls Tryz.prog 20 #[.pointer (some ⟨K, 0, none⟩), .string s] W (BgAns K n r sn s.data.toList W) := by
  obtain ⟨v1, v2, v3, v4, v5, hB, hR⟩ := h
  obtain ⟨m, hm⟩ := hv.mx
  have hsz := bsize s
  have hlen : nm.length ≤ s.size ∧ v.length ≤ s.size := by
    have := cut_lens s.data.toList [61]
    rw [hcut, ← hsz] at this
    exact this
  have hb1 : Below W.heap.size W (W.alloc (.cells #[.string ⟨#[]⟩, .bool false, .nilFunc] 48)) := (Below.refl _ W).alloc (Nat.le_refl _) _
  have cc := Tryz.strings_Cut s ⟨#[61]⟩ m (W.alloc (.cells #[.string ⟨#[]⟩, .bool false, .nilFunc] 48)) (by omega) ((hb1.cell (p := ⟨4, 0, none⟩) (cell_in hm)).trans hm)
  rw [show (⟨#[61]⟩ : ByteArray).data.toList = [61] from rfl, hcut] at cc
  have cp := fun w => part14_any (mkB nm) K w
  rw [mkB_list] at cp
  rw [(show prtV K nm = .agg #[.string ⟨#[]⟩, .bool false, .nilFunc] by unfold prtV; rw [if_pos hneg])] at cp
  have hsv : (mkB v).size ≤ 1048576 := by rw [bsize, mkB_list]; omega
  have HE : Hid (begV sn s.data.toList = .error 10) := Lib.hid (by unfold begV; rw [hcut]; simp only; rw [if_pos hok])
  subst hok
  have hz1 := B3.new W (.string ⟨#[]⟩) (.bool false) .nilFunc
  have hlt := hB.lt
  have HB := Lib.hid hB
  have HR := Lib.hid hR
  have HV := Lib.hid hv
  have HB1 := Lib.hid hb1
  have HZ1 := Lib.hid hz1
  have hst : ∀ (a : Addr) (m : Mode) (W : World), Sem.run Tryz.prog (store a (.nilFunc) m) W = stored Tryz.prog W a (.nilFunc) m := fun a m W => run_store _ W a _ m rfl
  have hst0 : ∀ (a : Addr) (m : Mode) (W : World), Sem.run Tryz.prog (store a .nilFunc m) W = stored Tryz.prog W a .nilFunc m := fun a m W => run_store _ W a _ m rfl
  have hnn := fun w => nil_nil w
  have hfn := fun f a b w => fun_nil f a b w
  have HL := Lib.hid hlen
  have HS := Lib.hid hsz
  have HSV := Lib.hid hsv
  clear hB hR hm hlen hsz hsv hcut hb1 hz1 hv
  go_enter Tryz.func20, Tryz.ntmps20
  go_wp2_with (first
    | (go_at_call 50; refine cc.mono ?_; rintro e w' ⟨rfl, nq, hw⟩; subst w'; clear cc
       have hbq : Below W.heap.size W ((W.alloc (.cells #[.string ⟨#[]⟩, .bool false, .nilFunc] 48)).drewN nq) := bdN HB1.out nq
       have hz1 : B3 ((W.alloc (.cells #[.string ⟨#[]⟩, .bool false, .nilFunc] 48)).drewN nq) W.heap.size (.string ⟨#[]⟩) (.bool false) .nilFunc := HZ1.out.step (bdN (Below.refl _ _) nq)
       have HBQ := Lib.hid hbq
       have HZQ := Lib.hid hz1
       clear hbq hz1
       generalize (W.alloc (.cells #[.string ⟨#[]⟩, .bool false, .nilFunc] 48)).drewN nq = W1 at *)
    | (go_at_call 51; refine (cp _).mono ?_; rintro e W2 ⟨rfl, hb2⟩; clear cp
       have HB2 := Lib.hid hb2
       clear hb2)
    | (go_at_call 52
       have hb3 : Below W2.heap.size W2 (W2.alloc (.cells #[.string ⟨#[]⟩, .bool false, .nilFunc] 48)) := (Below.refl _ _).alloc (Nat.le_refl _) _
       have hv3 : VV (W2.alloc (.cells #[.string ⟨#[]⟩, .bool false, .nilFunc] 48)) := ((HV.out.step HBQ.out).step HB2.out).step hb3
       refine (values14_any ⟨#[]⟩ false (.nilFunc) rfl (mkB v) HSV.out _ hv3).mono ?_
       rintro e W4 ⟨g, c, ps, rfl, hgl, hTx, hVs, hb4⟩
       rw [mkB_list] at hVs
       have hb04 : Below W.heap.size W W4 := HBQ.out.trans ((HB2.out.mono HBQ.out.size).trans ((hb3.mono (Nat.le_trans HBQ.out.size HB2.out.size)).trans (hb4.mono (Nat.le_trans HBQ.out.size (Nat.le_trans HB2.out.size hb3.size)))))
       have q1 : B3 W4 W.heap.size (.string ⟨#[]⟩) (.bool false) .nilFunc := ((HZQ.out.step HB2.out).step hb3).step hb4
       have q2 : B3 W4 W2.heap.size (.string ⟨#[]⟩) (.bool false) (.nilFunc) := (B3.new W2 _ _ _).step hb4
       have q3 := HB.out.step hb04
       have q4 := HR.out.below hb04
       have hgl2 : W2.heap.size < g := by have : (W2.alloc (.cells #[.string ⟨#[]⟩, .bool false, .nilFunc] 48)).heap.size = W2.heap.size + 1 := by simp
                                          omega
       have hH2 : W.heap.size < W2.heap.size := Nat.lt_of_lt_of_le HZQ.out.lt HB2.out.size
       have hW4 : W2.heap.size < W4.heap.size := q2.lt
       have hv4 := HV.out.step hb04
       have cw := contains_any q4.o5 (by omega) (mkB nm)
       rw [mkB_list] at cw
       have cf := freqOf_any (mkB v) W4 hv4
       rw [mkB_list] at cf
       obtain ⟨z0, z1, z2⟩ := q1.cells
       have zf := q1.frozen
       obtain ⟨p0, p1, p2⟩ := q2.cells
       have c12 : W4.cell? ⟨K, 12, none⟩ = some v5 := q3.cell (j := 12) rfl
       have n1 : ¬ K = W.heap.size := by omega
       have n2 : ¬ W.heap.size = K := by omega
       have n3 : ¬ K = W2.heap.size := by omega
       have n4 : ¬ W2.heap.size = K := by omega
       have n5 : ¬ W.heap.size = W2.heap.size := by omega
       have n6 : ¬ W2.heap.size = W.heap.size := by omega
       have X := Lib.hid (And.intro q1 (And.intro q2 (And.intro q3 (And.intro q4 hb04))))
       have Y := Lib.hid (And.intro hTx (And.intro hVs hgl2))
       have hvl := hVs.1
       clear q1 q2 q3 q4 hb04 hTx hVs hb3 hb4 hv3 hv4)
)
  refine bodyPost_ret (results_ctt rfl _ rfl rfl rfl (load_b3 (n := ⟨#[]⟩) (b := false) (c := .nilFunc) rfl (heap_put3 X.out.1))) rfl ?_
  unfold BgAns
  rw [HE.out]
  exact ⟨rfl, X.out.2.2.2.2.trans (below_put3 (Nat.le_refl _) _ _ _)⟩
set_option maxRecDepth 100000 in
set_option maxHeartbeats 8000000 in
theorem beg_a1 (s : ByteArray) (hs : s.size ≤ 1048576) (K n : Nat) (r : RuV) (sn : List (List UInt8)) (W : World) (_hK : K < n) (_hn : n ≤ W.heap.size) (hl : sn.length ≤ 2000000) (hv : VV W) (h : Rd K n r sn W) (nm v : List UInt8) (ok : Bool) (hcut : Lib.cut s.data.toList [61] = (nm, v, ok)) (hok : ok = false) (k : Nat) (hk : nameL nm = k) :
    Calls Tryz.prog 20 #[.pointer (some ⟨K, 0, none⟩), .string s] W (BgAns K n r sn s.data.toList W) := by
  obtain ⟨v1, v2, v3, v4, v5, hB, hR⟩ := h
  obtain ⟨m, hm⟩ := hv.mx
  have hsz := bsize s
  have hlen : nm.length ≤ s.size ∧ v.length ≤ s.size := by
    have := cut_lens s.data.toList [61]
    rw [hcut, ← hsz] at this
    exact this
  have hb1 : Below W.heap.size W (W.alloc (.cells #[.string ⟨#[]⟩, .bool false, .nilFunc] 48)) := (Below.refl _ W).alloc (Nat.le_refl _) _
  have cc := Tryz.strings_Cut s ⟨#[61]⟩ m (W.alloc (.cells #[.string ⟨#[]⟩, .bool false, .nilFunc] 48)) (by omega) ((hb1.cell (p := ⟨4, 0, none⟩) (cell_in hm)).trans hm)
  rw [show (⟨#[61]⟩ : ByteArray).data.toList = [61] from rfl, hcut] at cc
  have cp := fun w => part14_any (mkB nm) K w
  rw [mkB_list] at cp
  rw [(show prtV K nm = .agg #[.string (mkB nm), .bool (isLst k), .func (.func (fnK k)) #[.pointer (some ⟨K, 0, none⟩)] #[]] by unfold prtV; rw [hk, if_neg (by omega), Int.toNat_natCast]; rfl)] at cp
  have hsv : (mkB v).size ≤ 1048576 := by rw [bsize, mkB_list]; omega
  have HE : Hid (begV sn s.data.toList = .error 10) := Lib.hid (by unfold begV; rw [hcut]; simp only; rw [if_pos hok])
  subst hok
  have hz1 := B3.new W (.string ⟨#[]⟩) (.bool false) .nilFunc
  have hlt := hB.lt
  have HB := Lib.hid hB
  have HR := Lib.hid hR
  have HV := Lib.hid hv
  have HB1 := Lib.hid hb1
  have HZ1 := Lib.hid hz1
  have hst : ∀ (a : Addr) (m : Mode) (W : World), Sem.run Tryz.prog (store a (.func (.func (fnK k)) #[.pointer (some ⟨K, 0, none⟩)] #[]) m) W = stored Tryz.prog W a (.func (.func (fnK k)) #[.pointer (some ⟨K, 0, none⟩)] #[]) m := fun a m W => run_store _ W a _ m rfl
  have hst0 : ∀ (a : Addr) (m : Mode) (W : World), Sem.run Tryz.prog (store a .nilFunc m) W = stored Tryz.prog W a .nilFunc m := fun a m W => run_store _ W a _ m rfl
  have hnn := fun w => nil_nil w
  have hfn := fun f a b w => fun_nil f a b w
  have HL := Lib.hid hlen
  have HS := Lib.hid hsz
  have HSV := Lib.hid hsv
  clear hB hR hm hlen hsz hsv hcut hb1 hz1 hv
  go_enter Tryz.func20, Tryz.ntmps20
  go_wp2_with (first
    | (go_at_call 50; refine cc.mono ?_; rintro e w' ⟨rfl, nq, hw⟩; subst w'; clear cc
       have hbq : Below W.heap.size W ((W.alloc (.cells #[.string ⟨#[]⟩, .bool false, .nilFunc] 48)).drewN nq) := bdN HB1.out nq
       have hz1 : B3 ((W.alloc (.cells #[.string ⟨#[]⟩, .bool false, .nilFunc] 48)).drewN nq) W.heap.size (.string ⟨#[]⟩) (.bool false) .nilFunc := HZ1.out.step (bdN (Below.refl _ _) nq)
       have HBQ := Lib.hid hbq
       have HZQ := Lib.hid hz1
       clear hbq hz1
       generalize (W.alloc (.cells #[.string ⟨#[]⟩, .bool false, .nilFunc] 48)).drewN nq = W1 at *)
    | (go_at_call 51; refine (cp _).mono ?_; rintro e W2 ⟨rfl, hb2⟩; clear cp
       have HB2 := Lib.hid hb2
       clear hb2)
    | (go_at_call 52
       have hb3 : Below W2.heap.size W2 (W2.alloc (.cells #[.string (mkB nm), .bool (isLst k), .func (.func (fnK k)) #[.pointer (some ⟨K, 0, none⟩)] #[]] 48)) := (Below.refl _ _).alloc (Nat.le_refl _) _
       have hv3 : VV (W2.alloc (.cells #[.string (mkB nm), .bool (isLst k), .func (.func (fnK k)) #[.pointer (some ⟨K, 0, none⟩)] #[]] 48)) := ((HV.out.step HBQ.out).step HB2.out).step hb3
       refine (values14_any (mkB nm) (isLst k) (.func (.func (fnK k)) #[.pointer (some ⟨K, 0, none⟩)] #[]) rfl (mkB v) HSV.out _ hv3).mono ?_
       rintro e W4 ⟨g, c, ps, rfl, hgl, hTx, hVs, hb4⟩
       rw [mkB_list] at hVs
       have hb04 : Below W.heap.size W W4 := HBQ.out.trans ((HB2.out.mono HBQ.out.size).trans ((hb3.mono (Nat.le_trans HBQ.out.size HB2.out.size)).trans (hb4.mono (Nat.le_trans HBQ.out.size (Nat.le_trans HB2.out.size hb3.size)))))
       have q1 : B3 W4 W.heap.size (.string ⟨#[]⟩) (.bool false) .nilFunc := ((HZQ.out.step HB2.out).step hb3).step hb4
       have q2 : B3 W4 W2.heap.size (.string (mkB nm)) (.bool (isLst k)) (.func (.func (fnK k)) #[.pointer (some ⟨K, 0, none⟩)] #[]) := (B3.new W2 _ _ _).step hb4
       have q3 := HB.out.step hb04
       have q4 := HR.out.below hb04
       have hgl2 : W2.heap.size < g := by have : (W2.alloc (.cells #[.string (mkB nm), .bool (isLst k), .func (.func (fnK k)) #[.pointer (some ⟨K, 0, none⟩)] #[]] 48)).heap.size = W2.heap.size + 1 := by simp
                                          omega
       have hH2 : W.heap.size < W2.heap.size := Nat.lt_of_lt_of_le HZQ.out.lt HB2.out.size
       have hW4 : W2.heap.size < W4.heap.size := q2.lt
       have hv4 := HV.out.step hb04
       have cw := contains_any q4.o5 (by omega) (mkB nm)
       rw [mkB_list] at cw
       have cf := freqOf_any (mkB v) W4 hv4
       rw [mkB_list] at cf
       obtain ⟨z0, z1, z2⟩ := q1.cells
       have zf := q1.frozen
       obtain ⟨p0, p1, p2⟩ := q2.cells
       have c12 : W4.cell? ⟨K, 12, none⟩ = some v5 := q3.cell (j := 12) rfl
       have n1 : ¬ K = W.heap.size := by omega
       have n2 : ¬ W.heap.size = K := by omega
       have n3 : ¬ K = W2.heap.size := by omega
       have n4 : ¬ W2.heap.size = K := by omega
       have n5 : ¬ W.heap.size = W2.heap.size := by omega
       have n6 : ¬ W2.heap.size = W.heap.size := by omega
       have X := Lib.hid (And.intro q1 (And.intro q2 (And.intro q3 (And.intro q4 hb04))))
       have Y := Lib.hid (And.intro hTx (And.intro hVs hgl2))
       have hvl := hVs.1
       clear q1 q2 q3 q4 hb04 hTx hVs hb3 hb4 hv3 hv4)
)
  refine bodyPost_ret (results_ctt rfl _ rfl rfl rfl (load_b3 (n := ⟨#[]⟩) (b := false) (c := .nilFunc) rfl (heap_put3 X.out.1))) rfl ?_
  unfold BgAns
  rw [HE.out]
  exact ⟨rfl, X.out.2.2.2.2.trans (below_put3 (Nat.le_refl _) _ _ _)⟩
set_option maxRecDepth 100000 in
set_option maxHeartbeats 8000000 in
theorem beg_b (s : ByteArray) (hs : s.size ≤ 1048576) (K n : Nat) (r : RuV) (sn : List (List UInt8)) (W : World) (_hK : K < n) (_hn : n ≤ W.heap.size) (hl : sn.length ≤ 2000000) (hv : VV W) (h : Rd K n r sn W) (nm v : List UInt8) (ok : Bool) (hcut : Lib.cut s.data.toList [61] = (nm, v, ok)) (hok : ok = true) (hneg : nameL nm < 0) :
    Calls Tryz.prog 20 #[.pointer (some ⟨K, 0, none⟩), .string s] W (BgAns K n r sn s.data.toList W) := by
  obtain ⟨v1, v2, v3, v4, v5, hB, hR⟩ := h
  obtain ⟨m, hm⟩ := hv.mx
  have hsz := bsize s
  have hlen : nm.length ≤ s.size ∧ v.length ≤ s.size := by
    have := cut_lens s.data.toList [61]
    rw [hcut, ← hsz] at this
    exact this
  have hb1 : Below W.heap.size W (W.alloc (.cells #[.string ⟨#[]⟩, .bool false, .nilFunc] 48)) := (Below.refl _ W).alloc (Nat.le_refl _) _
  have cc := Tryz.strings_Cut s ⟨#[61]⟩ m (W.alloc (.cells #[.string ⟨#[]⟩, .bool false, .nilFunc] 48)) (by omega) ((hb1.cell (p := ⟨4, 0, none⟩) (cell_in hm)).trans hm)
  rw [show (⟨#[61]⟩ : ByteArray).data.toList = [61] from rfl, hcut] at cc
  have cp := fun w => part14_any (mkB nm) K w
  rw [mkB_list] at cp
  rw [(show prtV K nm = .agg #[.string ⟨#[]⟩, .bool false, .nilFunc] by unfold prtV; rw [if_pos hneg])] at cp
  have hsv : (mkB v).size ≤ 1048576 := by rw [bsize, mkB_list]; omega
  have HE : Hid (begV sn s.data.toList = .error 21) := Lib.hid (by unfold begV; rw [hcut]; simp only; rw [if_neg (by rw [hok]; decide), if_pos hneg])
  subst hok
  have hz1 := B3.new W (.string ⟨#[]⟩) (.bool false) .nilFunc
  have hlt := hB.lt
  have HB := Lib.hid hB
  have HR := Lib.hid hR
  have HV := Lib.hid hv
  have HB1 := Lib.hid hb1
  have HZ1 := Lib.hid hz1
  have hst : ∀ (a : Addr) (m : Mode) (W : World), Sem.run Tryz.prog (store a (.nilFunc) m) W = stored Tryz.prog W a (.nilFunc) m := fun a m W => run_store _ W a _ m rfl
  have hst0 : ∀ (a : Addr) (m : Mode) (W : World), Sem.run Tryz.prog (store a .nilFunc m) W = stored Tryz.prog W a .nilFunc m := fun a m W => run_store _ W a _ m rfl
  have hnn := fun w => nil_nil w
  have hfn := fun f a b w => fun_nil f a b w
  have HL := Lib.hid hlen
  have HS := Lib.hid hsz
  have HSV := Lib.hid hsv
  clear hB hR hm hlen hsz hsv hcut hb1 hz1 hv
  go_enter Tryz.func20, Tryz.ntmps20
  go_wp2_with (first
    | (go_at_call 50; refine cc.mono ?_; rintro e w' ⟨rfl, nq, hw⟩; subst w'; clear cc
       have hbq : Below W.heap.size W ((W.alloc (.cells #[.string ⟨#[]⟩, .bool false, .nilFunc] 48)).drewN nq) := bdN HB1.out nq
       have hz1 : B3 ((W.alloc (.cells #[.string ⟨#[]⟩, .bool false, .nilFunc] 48)).drewN nq) W.heap.size (.string ⟨#[]⟩) (.bool false) .nilFunc := HZ1.out.step (bdN (Below.refl _ _) nq)
       have HBQ := Lib.hid hbq
       have HZQ := Lib.hid hz1
       clear hbq hz1
       generalize (W.alloc (.cells #[.string ⟨#[]⟩, .bool false, .nilFunc] 48)).drewN nq = W1 at *)
    | (go_at_call 51; refine (cp _).mono ?_; rintro e W2 ⟨rfl, hb2⟩; clear cp
       have HB2 := Lib.hid hb2
       clear hb2)
    | (go_at_call 52
       have hb3 : Below W2.heap.size W2 (W2.alloc (.cells #[.string ⟨#[]⟩, .bool false, .nilFunc] 48)) := (Below.refl _ _).alloc (Nat.le_refl _) _
       have hv3 : VV (W2.alloc (.cells #[.string ⟨#[]⟩, .bool false, .nilFunc] 48)) := ((HV.out.step HBQ.out).step HB2.out).step hb3
       refine (values14_any ⟨#[]⟩ false (.nilFunc) rfl (mkB v) HSV.out _ hv3).mono ?_
       rintro e W4 ⟨g, c, ps, rfl, hgl, hTx, hVs, hb4⟩
       rw [mkB_list] at hVs
       have hb04 : Below W.heap.size W W4 := HBQ.out.trans ((HB2.out.mono HBQ.out.size).trans ((hb3.mono (Nat.le_trans HBQ.out.size HB2.out.size)).trans (hb4.mono (Nat.le_trans HBQ.out.size (Nat.le_trans HB2.out.size hb3.size)))))
       have q1 : B3 W4 W.heap.size (.string ⟨#[]⟩) (.bool false) .nilFunc := ((HZQ.out.step HB2.out).step hb3).step hb4
       have q2 : B3 W4 W2.heap.size (.string ⟨#[]⟩) (.bool false) (.nilFunc) := (B3.new W2 _ _ _).step hb4
       have q3 := HB.out.step hb04
       have q4 := HR.out.below hb04
       have hgl2 : W2.heap.size < g := by have : (W2.alloc (.cells #[.string ⟨#[]⟩, .bool false, .nilFunc] 48)).heap.size = W2.heap.size + 1 := by simp
                                          omega
       have hH2 : W.heap.size < W2.heap.size := Nat.lt_of_lt_of_le HZQ.out.lt HB2.out.size
       have hW4 : W2.heap.size < W4.heap.size := q2.lt
       have hv4 := HV.out.step hb04
       have cw := contains_any q4.o5 (by omega) (mkB nm)
       rw [mkB_list] at cw
       have cf := freqOf_any (mkB v) W4 hv4
       rw [mkB_list] at cf
       obtain ⟨z0, z1, z2⟩ := q1.cells
       have zf := q1.frozen
       obtain ⟨p0, p1, p2⟩ := q2.cells
       have c12 : W4.cell? ⟨K, 12, none⟩ = some v5 := q3.cell (j := 12) rfl
       have n1 : ¬ K = W.heap.size := by omega
       have n2 : ¬ W.heap.size = K := by omega
       have n3 : ¬ K = W2.heap.size := by omega
       have n4 : ¬ W2.heap.size = K := by omega
       have n5 : ¬ W.heap.size = W2.heap.size := by omega
       have n6 : ¬ W2.heap.size = W.heap.size := by omega
       have X := Lib.hid (And.intro q1 (And.intro q2 (And.intro q3 (And.intro q4 hb04))))
       have Y := Lib.hid (And.intro hTx (And.intro hVs hgl2))
       have hvl := hVs.1
       clear q1 q2 q3 q4 hb04 hTx hVs hb3 hb4 hv3 hv4)
)
  refine bodyPost_ret (results_ctt rfl _ rfl rfl rfl (load_b3 (n := ⟨#[]⟩) (b := false) (c := .nilFunc) rfl (heap_put3 X.out.1))) rfl ?_
  unfold BgAns
  rw [HE.out]
  exact ⟨rfl, X.out.2.2.2.2.trans (below_put3 (Nat.le_refl _) _ _ _)⟩
theorem name_zero {nm : List UInt8} (h : nameL nm = 0) : nm = [70, 82, 69, 81] := by
  unfold nameL nameB at h
  rw [placeN] at h
  split at h
  · rename_i e; exact e.symm
  · exfalso
    have := placeN_range [[73, 78, 84, 69, 82, 86, 65, 76], [67, 79, 85, 78, 84], [85, 78, 84, 73, 76], [66, 89, 77, 79, 78, 84, 72], [66, 89, 77, 79, 78, 84, 72, 68, 65, 89], [66, 89, 68, 65, 89], [66, 89, 83, 69, 84, 80, 79, 83], [87, 75, 83, 84]] nm 1
    simp only [List.length_cons, List.length_nil] at this
    simp only [Nat.zero_add] at h
    omega
set_option maxRecDepth 100000 in
set_option maxHeartbeats 8000000 in
theorem beg_c (s : ByteArray) (hs : s.size ≤ 1048576) (K n : Nat) (r : RuV) (sn : List (List UInt8)) (W : World) (_hK : K < n) (_hn : n ≤ W.heap.size) (hl : sn.length ≤ 2000000) (hv : VV W) (h : Rd K n r sn W) (nm v : List UInt8) (ok : Bool) (hcut : Lib.cut s.data.toList [61] = (nm, v, ok)) (hok : ok = true) (k : Nat) (hk : nameL nm = k) (hk0 : k = 0) (hf0 : freqL v = 0) :
    Calls Tryz.prog 20 #[.pointer (some ⟨K, 0, none⟩), .string s] W (BgAns K n r sn s.data.toList W) := by
  obtain ⟨v1, v2, v3, v4, v5, hB, hR⟩ := h
  obtain ⟨m, hm⟩ := hv.mx
  have hsz := bsize s
  have hlen : nm.length ≤ s.size ∧ v.length ≤ s.size := by
    have := cut_lens s.data.toList [61]
    rw [hcut, ← hsz] at this
    exact this
  have hb1 : Below W.heap.size W (W.alloc (.cells #[.string ⟨#[]⟩, .bool false, .nilFunc] 48)) := (Below.refl _ W).alloc (Nat.le_refl _) _
  have cc := Tryz.strings_Cut s ⟨#[61]⟩ m (W.alloc (.cells #[.string ⟨#[]⟩, .bool false, .nilFunc] 48)) (by omega) ((hb1.cell (p := ⟨4, 0, none⟩) (cell_in hm)).trans hm)
  rw [show (⟨#[61]⟩ : ByteArray).data.toList = [61] from rfl, hcut] at cc
  have cp := fun w => part14_any (mkB nm) K w
  rw [mkB_list] at cp
  rw [(show prtV K nm = .agg #[.string (mkB nm), .bool (isLst k), .func (.func (fnK k)) #[.pointer (some ⟨K, 0, none⟩)] #[]] by unfold prtV; rw [hk, if_neg (by omega), Int.toNat_natCast]; rfl)] at cp
  have hsv : (mkB v).size ≤ 1048576 := by rw [bsize, mkB_list]; omega
  have HE : Hid (begV sn s.data.toList = .error 21) := Lib.hid (by unfold begV; rw [hcut]; simp only; rw [if_neg (by rw [hok]; decide), if_neg (by omega), if_pos ⟨by omega, hf0⟩])
  have hnm : ((mkB nm).toList == [70, 82, 69, 81]) = true := by
    have e := eq_text ⟨#[70, 82, 69, 81]⟩ nm
    rw [show (⟨#[70, 82, 69, 81]⟩ : ByteArray).data.toList = [70, 82, 69, 81] from rfl, show (⟨#[70, 82, 69, 81]⟩ : ByteArray).toList = [70, 82, 69, 81] by rw [ByteArray.toList_eq]] at e
    rw [Bool.beq_comm, e]
    exact decide_eq_true (name_zero (by omega))
  clear hk0
  subst hok
  have hz1 := B3.new W (.string ⟨#[]⟩) (.bool false) .nilFunc
  have hlt := hB.lt
  have HB := Lib.hid hB
  have HR := Lib.hid hR
  have HV := Lib.hid hv
  have HB1 := Lib.hid hb1
  have HZ1 := Lib.hid hz1
  have hst : ∀ (a : Addr) (m : Mode) (W : World), Sem.run Tryz.prog (store a (.func (.func (fnK k)) #[.pointer (some ⟨K, 0, none⟩)] #[]) m) W = stored Tryz.prog W a (.func (.func (fnK k)) #[.pointer (some ⟨K, 0, none⟩)] #[]) m := fun a m W => run_store _ W a _ m rfl
  have hst0 : ∀ (a : Addr) (m : Mode) (W : World), Sem.run Tryz.prog (store a .nilFunc m) W = stored Tryz.prog W a .nilFunc m := fun a m W => run_store _ W a _ m rfl
  have hnn := fun w => nil_nil w
  have hfn := fun f a b w => fun_nil f a b w
  have HL := Lib.hid hlen
  have HS := Lib.hid hsz
  have HSV := Lib.hid hsv
  clear hB hR hm hlen hsz hsv hcut hb1 hz1 hv
  go_enter Tryz.func20, Tryz.ntmps20
  go_wp2_with (first
    | (go_at_call 50; refine cc.mono ?_; rintro e w' ⟨rfl, nq, hw⟩; subst w'; clear cc
       have hbq : Below W.heap.size W ((W.alloc (.cells #[.string ⟨#[]⟩, .bool false, .nilFunc] 48)).drewN nq) := bdN HB1.out nq
       have hz1 : B3 ((W.alloc (.cells #[.string ⟨#[]⟩, .bool false, .nilFunc] 48)).drewN nq) W.heap.size (.string ⟨#[]⟩) (.bool false) .nilFunc := HZ1.out.step (bdN (Below.refl _ _) nq)
       have HBQ := Lib.hid hbq
       have HZQ := Lib.hid hz1
       clear hbq hz1
       generalize (W.alloc (.cells #[.string ⟨#[]⟩, .bool false, .nilFunc] 48)).drewN nq = W1 at *)
    | (go_at_call 51; refine (cp _).mono ?_; rintro e W2 ⟨rfl, hb2⟩; clear cp
       have HB2 := Lib.hid hb2
       clear hb2)
    | (go_at_call 52
       have hb3 : Below W2.heap.size W2 (W2.alloc (.cells #[.string (mkB nm), .bool (isLst k), .func (.func (fnK k)) #[.pointer (some ⟨K, 0, none⟩)] #[]] 48)) := (Below.refl _ _).alloc (Nat.le_refl _) _
       have hv3 : VV (W2.alloc (.cells #[.string (mkB nm), .bool (isLst k), .func (.func (fnK k)) #[.pointer (some ⟨K, 0, none⟩)] #[]] 48)) := ((HV.out.step HBQ.out).step HB2.out).step hb3
       refine (values14_any (mkB nm) (isLst k) (.func (.func (fnK k)) #[.pointer (some ⟨K, 0, none⟩)] #[]) rfl (mkB v) HSV.out _ hv3).mono ?_
       rintro e W4 ⟨g, c, ps, rfl, hgl, hTx, hVs, hb4⟩
       rw [mkB_list] at hVs
       have hb04 : Below W.heap.size W W4 := HBQ.out.trans ((HB2.out.mono HBQ.out.size).trans ((hb3.mono (Nat.le_trans HBQ.out.size HB2.out.size)).trans (hb4.mono (Nat.le_trans HBQ.out.size (Nat.le_trans HB2.out.size hb3.size)))))
       have q1 : B3 W4 W.heap.size (.string ⟨#[]⟩) (.bool false) .nilFunc := ((HZQ.out.step HB2.out).step hb3).step hb4
       have q2 : B3 W4 W2.heap.size (.string (mkB nm)) (.bool (isLst k)) (.func (.func (fnK k)) #[.pointer (some ⟨K, 0, none⟩)] #[]) := (B3.new W2 _ _ _).step hb4
       have q3 := HB.out.step hb04
       have q4 := HR.out.below hb04
       have hgl2 : W2.heap.size < g := by have : (W2.alloc (.cells #[.string (mkB nm), .bool (isLst k), .func (.func (fnK k)) #[.pointer (some ⟨K, 0, none⟩)] #[]] 48)).heap.size = W2.heap.size + 1 := by simp
                                          omega
       have hH2 : W.heap.size < W2.heap.size := Nat.lt_of_lt_of_le HZQ.out.lt HB2.out.size
       have hW4 : W2.heap.size < W4.heap.size := q2.lt
       have hv4 := HV.out.step hb04
       have cw := contains_any q4.o5 (by omega) (mkB nm)
       rw [mkB_list] at cw
       have cf := freqOf_any (mkB v) W4 hv4
       rw [mkB_list] at cf
       obtain ⟨z0, z1, z2⟩ := q1.cells
       have zf := q1.frozen
       obtain ⟨p0, p1, p2⟩ := q2.cells
       have c12 : W4.cell? ⟨K, 12, none⟩ = some v5 := q3.cell (j := 12) rfl
       have n1 : ¬ K = W.heap.size := by omega
       have n2 : ¬ W.heap.size = K := by omega
       have n3 : ¬ K = W2.heap.size := by omega
       have n4 : ¬ W2.heap.size = K := by omega
       have n5 : ¬ W.heap.size = W2.heap.size := by omega
       have n6 : ¬ W2.heap.size = W.heap.size := by omega
       have X := Lib.hid (And.intro q1 (And.intro q2 (And.intro q3 (And.intro q4 hb04))))
       have Y := Lib.hid (And.intro hTx (And.intro hVs hgl2))
       have hvl := hVs.1
       rw [hf0] at cf
       clear q1 q2 q3 q4 hb04 hTx hVs hb3 hb4 hv3 hv4)
    | (go_at_call 53; refine cf.mono ?_; rintro e w' ⟨rfl, hw⟩; subst w'; clear cf))
  refine bodyPost_ret (results_ctt rfl _ rfl rfl rfl (load_b3 (n := ⟨#[]⟩) (b := false) (c := .nilFunc) rfl (heap_put3 X.out.1))) rfl ?_
  unfold BgAns
  rw [HE.out]
  exact ⟨rfl, X.out.2.2.2.2.trans (below_put3 (Nat.le_refl _) _ _ _)⟩
set_option maxRecDepth 100000 in
set_option maxHeartbeats 8000000 in
theorem beg_d0 (s : ByteArray) (hs : s.size ≤ 1048576) (K n : Nat) (r : RuV) (sn : List (List UInt8)) (W : World) (_hK : K < n) (_hn : n ≤ W.heap.size) (hl : sn.length ≤ 2000000) (hv : VV W) (h : Rd K n r sn W) (nm v : List UInt8) (ok : Bool) (hcut : Lib.cut s.data.toList [61] = (nm, v, ok)) (hok : ok = true) (k : Nat) (hk : nameL nm = k) (hk0 : k = 0) (hf0 : ¬ freqL v = 0) (hin : nm ∈ sn) :
    Calls Tryz.prog 20 #[.pointer (some ⟨K, 0, none⟩), .string s] W (BgAns K n r sn s.data.toList W) := by
  obtain ⟨v1, v2, v3, v4, v5, hB, hR⟩ := h
  obtain ⟨m, hm⟩ := hv.mx
  have hsz := bsize s
  have hlen : nm.length ≤ s.size ∧ v.length ≤ s.size := by
    have := cut_lens s.data.toList [61]
    rw [hcut, ← hsz] at this
    exact this
  have hb1 : Below W.heap.size W (W.alloc (.cells #[.string ⟨#[]⟩, .bool false, .nilFunc] 48)) := (Below.refl _ W).alloc (Nat.le_refl _) _
  have cc := Tryz.strings_Cut s ⟨#[61]⟩ m (W.alloc (.cells #[.string ⟨#[]⟩, .bool false, .nilFunc] 48)) (by omega) ((hb1.cell (p := ⟨4, 0, none⟩) (cell_in hm)).trans hm)
  rw [show (⟨#[61]⟩ : ByteArray).data.toList = [61] from rfl, hcut] at cc
  have cp := fun w => part14_any (mkB nm) K w
  rw [mkB_list] at cp
  rw [(show prtV K nm = .agg #[.string (mkB nm), .bool (isLst k), .func (.func (fnK k)) #[.pointer (some ⟨K, 0, none⟩)] #[]] by unfold prtV; rw [hk, if_neg (by omega), Int.toNat_natCast]; rfl)] at cp
  have hsv : (mkB v).size ≤ 1048576 := by rw [bsize, mkB_list]; omega
  have HE : Hid (begV sn s.data.toList = .error 25) := Lib.hid (by unfold begV; rw [hcut]; simp only; rw [if_neg (by rw [hok]; decide), if_neg (by omega), if_neg (fun x => hf0 x.2), if_pos hin])
  have hnm : ((mkB nm).toList == [70, 82, 69, 81]) = true := by
    have e := eq_text ⟨#[70, 82, 69, 81]⟩ nm
    rw [show (⟨#[70, 82, 69, 81]⟩ : ByteArray).data.toList = [70, 82, 69, 81] from rfl, show (⟨#[70, 82, 69, 81]⟩ : ByteArray).toList = [70, 82, 69, 81] by rw [ByteArray.toList_eq]] at e
    rw [Bool.beq_comm, e]
    exact decide_eq_true (name_zero (by omega))
  clear hk0
  subst hok
  have hz1 := B3.new W (.string ⟨#[]⟩) (.bool false) .nilFunc
  have hlt := hB.lt
  have HB := Lib.hid hB
  have HR := Lib.hid hR
  have HV := Lib.hid hv
  have HB1 := Lib.hid hb1
  have HZ1 := Lib.hid hz1
  have hst : ∀ (a : Addr) (m : Mode) (W : World), Sem.run Tryz.prog (store a (.func (.func (fnK k)) #[.pointer (some ⟨K, 0, none⟩)] #[]) m) W = stored Tryz.prog W a (.func (.func (fnK k)) #[.pointer (some ⟨K, 0, none⟩)] #[]) m := fun a m W => run_store _ W a _ m rfl
  have hst0 : ∀ (a : Addr) (m : Mode) (W : World), Sem.run Tryz.prog (store a .nilFunc m) W = stored Tryz.prog W a .nilFunc m := fun a m W => run_store _ W a _ m rfl
  have hnn := fun w => nil_nil w
  have hfn := fun f a b w => fun_nil f a b w
  have HL := Lib.hid hlen
  have HS := Lib.hid hsz
  have HSV := Lib.hid hsv
  clear hB hR hm hlen hsz hsv hcut hb1 hz1 hv
  go_enter Tryz.func20, Tryz.ntmps20
  go_wp2_with (first
    | (go_at_call 50; refine cc.mono ?_; rintro e w' ⟨rfl, nq, hw⟩; subst w'; clear cc
       have hbq : Below W.heap.size W ((W.alloc (.cells #[.string ⟨#[]⟩, .bool false, .nilFunc] 48)).drewN nq) := bdN HB1.out nq
       have hz1 : B3 ((W.alloc (.cells #[.string ⟨#[]⟩, .bool false, .nilFunc] 48)).drewN nq) W.heap.size (.string ⟨#[]⟩) (.bool false) .nilFunc := HZ1.out.step (bdN (Below.refl _ _) nq)
       have HBQ := Lib.hid hbq
       have HZQ := Lib.hid hz1
       clear hbq hz1
       generalize (W.alloc (.cells #[.string ⟨#[]⟩, .bool false, .nilFunc] 48)).drewN nq = W1 at *)
    | (go_at_call 51; refine (cp _).mono ?_; rintro e W2 ⟨rfl, hb2⟩; clear cp
       have HB2 := Lib.hid hb2
       clear hb2)
    | (go_at_call 52
       have hb3 : Below W2.heap.size W2 (W2.alloc (.cells #[.string (mkB nm), .bool (isLst k), .func (.func (fnK k)) #[.pointer (some ⟨K, 0, none⟩)] #[]] 48)) := (Below.refl _ _).alloc (Nat.le_refl _) _
       have hv3 : VV (W2.alloc (.cells #[.string (mkB nm), .bool (isLst k), .func (.func (fnK k)) #[.pointer (some ⟨K, 0, none⟩)] #[]] 48)) := ((HV.out.step HBQ.out).step HB2.out).step hb3
       refine (values14_any (mkB nm) (isLst k) (.func (.func (fnK k)) #[.pointer (some ⟨K, 0, none⟩)] #[]) rfl (mkB v) HSV.out _ hv3).mono ?_
       rintro e W4 ⟨g, c, ps, rfl, hgl, hTx, hVs, hb4⟩
       rw [mkB_list] at hVs
       have hb04 : Below W.heap.size W W4 := HBQ.out.trans ((HB2.out.mono HBQ.out.size).trans ((hb3.mono (Nat.le_trans HBQ.out.size HB2.out.size)).trans (hb4.mono (Nat.le_trans HBQ.out.size (Nat.le_trans HB2.out.size hb3.size)))))
       have q1 : B3 W4 W.heap.size (.string ⟨#[]⟩) (.bool false) .nilFunc := ((HZQ.out.step HB2.out).step hb3).step hb4
       have q2 : B3 W4 W2.heap.size (.string (mkB nm)) (.bool (isLst k)) (.func (.func (fnK k)) #[.pointer (some ⟨K, 0, none⟩)] #[]) := (B3.new W2 _ _ _).step hb4
       have q3 := HB.out.step hb04
       have q4 := HR.out.below hb04
       have hgl2 : W2.heap.size < g := by have : (W2.alloc (.cells #[.string (mkB nm), .bool (isLst k), .func (.func (fnK k)) #[.pointer (some ⟨K, 0, none⟩)] #[]] 48)).heap.size = W2.heap.size + 1 := by simp
                                          omega
       have hH2 : W.heap.size < W2.heap.size := Nat.lt_of_lt_of_le HZQ.out.lt HB2.out.size
       have hW4 : W2.heap.size < W4.heap.size := q2.lt
       have hv4 := HV.out.step hb04
       have cw := contains_any q4.o5 (by omega) (mkB nm)
       rw [mkB_list] at cw
       have cf := freqOf_any (mkB v) W4 hv4
       rw [mkB_list] at cf
       obtain ⟨z0, z1, z2⟩ := q1.cells
       have zf := q1.frozen
       obtain ⟨p0, p1, p2⟩ := q2.cells
       have c12 : W4.cell? ⟨K, 12, none⟩ = some v5 := q3.cell (j := 12) rfl
       have n1 : ¬ K = W.heap.size := by omega
       have n2 : ¬ W.heap.size = K := by omega
       have n3 : ¬ K = W2.heap.size := by omega
       have n4 : ¬ W2.heap.size = K := by omega
       have n5 : ¬ W.heap.size = W2.heap.size := by omega
       have n6 : ¬ W2.heap.size = W.heap.size := by omega
       have X := Lib.hid (And.intro q1 (And.intro q2 (And.intro q3 (And.intro q4 hb04))))
       have Y := Lib.hid (And.intro hTx (And.intro hVs hgl2))
       have hvl := hVs.1
       rw [decide_eq_true hin] at cw
       generalize freqL v = zf0 at cf hf0
       clear q1 q2 q3 q4 hb04 hTx hVs hb3 hb4 hv3 hv4)
    | (go_at_call 53; refine cf.mono ?_; rintro e w' ⟨rfl, hw⟩; subst w'; clear cf)
    | (go_at_call 54; refine cw.mono ?_; rintro e w' ⟨rfl, hw⟩; subst w'; clear cw))
  refine bodyPost_ret (results_ctt rfl _ rfl rfl rfl (load_b3 (n := ⟨#[]⟩) (b := false) (c := .nilFunc) rfl (heap_put3 X.out.1))) rfl ?_
  unfold BgAns
  rw [HE.out]
  exact ⟨rfl, X.out.2.2.2.2.trans (below_put3 (Nat.le_refl _) _ _ _)⟩
set_option maxRecDepth 100000 in
set_option maxHeartbeats 8000000 in
theorem beg_e0 (s : ByteArray) (hs : s.size ≤ 1048576) (K n : Nat) (r : RuV) (sn : List (List UInt8)) (W : World) (_hK : K < n) (_hn : n ≤ W.heap.size) (hl : sn.length ≤ 2000000) (hv : VV W) (h : Rd K n r sn W) (nm v : List UInt8) (ok : Bool) (hcut : Lib.cut s.data.toList [61] = (nm, v, ok)) (hok : ok = true) (k : Nat) (hk : nameL nm = k) (hk0 : k = 0) (hf0 : ¬ freqL v = 0) (hin : ¬ nm ∈ sn) (hmany : isLst k = true ∧ 24 < (splitC 44 [] v).length) :
    Calls Tryz.prog 20 #[.pointer (some ⟨K, 0, none⟩), .string s] W (BgAns K n r sn s.data.toList W) := by
  obtain ⟨v1, v2, v3, v4, v5, hB, hR⟩ := h
  obtain ⟨m, hm⟩ := hv.mx
  have hsz := bsize s
  have hlen : nm.length ≤ s.size ∧ v.length ≤ s.size := by
    have := cut_lens s.data.toList [61]
    rw [hcut, ← hsz] at this
    exact this
  have hb1 : Below W.heap.size W (W.alloc (.cells #[.string ⟨#[]⟩, .bool false, .nilFunc] 48)) := (Below.refl _ W).alloc (Nat.le_refl _) _
  have cc := Tryz.strings_Cut s ⟨#[61]⟩ m (W.alloc (.cells #[.string ⟨#[]⟩, .bool false, .nilFunc] 48)) (by omega) ((hb1.cell (p := ⟨4, 0, none⟩) (cell_in hm)).trans hm)
  rw [show (⟨#[61]⟩ : ByteArray).data.toList = [61] from rfl, hcut] at cc
  have cp := fun w => part14_any (mkB nm) K w
  rw [mkB_list] at cp
  rw [(show prtV K nm = .agg #[.string (mkB nm), .bool (isLst k), .func (.func (fnK k)) #[.pointer (some ⟨K, 0, none⟩)] #[]] by unfold prtV; rw [hk, if_neg (by omega), Int.toNat_natCast]; rfl)] at cp
  have hsv : (mkB v).size ≤ 1048576 := by rw [bsize, mkB_list]; omega
  have HE : Hid (begV sn s.data.toList = .error 27) := Lib.hid (by unfold begV; rw [hcut]; simp only; rw [if_neg (by rw [hok]; decide), if_neg (by omega), if_neg (fun x => hf0 x.2), if_neg hin, hk, Int.toNat_natCast, if_pos hmany])
  have hnm : ((mkB nm).toList == [70, 82, 69, 81]) = true := by
    have e := eq_text ⟨#[70, 82, 69, 81]⟩ nm
    rw [show (⟨#[70, 82, 69, 81]⟩ : ByteArray).data.toList = [70, 82, 69, 81] from rfl, show (⟨#[70, 82, 69, 81]⟩ : ByteArray).toList = [70, 82, 69, 81] by rw [ByteArray.toList_eq]] at e
    rw [Bool.beq_comm, e]
    exact decide_eq_true (name_zero (by omega))
  clear hk0
  subst hok
  have HM := Lib.hid hmany
  clear hmany
  have hz1 := B3.new W (.string ⟨#[]⟩) (.bool false) .nilFunc
  have hlt := hB.lt
  have HB := Lib.hid hB
  have HR := Lib.hid hR
  have HV := Lib.hid hv
  have HB1 := Lib.hid hb1
  have HZ1 := Lib.hid hz1
  have hst : ∀ (a : Addr) (m : Mode) (W : World), Sem.run Tryz.prog (store a (.func (.func (fnK k)) #[.pointer (some ⟨K, 0, none⟩)] #[]) m) W = stored Tryz.prog W a (.func (.func (fnK k)) #[.pointer (some ⟨K, 0, none⟩)] #[]) m := fun a m W => run_store _ W a _ m rfl
  have hst0 : ∀ (a : Addr) (m : Mode) (W : World), Sem.run Tryz.prog (store a .nilFunc m) W = stored Tryz.prog W a .nilFunc m := fun a m W => run_store _ W a _ m rfl
  have hnn := fun w => nil_nil w
  have hfn := fun f a b w => fun_nil f a b w
  have HL := Lib.hid hlen
  have HS := Lib.hid hsz
  have HSV := Lib.hid hsv
  clear hB hR hm hlen hsz hsv hcut hb1 hz1 hv
  go_enter Tryz.func20, Tryz.ntmps20
  go_wp2_with (first
    | (go_at_call 50; refine cc.mono ?_; rintro e w' ⟨rfl, nq, hw⟩; subst w'; clear cc
       have hbq : Below W.heap.size W ((W.alloc (.cells #[.string ⟨#[]⟩, .bool false, .nilFunc] 48)).drewN nq) := bdN HB1.out nq
       have hz1 : B3 ((W.alloc (.cells #[.string ⟨#[]⟩, .bool false, .nilFunc] 48)).drewN nq) W.heap.size (.string ⟨#[]⟩) (.bool false) .nilFunc := HZ1.out.step (bdN (Below.refl _ _) nq)
       have HBQ := Lib.hid hbq
       have HZQ := Lib.hid hz1
       clear hbq hz1
       generalize (W.alloc (.cells #[.string ⟨#[]⟩, .bool false, .nilFunc] 48)).drewN nq = W1 at *)
    | (go_at_call 51; refine (cp _).mono ?_; rintro e W2 ⟨rfl, hb2⟩; clear cp
       have HB2 := Lib.hid hb2
       clear hb2)
    | (go_at_call 52
       have hb3 : Below W2.heap.size W2 (W2.alloc (.cells #[.string (mkB nm), .bool (isLst k), .func (.func (fnK k)) #[.pointer (some ⟨K, 0, none⟩)] #[]] 48)) := (Below.refl _ _).alloc (Nat.le_refl _) _
       have hv3 : VV (W2.alloc (.cells #[.string (mkB nm), .bool (isLst k), .func (.func (fnK k)) #[.pointer (some ⟨K, 0, none⟩)] #[]] 48)) := ((HV.out.step HBQ.out).step HB2.out).step hb3
       refine (values14_any (mkB nm) (isLst k) (.func (.func (fnK k)) #[.pointer (some ⟨K, 0, none⟩)] #[]) rfl (mkB v) HSV.out _ hv3).mono ?_
       rintro e W4 ⟨g, c, ps, rfl, hgl, hTx, hVs, hb4⟩
       rw [mkB_list] at hVs
       have hb04 : Below W.heap.size W W4 := HBQ.out.trans ((HB2.out.mono HBQ.out.size).trans ((hb3.mono (Nat.le_trans HBQ.out.size HB2.out.size)).trans (hb4.mono (Nat.le_trans HBQ.out.size (Nat.le_trans HB2.out.size hb3.size)))))
       have q1 : B3 W4 W.heap.size (.string ⟨#[]⟩) (.bool false) .nilFunc := ((HZQ.out.step HB2.out).step hb3).step hb4
       have q2 : B3 W4 W2.heap.size (.string (mkB nm)) (.bool (isLst k)) (.func (.func (fnK k)) #[.pointer (some ⟨K, 0, none⟩)] #[]) := (B3.new W2 _ _ _).step hb4
       have q3 := HB.out.step hb04
       have q4 := HR.out.below hb04
       have hgl2 : W2.heap.size < g := by have : (W2.alloc (.cells #[.string (mkB nm), .bool (isLst k), .func (.func (fnK k)) #[.pointer (some ⟨K, 0, none⟩)] #[]] 48)).heap.size = W2.heap.size + 1 := by simp
                                          omega
       have hH2 : W.heap.size < W2.heap.size := Nat.lt_of_lt_of_le HZQ.out.lt HB2.out.size
       have hW4 : W2.heap.size < W4.heap.size := q2.lt
       have hv4 := HV.out.step hb04
       have cw := contains_any q4.o5 (by omega) (mkB nm)
       rw [mkB_list] at cw
       have cf := freqOf_any (mkB v) W4 hv4
       rw [mkB_list] at cf
       obtain ⟨z0, z1, z2⟩ := q1.cells
       have zf := q1.frozen
       obtain ⟨p0, p1, p2⟩ := q2.cells
       have c12 : W4.cell? ⟨K, 12, none⟩ = some v5 := q3.cell (j := 12) rfl
       have n1 : ¬ K = W.heap.size := by omega
       have n2 : ¬ W.heap.size = K := by omega
       have n3 : ¬ K = W2.heap.size := by omega
       have n4 : ¬ W2.heap.size = K := by omega
       have n5 : ¬ W.heap.size = W2.heap.size := by omega
       have n6 : ¬ W2.heap.size = W.heap.size := by omega
       have X := Lib.hid (And.intro q1 (And.intro q2 (And.intro q3 (And.intro q4 hb04))))
       have Y := Lib.hid (And.intro hTx (And.intro hVs hgl2))
       have hvl := hVs.1
       rw [decide_eq_false hin] at cw
       have hpl : 24 < ps.length := (hVs.2.2.1 HM.out.1).2 HM.out.2
       have hpi : (24 : Int) < (ps.length : Int) := by omega
       generalize freqL v = zf0 at cf hf0
       clear q1 q2 q3 q4 hb04 hTx hVs hb3 hb4 hv3 hv4)
    | (go_at_call 53; refine cf.mono ?_; rintro e w' ⟨rfl, hw⟩; subst w'; clear cf)
    | (go_at_call 54; refine cw.mono ?_; rintro e w' ⟨rfl, hw⟩; subst w'; clear cw))
  refine bodyPost_ret (results_ctt rfl _ rfl rfl rfl (load_b3 (n := ⟨#[]⟩) (b := false) (c := .nilFunc) rfl (heap_put3 X.out.1))) rfl ?_
  unfold BgAns
  rw [HE.out]
  exact ⟨rfl, X.out.2.2.2.2.trans (below_put3 (Nat.le_refl _) _ _ _)⟩
set_option maxRecDepth 100000 in
set_option maxHeartbeats 8000000 in
theorem beg_f0 (s : ByteArray) (hs : s.size ≤ 1048576) (K n : Nat) (r : RuV) (sn : List (List UInt8)) (W : World) (hK : K < n) (hn : n ≤ W.heap.size) (hl : sn.length ≤ 2000000) (hv : VV W) (h : Rd K n r sn W) (nm v : List UInt8) (ok : Bool) (hcut : Lib.cut s.data.toList [61] = (nm, v, ok)) (hok : ok = true) (k : Nat) (hk : nameL nm = k) (hk0 : k = 0) (hf0 : ¬ freqL v = 0) (hin : ¬ nm ∈ sn) (hfew : ¬ (isLst k = true ∧ 24 < (splitC 44 [] v).length)) (hk9 : k < 9) :
    Calls Tryz.prog 20 #[.pointer (some ⟨K, 0, none⟩), .string s] W (BgAns K n r sn s.data.toList W) := by
  obtain ⟨v1, v2, v3, v4, v5, hB, hR⟩ := h
  obtain ⟨m, hm⟩ := hv.mx
  have hsz := bsize s
  have hlen : nm.length ≤ s.size ∧ v.length ≤ s.size := by
    have := cut_lens s.data.toList [61]
    rw [hcut, ← hsz] at this
    exact this
  have hb1 : Below W.heap.size W (W.alloc (.cells #[.string ⟨#[]⟩, .bool false, .nilFunc] 48)) := (Below.refl _ W).alloc (Nat.le_refl _) _
  have cc := Tryz.strings_Cut s ⟨#[61]⟩ m (W.alloc (.cells #[.string ⟨#[]⟩, .bool false, .nilFunc] 48)) (by omega) ((hb1.cell (p := ⟨4, 0, none⟩) (cell_in hm)).trans hm)
  rw [show (⟨#[61]⟩ : ByteArray).data.toList = [61] from rfl, hcut] at cc
  have cp := fun w => part14_any (mkB nm) K w
  rw [mkB_list] at cp
  rw [(show prtV K nm = .agg #[.string (mkB nm), .bool (isLst k), .func (.func (fnK k)) #[.pointer (some ⟨K, 0, none⟩)] #[]] by unfold prtV; rw [hk, if_neg (by omega), Int.toNat_natCast]; rfl)] at cp
  have hsv : (mkB v).size ≤ 1048576 := by rw [bsize, mkB_list]; omega
  have HE : Hid (begV sn s.data.toList = .ok (k, nm, v)) := Lib.hid (by unfold begV; rw [hcut]; simp only; rw [if_neg (by rw [hok]; decide), if_neg (by omega), if_neg (fun x => hf0 x.2), if_neg hin, hk, Int.toNat_natCast, if_neg hfew])
  have hnm : ((mkB nm).toList == [70, 82, 69, 81]) = true := by
    have e := eq_text ⟨#[70, 82, 69, 81]⟩ nm
    rw [show (⟨#[70, 82, 69, 81]⟩ : ByteArray).data.toList = [70, 82, 69, 81] from rfl, show (⟨#[70, 82, 69, 81]⟩ : ByteArray).toList = [70, 82, 69, 81] by rw [ByteArray.toList_eq]] at e
    rw [Bool.beq_comm, e]
    exact decide_eq_true (name_zero (by omega))
  clear hk0
  subst hok
  have FEW := Lib.hid hfew
  have K9 := Lib.hid hk9
  obtain ⟨i0, hi, hz0, hz1, hz2⟩ := info_parts infoSv
  clear hfew
  have hz1 := B3.new W (.string ⟨#[]⟩) (.bool false) .nilFunc
  have hlt := hB.lt
  have HB := Lib.hid hB
  have HR := Lib.hid hR
  have HV := Lib.hid hv
  have HB1 := Lib.hid hb1
  have HZ1 := Lib.hid hz1
  have hst : ∀ (a : Addr) (m : Mode) (W : World), Sem.run Tryz.prog (store a (.func (.func (fnK k)) #[.pointer (some ⟨K, 0, none⟩)] #[]) m) W = stored Tryz.prog W a (.func (.func (fnK k)) #[.pointer (some ⟨K, 0, none⟩)] #[]) m := fun a m W => run_store _ W a _ m rfl
  have hst0 : ∀ (a : Addr) (m : Mode) (W : World), Sem.run Tryz.prog (store a .nilFunc m) W = stored Tryz.prog W a .nilFunc m := fun a m W => run_store _ W a _ m rfl
  have hnn := fun w => nil_nil w
  have hfn := fun f a b w => fun_nil f a b w
  have HL := Lib.hid hlen
  have HS := Lib.hid hsz
  have HSV := Lib.hid hsv
  clear hB hR hm hlen hsz hsv hcut hb1 hz1 hv
  go_enter Tryz.func20, Tryz.ntmps20
  go_wp2_with (first
    | (go_at_call 50; refine cc.mono ?_; rintro e w' ⟨rfl, nq, hw⟩; subst w'; clear cc
       have hbq : Below W.heap.size W ((W.alloc (.cells #[.string ⟨#[]⟩, .bool false, .nilFunc] 48)).drewN nq) := bdN HB1.out nq
       have hz1 : B3 ((W.alloc (.cells #[.string ⟨#[]⟩, .bool false, .nilFunc] 48)).drewN nq) W.heap.size (.string ⟨#[]⟩) (.bool false) .nilFunc := HZ1.out.step (bdN (Below.refl _ _) nq)
       have HBQ := Lib.hid hbq
       have HZQ := Lib.hid hz1
       clear hbq hz1
       generalize (W.alloc (.cells #[.string ⟨#[]⟩, .bool false, .nilFunc] 48)).drewN nq = W1 at *)
    | (go_at_call 51; refine (cp _).mono ?_; rintro e W2 ⟨rfl, hb2⟩; clear cp
       have HB2 := Lib.hid hb2
       clear hb2)
    | (go_at_call 52
       have hb3 : Below W2.heap.size W2 (W2.alloc (.cells #[.string (mkB nm), .bool (isLst k), .func (.func (fnK k)) #[.pointer (some ⟨K, 0, none⟩)] #[]] 48)) := (Below.refl _ _).alloc (Nat.le_refl _) _
       have hv3 : VV (W2.alloc (.cells #[.string (mkB nm), .bool (isLst k), .func (.func (fnK k)) #[.pointer (some ⟨K, 0, none⟩)] #[]] 48)) := ((HV.out.step HBQ.out).step HB2.out).step hb3
       refine (values14_any (mkB nm) (isLst k) (.func (.func (fnK k)) #[.pointer (some ⟨K, 0, none⟩)] #[]) rfl (mkB v) HSV.out _ hv3).mono ?_
       rintro e W4 ⟨g, c, ps, rfl, hgl, hTx, hVs, hb4⟩
       rw [mkB_list] at hVs
       have hb04 : Below W.heap.size W W4 := HBQ.out.trans ((HB2.out.mono HBQ.out.size).trans ((hb3.mono (Nat.le_trans HBQ.out.size HB2.out.size)).trans (hb4.mono (Nat.le_trans HBQ.out.size (Nat.le_trans HB2.out.size hb3.size)))))
       have q1 : B3 W4 W.heap.size (.string ⟨#[]⟩) (.bool false) .nilFunc := ((HZQ.out.step HB2.out).step hb3).step hb4
       have q2 : B3 W4 W2.heap.size (.string (mkB nm)) (.bool (isLst k)) (.func (.func (fnK k)) #[.pointer (some ⟨K, 0, none⟩)] #[]) := (B3.new W2 _ _ _).step hb4
       have q3 := HB.out.step hb04
       have q4 := HR.out.below hb04
       have hgl2 : W2.heap.size < g := by have : (W2.alloc (.cells #[.string (mkB nm), .bool (isLst k), .func (.func (fnK k)) #[.pointer (some ⟨K, 0, none⟩)] #[]] 48)).heap.size = W2.heap.size + 1 := by simp
                                          omega
       have hH2 : W.heap.size < W2.heap.size := Nat.lt_of_lt_of_le HZQ.out.lt HB2.out.size
       have hW4 : W2.heap.size < W4.heap.size := q2.lt
       have hv4 := HV.out.step hb04
       have cw := contains_any q4.o5 (by omega) (mkB nm)
       rw [mkB_list] at cw
       have cf := freqOf_any (mkB v) W4 hv4
       rw [mkB_list] at cf
       obtain ⟨z0, z1, z2⟩ := q1.cells
       have zf := q1.frozen
       obtain ⟨p0, p1, p2⟩ := q2.cells
       have c12 : W4.cell? ⟨K, 12, none⟩ = some v5 := q3.cell (j := 12) rfl
       have n1 : ¬ K = W.heap.size := by omega
       have n2 : ¬ W.heap.size = K := by omega
       have n3 : ¬ K = W2.heap.size := by omega
       have n4 : ¬ W2.heap.size = K := by omega
       have n5 : ¬ W.heap.size = W2.heap.size := by omega
       have n6 : ¬ W2.heap.size = W.heap.size := by omega
       have X := Lib.hid (And.intro q1 (And.intro q2 (And.intro q3 (And.intro q4 hb04))))
       have Y := Lib.hid (And.intro hTx (And.intro hVs hgl2))
       have hvl := hVs.1
       rw [decide_eq_false hin] at cw
       have hpv : ps = valsK k v := by
         unfold valsK
         cases hi : isLst k with
         | false => rw [if_neg (by decide)]; exact hVs.2.1 hi
         | true => rw [if_pos rfl]; exact (hVs.2.2.1 hi).1 (by have := FEW.out; rw [hi] at this; by_cases h : 24 < (splitC 44 [] v).length; exact absurd ⟨rfl, h⟩ this; omega)
       have hle : ps.length ≤ 24 := by
         rw [hpv]
         unfold valsK
         cases hi : isLst k with
         | false => rw [if_neg (by decide)]; simp
         | true => rw [if_pos rfl]; have := FEW.out; rw [hi] at this; by_cases h : 24 < (splitC 44 [] v).length; exact absurd ⟨rfl, h⟩ this; omega
       have hli : ¬ (24 : Int) < (ps.length : Int) := by omega
       have PV := Lib.hid hpv
       have LE : Hid ((valsK k v).length ≤ 24) := Lib.hid (by rw [← hpv]; exact hle)
       clear hpv
       generalize freqL v = zf0 at cf hf0
       clear q1 q2 q3 q4 hb04 hTx hVs hb3 hb4 hv3 hv4)
    | (go_at_call 53; refine cf.mono ?_; rintro e w' ⟨rfl, hw⟩; subst w'; clear cf)
    | (go_at_call 54; refine cw.mono ?_; rintro e w' ⟨rfl, hw⟩; subst w'; clear cw)
    | (at_builtin
       refine wpList_append_own_at _ rfl _ _ 39 rfl n 9 i0 (.string ⟨#[]⟩) 1 16 Tryz.underlying39 hi hz0 hz1 hz2 rfl (by decide) _ _ _ rfl (X.out.2.2.2.1.o5.alloc _) ⟨_, 0, none⟩ 1 1 [.string (mkB nm)] rfl rfl (cells_newV _ [.string (mkB nm)] _) (by simp [Value.oneCell']) (by unfold maxLen; omega) (by omega) (by simp; omega) ?_
       intro v' w1 hown' hgrow _ hat
       obtain ⟨g', cap', rfl⟩ := ownsRow_succ hown'
       have hn4 : n ≤ W4.heap.size := by omega
       have hob : ∀ j, some j = v5.ownBlock → j < W.heap.size := fun j ej => by
         rcases own_nil_or HR.out.o5 with e | ⟨g5, cap5, e, hg5, _, hlt5⟩
         · rw [e] at ej; simp [Value.ownBlock] at ej
         · rw [hg5] at ej; injection ej with ej; omega
       have kept : ∀ j, W.heap.size ≤ j → j < W4.heap.size → w1.heap[j]? = W4.heap[j]? := fun j h1 h2 => (hgrow.block j (by simp; omega) (fun ej => by have := hob j ej; omega)).trans (Below.heap_alloc W4 _ j h2)
       have u1 : B3 w1 W2.heap.size (.string (mkB nm)) (.bool (isLst k)) (.func (.func (fnK k)) #[.pointer (some ⟨K, 0, none⟩)] #[]) := X.out.2.1.blk (kept _ (by omega) (by omega))
       have u2 : B3 w1 W.heap.size (.string ⟨#[]⟩) (.bool false) .nilFunc := X.out.1.blk (kept _ (by omega) (by omega))
       have u4 := X.out.2.2.1.append hK hn4 X.out.2.2.2.1.o5 hgrow
       have u5 := X.out.2.2.2.1.app5 nm hown' hgrow
       have u6 := Ch.append (K := K) (by omega) hn4 X.out.2.2.2.1.o5 hgrow
       have u7 : Tx w1 g c ps := Y.out.1.blk (kept _ (by have := Y.out.2.2; omega) Y.out.1.lt)
       clear z0 z1 z2 zf p0 p1 p2 c12
       obtain ⟨z0, z1, z2⟩ := u2.cells
       have zf := u2.frozen
       obtain ⟨p0, p1, p2⟩ := u1.cells
       have c12 : w1.cell? ⟨K, 12, none⟩ = some v5 := u4.cell (j := 12) rfl
       have f12 := u4.frozen 12
       have HQ := Lib.hid (And.intro u1 (And.intro u2 (And.intro kept (And.intro u4 (And.intro u5 (And.intro u6 u7))))))
       clear u1 u2 u4 u5 u6 u7 kept hown' hgrow hat hob))
  obtain ⟨u1, u2, u3, u4, u5, u6, u7⟩ := HQ.out
  have hps : ps = valsK k v := PV.out
  subst hps
  have hq0 : B3 (put3 (w1.setCell ⟨K, 12, none⟩ (.slice (some ⟨g', 0, none⟩) (sn.length + 1) cap')) W.heap.size (.string (mkB nm)) (.bool (isLst k)) (.func (.func (fnK k)) #[.pointer (some ⟨K, 0, none⟩)] #[])) W.heap.size (.string (mkB nm)) (.bool (isLst k)) (.func (.func (fnK k)) #[.pointer (some ⟨K, 0, none⟩)] #[]) := heap_put3 (u2.blk (Below.heap_setCell w1 ⟨K, 12, none⟩ _ _ (by show W.heap.size ≠ K; omega)))
  refine bodyPost_ret (results_ctt rfl _ rfl rfl rfl (load_b3 (n := mkB nm) (b := isLst k) (c := .func (.func (fnK k)) #[.pointer (some ⟨K, 0, none⟩)] #[]) rfl hq0)) rfl ?_
  unfold BgAns
  rw [HE.out]
  have hgl2 := Y.out.2.2
  refine ⟨g, c, rfl, by omega, ?_, LE.out, K9.out, fun p hp => Nat.le_trans (Y.out.2.1.2.2.2 p hp) (by have := HL.out.2; rw [HS.out] at this; exact this), ?_, ⟨v1, v2, v3, v4, .slice (some ⟨g', 0, none⟩) (sn.length + 1) cap', ?_, ?_⟩⟩
  · exact u7.blk ((put3_other (by omega) _ _ _).trans (Below.heap_setCell w1 ⟨K, 12, none⟩ _ _ (by show g ≠ K; omega)))
  · exact (Ch.of_below (by omega) hn X.out.2.2.2.2).trans (u6.trans ((Ch.set _ _ _).trans (Ch.put3 _ (by omega) hn _ _ _)))
  · exact (put3_other (by omega) _ _ _).trans (u4.set (j := 12) (by simp [rdA]) (.slice (some ⟨g', 0, none⟩) (sn.length + 1) cap'))
  · exact (u5.set hK _).put3 (u2.blk (Below.heap_setCell w1 ⟨K, 12, none⟩ _ _ (by show W.heap.size ≠ K; omega)))
set_option maxRecDepth 100000 in
set_option maxHeartbeats 8000000 in
theorem beg_d1 (s : ByteArray) (hs : s.size ≤ 1048576) (K n : Nat) (r : RuV) (sn : List (List UInt8)) (W : World) (_hK : K < n) (_hn : n ≤ W.heap.size) (hl : sn.length ≤ 2000000) (hv : VV W) (h : Rd K n r sn W) (nm v : List UInt8) (ok : Bool) (hcut : Lib.cut s.data.toList [61] = (nm, v, ok)) (hok : ok = true) (k : Nat) (hk : nameL nm = k) (hk0 : ¬ k = 0) (hin : nm ∈ sn) :
    Calls Tryz.prog 20 #[.pointer (some ⟨K, 0, none⟩), .string s] W (BgAns K n r sn s.data.toList W) := by
  obtain ⟨v1, v2, v3, v4, v5, hB, hR⟩ := h
  obtain ⟨m, hm⟩ := hv.mx
  have hsz := bsize s
  have hlen : nm.length ≤ s.size ∧ v.length ≤ s.size := by
    have := cut_lens s.data.toList [61]
    rw [hcut, ← hsz] at this
    exact this
  have hb1 : Below W.heap.size W (W.alloc (.cells #[.string ⟨#[]⟩, .bool false, .nilFunc] 48)) := (Below.refl _ W).alloc (Nat.le_refl _) _
  have cc := Tryz.strings_Cut s ⟨#[61]⟩ m (W.alloc (.cells #[.string ⟨#[]⟩, .bool false, .nilFunc] 48)) (by omega) ((hb1.cell (p := ⟨4, 0, none⟩) (cell_in hm)).trans hm)
  rw [show (⟨#[61]⟩ : ByteArray).data.toList = [61] from rfl, hcut] at cc
  have cp := fun w => part14_any (mkB nm) K w
  rw [mkB_list] at cp
  rw [(show prtV K nm = .agg #[.string (mkB nm), .bool (isLst k), .func (.func (fnK k)) #[.pointer (some ⟨K, 0, none⟩)] #[]] by unfold prtV; rw [hk, if_neg (by omega), Int.toNat_natCast]; rfl)] at cp
  have hsv : (mkB v).size ≤ 1048576 := by rw [bsize, mkB_list]; omega
  have HE : Hid (begV sn s.data.toList = .error 25) := Lib.hid (by unfold begV; rw [hcut]; simp only; rw [if_neg (by rw [hok]; decide), if_neg (by omega), if_neg (fun x => by omega), if_pos hin])
  have hnm : ((mkB nm).toList == [70, 82, 69, 81]) = false := by
    have e := eq_text ⟨#[70, 82, 69, 81]⟩ nm
    rw [show (⟨#[70, 82, 69, 81]⟩ : ByteArray).data.toList = [70, 82, 69, 81] from rfl, show (⟨#[70, 82, 69, 81]⟩ : ByteArray).toList = [70, 82, 69, 81] by rw [ByteArray.toList_eq]] at e
    rw [Bool.beq_comm, e]
    exact decide_eq_false (fun x => by rw [x] at hk; have : nameL [70, 82, 69, 81] = 0 := rfl; omega)
  subst hok
  have hz1 := B3.new W (.string ⟨#[]⟩) (.bool false) .nilFunc
  have hlt := hB.lt
  have HB := Lib.hid hB
  have HR := Lib.hid hR
  have HV := Lib.hid hv
  have HB1 := Lib.hid hb1
  have HZ1 := Lib.hid hz1
  have hst : ∀ (a : Addr) (m : Mode) (W : World), Sem.run Tryz.prog (store a (.func (.func (fnK k)) #[.pointer (some ⟨K, 0, none⟩)] #[]) m) W = stored Tryz.prog W a (.func (.func (fnK k)) #[.pointer (some ⟨K, 0, none⟩)] #[]) m := fun a m W => run_store _ W a _ m rfl
  have hst0 : ∀ (a : Addr) (m : Mode) (W : World), Sem.run Tryz.prog (store a .nilFunc m) W = stored Tryz.prog W a .nilFunc m := fun a m W => run_store _ W a _ m rfl
  have hnn := fun w => nil_nil w
  have hfn := fun f a b w => fun_nil f a b w
  have HL := Lib.hid hlen
  have HS := Lib.hid hsz
  have HSV := Lib.hid hsv
  clear hB hR hm hlen hsz hsv hcut hb1 hz1 hv
  go_enter Tryz.func20, Tryz.ntmps20
  go_wp2_with (first
    | (go_at_call 50; refine cc.mono ?_; rintro e w' ⟨rfl, nq, hw⟩; subst w'; clear cc
       have hbq : Below W.heap.size W ((W.alloc (.cells #[.string ⟨#[]⟩, .bool false, .nilFunc] 48)).drewN nq) := bdN HB1.out nq
       have hz1 : B3 ((W.alloc (.cells #[.string ⟨#[]⟩, .bool false, .nilFunc] 48)).drewN nq) W.heap.size (.string ⟨#[]⟩) (.bool false) .nilFunc := HZ1.out.step (bdN (Below.refl _ _) nq)
       have HBQ := Lib.hid hbq
       have HZQ := Lib.hid hz1
       clear hbq hz1
       generalize (W.alloc (.cells #[.string ⟨#[]⟩, .bool false, .nilFunc] 48)).drewN nq = W1 at *)
    | (go_at_call 51; refine (cp _).mono ?_; rintro e W2 ⟨rfl, hb2⟩; clear cp
       have HB2 := Lib.hid hb2
       clear hb2)
    | (go_at_call 52
       have hb3 : Below W2.heap.size W2 (W2.alloc (.cells #[.string (mkB nm), .bool (isLst k), .func (.func (fnK k)) #[.pointer (some ⟨K, 0, none⟩)] #[]] 48)) := (Below.refl _ _).alloc (Nat.le_refl _) _
       have hv3 : VV (W2.alloc (.cells #[.string (mkB nm), .bool (isLst k), .func (.func (fnK k)) #[.pointer (some ⟨K, 0, none⟩)] #[]] 48)) := ((HV.out.step HBQ.out).step HB2.out).step hb3
       refine (values14_any (mkB nm) (isLst k) (.func (.func (fnK k)) #[.pointer (some ⟨K, 0, none⟩)] #[]) rfl (mkB v) HSV.out _ hv3).mono ?_
       rintro e W4 ⟨g, c, ps, rfl, hgl, hTx, hVs, hb4⟩
       rw [mkB_list] at hVs
       have hb04 : Below W.heap.size W W4 := HBQ.out.trans ((HB2.out.mono HBQ.out.size).trans ((hb3.mono (Nat.le_trans HBQ.out.size HB2.out.size)).trans (hb4.mono (Nat.le_trans HBQ.out.size (Nat.le_trans HB2.out.size hb3.size)))))
       have q1 : B3 W4 W.heap.size (.string ⟨#[]⟩) (.bool false) .nilFunc := ((HZQ.out.step HB2.out).step hb3).step hb4
       have q2 : B3 W4 W2.heap.size (.string (mkB nm)) (.bool (isLst k)) (.func (.func (fnK k)) #[.pointer (some ⟨K, 0, none⟩)] #[]) := (B3.new W2 _ _ _).step hb4
       have q3 := HB.out.step hb04
       have q4 := HR.out.below hb04
       have hgl2 : W2.heap.size < g := by have : (W2.alloc (.cells #[.string (mkB nm), .bool (isLst k), .func (.func (fnK k)) #[.pointer (some ⟨K, 0, none⟩)] #[]] 48)).heap.size = W2.heap.size + 1 := by simp
                                          omega
       have hH2 : W.heap.size < W2.heap.size := Nat.lt_of_lt_of_le HZQ.out.lt HB2.out.size
       have hW4 : W2.heap.size < W4.heap.size := q2.lt
       have hv4 := HV.out.step hb04
       have cw := contains_any q4.o5 (by omega) (mkB nm)
       rw [mkB_list] at cw
       have cf := freqOf_any (mkB v) W4 hv4
       rw [mkB_list] at cf
       obtain ⟨z0, z1, z2⟩ := q1.cells
       have zf := q1.frozen
       obtain ⟨p0, p1, p2⟩ := q2.cells
       have c12 : W4.cell? ⟨K, 12, none⟩ = some v5 := q3.cell (j := 12) rfl
       have n1 : ¬ K = W.heap.size := by omega
       have n2 : ¬ W.heap.size = K := by omega
       have n3 : ¬ K = W2.heap.size := by omega
       have n4 : ¬ W2.heap.size = K := by omega
       have n5 : ¬ W.heap.size = W2.heap.size := by omega
       have n6 : ¬ W2.heap.size = W.heap.size := by omega
       have X := Lib.hid (And.intro q1 (And.intro q2 (And.intro q3 (And.intro q4 hb04))))
       have Y := Lib.hid (And.intro hTx (And.intro hVs hgl2))
       have hvl := hVs.1
       rw [decide_eq_true hin] at cw
       clear q1 q2 q3 q4 hb04 hTx hVs hb3 hb4 hv3 hv4)
    | (go_at_call 54; refine cw.mono ?_; rintro e w' ⟨rfl, hw⟩; subst w'; clear cw))
  refine bodyPost_ret (results_ctt rfl _ rfl rfl rfl (load_b3 (n := ⟨#[]⟩) (b := false) (c := .nilFunc) rfl (heap_put3 X.out.1))) rfl ?_
  unfold BgAns
  rw [HE.out]
  exact ⟨rfl, X.out.2.2.2.2.trans (below_put3 (Nat.le_refl _) _ _ _)⟩
set_option maxRecDepth 100000 in
set_option maxHeartbeats 8000000 in
theorem beg_e1 (s : ByteArray) (hs : s.size ≤ 1048576) (K n : Nat) (r : RuV) (sn : List (List UInt8)) (W : World) (_hK : K < n) (_hn : n ≤ W.heap.size) (hl : sn.length ≤ 2000000) (hv : VV W) (h : Rd K n r sn W) (nm v : List UInt8) (ok : Bool) (hcut : Lib.cut s.data.toList [61] = (nm, v, ok)) (hok : ok = true) (k : Nat) (hk : nameL nm = k) (hk0 : ¬ k = 0) (hin : ¬ nm ∈ sn) (hmany : isLst k = true ∧ 24 < (splitC 44 [] v).length) :
    Calls Tryz.prog 20 #[.pointer (some ⟨K, 0, none⟩), .string s] W (BgAns K n r sn s.data.toList W) := by
  obtain ⟨v1, v2, v3, v4, v5, hB, hR⟩ := h
  obtain ⟨m, hm⟩ := hv.mx
  have hsz := bsize s
  have hlen : nm.length ≤ s.size ∧ v.length ≤ s.size := by
    have := cut_lens s.data.toList [61]
    rw [hcut, ← hsz] at this
    exact this
  have hb1 : Below W.heap.size W (W.alloc (.cells #[.string ⟨#[]⟩, .bool false, .nilFunc] 48)) := (Below.refl _ W).alloc (Nat.le_refl _) _
  have cc := Tryz.strings_Cut s ⟨#[61]⟩ m (W.alloc (.cells #[.string ⟨#[]⟩, .bool false, .nilFunc] 48)) (by omega) ((hb1.cell (p := ⟨4, 0, none⟩) (cell_in hm)).trans hm)
  rw [show (⟨#[61]⟩ : ByteArray).data.toList = [61] from rfl, hcut] at cc
  have cp := fun w => part14_any (mkB nm) K w
  rw [mkB_list] at cp
  rw [(show prtV K nm = .agg #[.string (mkB nm), .bool (isLst k), .func (.func (fnK k)) #[.pointer (some ⟨K, 0, none⟩)] #[]] by unfold prtV; rw [hk, if_neg (by omega), Int.toNat_natCast]; rfl)] at cp
  have hsv : (mkB v).size ≤ 1048576 := by rw [bsize, mkB_list]; omega
  have HE : Hid (begV sn s.data.toList = .error 27) := Lib.hid (by unfold begV; rw [hcut]; simp only; rw [if_neg (by rw [hok]; decide), if_neg (by omega), if_neg (fun x => by omega), if_neg hin, hk, Int.toNat_natCast, if_pos hmany])
  have hnm : ((mkB nm).toList == [70, 82, 69, 81]) = false := by
    have e := eq_text ⟨#[70, 82, 69, 81]⟩ nm
    rw [show (⟨#[70, 82, 69, 81]⟩ : ByteArray).data.toList = [70, 82, 69, 81] from rfl, show (⟨#[70, 82, 69, 81]⟩ : ByteArray).toList = [70, 82, 69, 81] by rw [ByteArray.toList_eq]] at e
    rw [Bool.beq_comm, e]
    exact decide_eq_false (fun x => by rw [x] at hk; have : nameL [70, 82, 69, 81] = 0 := rfl; omega)
  subst hok
  have HM := Lib.hid hmany
  clear hmany
  have hz1 := B3.new W (.string ⟨#[]⟩) (.bool false) .nilFunc
  have hlt := hB.lt
  have HB := Lib.hid hB
  have HR := Lib.hid hR
  have HV := Lib.hid hv
  have HB1 := Lib.hid hb1
  have HZ1 := Lib.hid hz1
  have hst : ∀ (a : Addr) (m : Mode) (W : World), Sem.run Tryz.prog (store a (.func (.func (fnK k)) #[.pointer (some ⟨K, 0, none⟩)] #[]) m) W = stored Tryz.prog W a (.func (.func (fnK k)) #[.pointer (some ⟨K, 0, none⟩)] #[]) m := fun a m W => run_store _ W a _ m rfl
  have hst0 : ∀ (a : Addr) (m : Mode) (W : World), Sem.run Tryz.prog (store a .nilFunc m) W = stored Tryz.prog W a .nilFunc m := fun a m W => run_store _ W a _ m rfl
  have hnn := fun w => nil_nil w
  have hfn := fun f a b w => fun_nil f a b w
  have HL := Lib.hid hlen
  have HS := Lib.hid hsz
  have HSV := Lib.hid hsv
  clear hB hR hm hlen hsz hsv hcut hb1 hz1 hv
  go_enter Tryz.func20, Tryz.ntmps20
  go_wp2_with (first
    | (go_at_call 50; refine cc.mono ?_; rintro e w' ⟨rfl, nq, hw⟩; subst w'; clear cc
       have hbq : Below W.heap.size W ((W.alloc (.cells #[.string ⟨#[]⟩, .bool false, .nilFunc] 48)).drewN nq) := bdN HB1.out nq
       have hz1 : B3 ((W.alloc (.cells #[.string ⟨#[]⟩, .bool false, .nilFunc] 48)).drewN nq) W.heap.size (.string ⟨#[]⟩) (.bool false) .nilFunc := HZ1.out.step (bdN (Below.refl _ _) nq)
       have HBQ := Lib.hid hbq
       have HZQ := Lib.hid hz1
       clear hbq hz1
       generalize (W.alloc (.cells #[.string ⟨#[]⟩, .bool false, .nilFunc] 48)).drewN nq = W1 at *)
    | (go_at_call 51; refine (cp _).mono ?_; rintro e W2 ⟨rfl, hb2⟩; clear cp
       have HB2 := Lib.hid hb2
       clear hb2)
    | (go_at_call 52
       have hb3 : Below W2.heap.size W2 (W2.alloc (.cells #[.string (mkB nm), .bool (isLst k), .func (.func (fnK k)) #[.pointer (some ⟨K, 0, none⟩)] #[]] 48)) := (Below.refl _ _).alloc (Nat.le_refl _) _
       have hv3 : VV (W2.alloc (.cells #[.string (mkB nm), .bool (isLst k), .func (.func (fnK k)) #[.pointer (some ⟨K, 0, none⟩)] #[]] 48)) := ((HV.out.step HBQ.out).step HB2.out).step hb3
       refine (values14_any (mkB nm) (isLst k) (.func (.func (fnK k)) #[.pointer (some ⟨K, 0, none⟩)] #[]) rfl (mkB v) HSV.out _ hv3).mono ?_
       rintro e W4 ⟨g, c, ps, rfl, hgl, hTx, hVs, hb4⟩
       rw [mkB_list] at hVs
       have hb04 : Below W.heap.size W W4 := HBQ.out.trans ((HB2.out.mono HBQ.out.size).trans ((hb3.mono (Nat.le_trans HBQ.out.size HB2.out.size)).trans (hb4.mono (Nat.le_trans HBQ.out.size (Nat.le_trans HB2.out.size hb3.size)))))
       have q1 : B3 W4 W.heap.size (.string ⟨#[]⟩) (.bool false) .nilFunc := ((HZQ.out.step HB2.out).step hb3).step hb4
       have q2 : B3 W4 W2.heap.size (.string (mkB nm)) (.bool (isLst k)) (.func (.func (fnK k)) #[.pointer (some ⟨K, 0, none⟩)] #[]) := (B3.new W2 _ _ _).step hb4
       have q3 := HB.out.step hb04
       have q4 := HR.out.below hb04
       have hgl2 : W2.heap.size < g := by have : (W2.alloc (.cells #[.string (mkB nm), .bool (isLst k), .func (.func (fnK k)) #[.pointer (some ⟨K, 0, none⟩)] #[]] 48)).heap.size = W2.heap.size + 1 := by simp
                                          omega
       have hH2 : W.heap.size < W2.heap.size := Nat.lt_of_lt_of_le HZQ.out.lt HB2.out.size
       have hW4 : W2.heap.size < W4.heap.size := q2.lt
       have hv4 := HV.out.step hb04
       have cw := contains_any q4.o5 (by omega) (mkB nm)
       rw [mkB_list] at cw
       have cf := freqOf_any (mkB v) W4 hv4
       rw [mkB_list] at cf
       obtain ⟨z0, z1, z2⟩ := q1.cells
       have zf := q1.frozen
       obtain ⟨p0, p1, p2⟩ := q2.cells
       have c12 : W4.cell? ⟨K, 12, none⟩ = some v5 := q3.cell (j := 12) rfl
       have n1 : ¬ K = W.heap.size := by omega
       have n2 : ¬ W.heap.size = K := by omega
       have n3 : ¬ K = W2.heap.size := by omega
       have n4 : ¬ W2.heap.size = K := by omega
       have n5 : ¬ W.heap.size = W2.heap.size := by omega
       have n6 : ¬ W2.heap.size = W.heap.size := by omega
       have X := Lib.hid (And.intro q1 (And.intro q2 (And.intro q3 (And.intro q4 hb04))))
       have Y := Lib.hid (And.intro hTx (And.intro hVs hgl2))
       have hvl := hVs.1
       rw [decide_eq_false hin] at cw
       have hpl : 24 < ps.length := (hVs.2.2.1 HM.out.1).2 HM.out.2
       have hpi : (24 : Int) < (ps.length : Int) := by omega
       clear q1 q2 q3 q4 hb04 hTx hVs hb3 hb4 hv3 hv4)
    | (go_at_call 54; refine cw.mono ?_; rintro e w' ⟨rfl, hw⟩; subst w'; clear cw))
  refine bodyPost_ret (results_ctt rfl _ rfl rfl rfl (load_b3 (n := ⟨#[]⟩) (b := false) (c := .nilFunc) rfl (heap_put3 X.out.1))) rfl ?_
  unfold BgAns
  rw [HE.out]
  exact ⟨rfl, X.out.2.2.2.2.trans (below_put3 (Nat.le_refl _) _ _ _)⟩
set_option maxRecDepth 100000 in
set_option maxHeartbeats 8000000 in
theorem beg_f1 (s : ByteArray) (hs : s.size ≤ 1048576) (K n : Nat) (r : RuV) (sn : List (List UInt8)) (W : World) (hK : K < n) (hn : n ≤ W.heap.size) (hl : sn.length ≤ 2000000) (hv : VV W) (h : Rd K n r sn W) (nm v : List UInt8) (ok : Bool) (hcut : Lib.cut s.data.toList [61] = (nm, v, ok)) (hok : ok = true) (k : Nat) (hk : nameL nm = k) (hk0 : ¬ k = 0) (hin : ¬ nm ∈ sn) (hfew : ¬ (isLst k = true ∧ 24 < (splitC 44 [] v).length)) (hk9 : k < 9) :
    Calls Tryz.prog 20 #[.pointer (some ⟨K, 0, none⟩), .string s] W (BgAns K n r sn s.data.toList W) := by
  obtain ⟨v1, v2, v3, v4, v5, hB, hR⟩ := h
  obtain ⟨m, hm⟩ := hv.mx
  have hsz := bsize s
  have hlen : nm.length ≤ s.size ∧ v.length ≤ s.size := by
    have := cut_lens s.data.toList [61]
    rw [hcut, ← hsz] at this
    exact this
  have hb1 : Below W.heap.size W (W.alloc (.cells #[.string ⟨#[]⟩, .bool false, .nilFunc] 48)) := (Below.refl _ W).alloc (Nat.le_refl _) _
  have cc := Tryz.strings_Cut s ⟨#[61]⟩ m (W.alloc (.cells #[.string ⟨#[]⟩, .bool false, .nilFunc] 48)) (by omega) ((hb1.cell (p := ⟨4, 0, none⟩) (cell_in hm)).trans hm)
  rw [show (⟨#[61]⟩ : ByteArray).data.toList = [61] from rfl, hcut] at cc
  have cp := fun w => part14_any (mkB nm) K w
  rw [mkB_list] at cp
  rw [(show prtV K nm = .agg #[.string (mkB nm), .bool (isLst k), .func (.func (fnK k)) #[.pointer (some ⟨K, 0, none⟩)] #[]] by unfold prtV; rw [hk, if_neg (by omega), Int.toNat_natCast]; rfl)] at cp
  have hsv : (mkB v).size ≤ 1048576 := by rw [bsize, mkB_list]; omega
  have HE : Hid (begV sn s.data.toList = .ok (k, nm, v)) := Lib.hid (by unfold begV; rw [hcut]; simp only; rw [if_neg (by rw [hok]; decide), if_neg (by omega), if_neg (fun x => by omega), if_neg hin, hk, Int.toNat_natCast, if_neg hfew])
  have hnm : ((mkB nm).toList == [70, 82, 69, 81]) = false := by
    have e := eq_text ⟨#[70, 82, 69, 81]⟩ nm
    rw [show (⟨#[70, 82, 69, 81]⟩ : ByteArray).data.toList = [70, 82, 69, 81] from rfl, show (⟨#[70, 82, 69, 81]⟩ : ByteArray).toList = [70, 82, 69, 81] by rw [ByteArray.toList_eq]] at e
    rw [Bool.beq_comm, e]
    exact decide_eq_false (fun x => by rw [x] at hk; have : nameL [70, 82, 69, 81] = 0 := rfl; omega)
  subst hok
  have FEW := Lib.hid hfew
  have K9 := Lib.hid hk9
  obtain ⟨i0, hi, hz0, hz1, hz2⟩ := info_parts infoSv
  clear hfew
  have hz1 := B3.new W (.string ⟨#[]⟩) (.bool false) .nilFunc
  have hlt := hB.lt
  have HB := Lib.hid hB
  have HR := Lib.hid hR
  have HV := Lib.hid hv
  have HB1 := Lib.hid hb1
  have HZ1 := Lib.hid hz1
  have hst : ∀ (a : Addr) (m : Mode) (W : World), Sem.run Tryz.prog (store a (.func (.func (fnK k)) #[.pointer (some ⟨K, 0, none⟩)] #[]) m) W = stored Tryz.prog W a (.func (.func (fnK k)) #[.pointer (some ⟨K, 0, none⟩)] #[]) m := fun a m W => run_store _ W a _ m rfl
  have hst0 : ∀ (a : Addr) (m : Mode) (W : World), Sem.run Tryz.prog (store a .nilFunc m) W = stored Tryz.prog W a .nilFunc m := fun a m W => run_store _ W a _ m rfl
  have hnn := fun w => nil_nil w
  have hfn := fun f a b w => fun_nil f a b w
  have HL := Lib.hid hlen
  have HS := Lib.hid hsz
  have HSV := Lib.hid hsv
  clear hB hR hm hlen hsz hsv hcut hb1 hz1 hv
  go_enter Tryz.func20, Tryz.ntmps20
  go_wp2_with (first
    | (go_at_call 50; refine cc.mono ?_; rintro e w' ⟨rfl, nq, hw⟩; subst w'; clear cc
       have hbq : Below W.heap.size W ((W.alloc (.cells #[.string ⟨#[]⟩, .bool false, .nilFunc] 48)).drewN nq) := bdN HB1.out nq
       have hz1 : B3 ((W.alloc (.cells #[.string ⟨#[]⟩, .bool false, .nilFunc] 48)).drewN nq) W.heap.size (.string ⟨#[]⟩) (.bool false) .nilFunc := HZ1.out.step (bdN (Below.refl _ _) nq)
       have HBQ := Lib.hid hbq
       have HZQ := Lib.hid hz1
       clear hbq hz1
       generalize (W.alloc (.cells #[.string ⟨#[]⟩, .bool false, .nilFunc] 48)).drewN nq = W1 at *)
    | (go_at_call 51; refine (cp _).mono ?_; rintro e W2 ⟨rfl, hb2⟩; clear cp
       have HB2 := Lib.hid hb2
       clear hb2)
    | (go_at_call 52
       have hb3 : Below W2.heap.size W2 (W2.alloc (.cells #[.string (mkB nm), .bool (isLst k), .func (.func (fnK k)) #[.pointer (some ⟨K, 0, none⟩)] #[]] 48)) := (Below.refl _ _).alloc (Nat.le_refl _) _
       have hv3 : VV (W2.alloc (.cells #[.string (mkB nm), .bool (isLst k), .func (.func (fnK k)) #[.pointer (some ⟨K, 0, none⟩)] #[]] 48)) := ((HV.out.step HBQ.out).step HB2.out).step hb3
       refine (values14_any (mkB nm) (isLst k) (.func (.func (fnK k)) #[.pointer (some ⟨K, 0, none⟩)] #[]) rfl (mkB v) HSV.out _ hv3).mono ?_
       rintro e W4 ⟨g, c, ps, rfl, hgl, hTx, hVs, hb4⟩
       rw [mkB_list] at hVs
       have hb04 : Below W.heap.size W W4 := HBQ.out.trans ((HB2.out.mono HBQ.out.size).trans ((hb3.mono (Nat.le_trans HBQ.out.size HB2.out.size)).trans (hb4.mono (Nat.le_trans HBQ.out.size (Nat.le_trans HB2.out.size hb3.size)))))
       have q1 : B3 W4 W.heap.size (.string ⟨#[]⟩) (.bool false) .nilFunc := ((HZQ.out.step HB2.out).step hb3).step hb4
       have q2 : B3 W4 W2.heap.size (.string (mkB nm)) (.bool (isLst k)) (.func (.func (fnK k)) #[.pointer (some ⟨K, 0, none⟩)] #[]) := (B3.new W2 _ _ _).step hb4
       have q3 := HB.out.step hb04
       have q4 := HR.out.below hb04
       have hgl2 : W2.heap.size < g := by have : (W2.alloc (.cells #[.string (mkB nm), .bool (isLst k), .func (.func (fnK k)) #[.pointer (some ⟨K, 0, none⟩)] #[]] 48)).heap.size = W2.heap.size + 1 := by simp
                                          omega
       have hH2 : W.heap.size < W2.heap.size := Nat.lt_of_lt_of_le HZQ.out.lt HB2.out.size
       have hW4 : W2.heap.size < W4.heap.size := q2.lt
       have hv4 := HV.out.step hb04
       have cw := contains_any q4.o5 (by omega) (mkB nm)
       rw [mkB_list] at cw
       have cf := freqOf_any (mkB v) W4 hv4
       rw [mkB_list] at cf
       obtain ⟨z0, z1, z2⟩ := q1.cells
       have zf := q1.frozen
       obtain ⟨p0, p1, p2⟩ := q2.cells
       have c12 : W4.cell? ⟨K, 12, none⟩ = some v5 := q3.cell (j := 12) rfl
       have n1 : ¬ K = W.heap.size := by omega
       have n2 : ¬ W.heap.size = K := by omega
       have n3 : ¬ K = W2.heap.size := by omega
       have n4 : ¬ W2.heap.size = K := by omega
       have n5 : ¬ W.heap.size = W2.heap.size := by omega
       have n6 : ¬ W2.heap.size = W.heap.size := by omega
       have X := Lib.hid (And.intro q1 (And.intro q2 (And.intro q3 (And.intro q4 hb04))))
       have Y := Lib.hid (And.intro hTx (And.intro hVs hgl2))
       have hvl := hVs.1
       rw [decide_eq_false hin] at cw
       have hpv : ps = valsK k v := by
         unfold valsK
         cases hi : isLst k with
         | false => rw [if_neg (by decide)]; exact hVs.2.1 hi
         | true => rw [if_pos rfl]; exact (hVs.2.2.1 hi).1 (by have := FEW.out; rw [hi] at this; by_cases h : 24 < (splitC 44 [] v).length; exact absurd ⟨rfl, h⟩ this; omega)
       have hle : ps.length ≤ 24 := by
         rw [hpv]
         unfold valsK
         cases hi : isLst k with
         | false => rw [if_neg (by decide)]; simp
         | true => rw [if_pos rfl]; have := FEW.out; rw [hi] at this; by_cases h : 24 < (splitC 44 [] v).length; exact absurd ⟨rfl, h⟩ this; omega
       have hli : ¬ (24 : Int) < (ps.length : Int) := by omega
       have PV := Lib.hid hpv
       have LE : Hid ((valsK k v).length ≤ 24) := Lib.hid (by rw [← hpv]; exact hle)
       clear hpv
       clear q1 q2 q3 q4 hb04 hTx hVs hb3 hb4 hv3 hv4)
    | (go_at_call 54; refine cw.mono ?_; rintro e w' ⟨rfl, hw⟩; subst w'; clear cw)
    | (at_builtin
       refine wpList_append_own_at _ rfl _ _ 39 rfl n 9 i0 (.string ⟨#[]⟩) 1 16 Tryz.underlying39 hi hz0 hz1 hz2 rfl (by decide) _ _ _ rfl (X.out.2.2.2.1.o5.alloc _) ⟨_, 0, none⟩ 1 1 [.string (mkB nm)] rfl rfl (cells_newV _ [.string (mkB nm)] _) (by simp [Value.oneCell']) (by unfold maxLen; omega) (by omega) (by simp; omega) ?_
       intro v' w1 hown' hgrow _ hat
       obtain ⟨g', cap', rfl⟩ := ownsRow_succ hown'
       have hn4 : n ≤ W4.heap.size := by omega
       have hob : ∀ j, some j = v5.ownBlock → j < W.heap.size := fun j ej => by
         rcases own_nil_or HR.out.o5 with e | ⟨g5, cap5, e, hg5, _, hlt5⟩
         · rw [e] at ej; simp [Value.ownBlock] at ej
         · rw [hg5] at ej; injection ej with ej; omega
       have kept : ∀ j, W.heap.size ≤ j → j < W4.heap.size → w1.heap[j]? = W4.heap[j]? := fun j h1 h2 => (hgrow.block j (by simp; omega) (fun ej => by have := hob j ej; omega)).trans (Below.heap_alloc W4 _ j h2)
       have u1 : B3 w1 W2.heap.size (.string (mkB nm)) (.bool (isLst k)) (.func (.func (fnK k)) #[.pointer (some ⟨K, 0, none⟩)] #[]) := X.out.2.1.blk (kept _ (by omega) (by omega))
       have u2 : B3 w1 W.heap.size (.string ⟨#[]⟩) (.bool false) .nilFunc := X.out.1.blk (kept _ (by omega) (by omega))
       have u4 := X.out.2.2.1.append hK hn4 X.out.2.2.2.1.o5 hgrow
       have u5 := X.out.2.2.2.1.app5 nm hown' hgrow
       have u6 := Ch.append (K := K) (by omega) hn4 X.out.2.2.2.1.o5 hgrow
       have u7 : Tx w1 g c ps := Y.out.1.blk (kept _ (by have := Y.out.2.2; omega) Y.out.1.lt)
       clear z0 z1 z2 zf p0 p1 p2 c12
       obtain ⟨z0, z1, z2⟩ := u2.cells
       have zf := u2.frozen
       obtain ⟨p0, p1, p2⟩ := u1.cells
       have c12 : w1.cell? ⟨K, 12, none⟩ = some v5 := u4.cell (j := 12) rfl
       have f12 := u4.frozen 12
       have HQ := Lib.hid (And.intro u1 (And.intro u2 (And.intro kept (And.intro u4 (And.intro u5 (And.intro u6 u7))))))
       clear u1 u2 u4 u5 u6 u7 kept hown' hgrow hat hob))
  obtain ⟨u1, u2, u3, u4, u5, u6, u7⟩ := HQ.out
  have hps : ps = valsK k v := PV.out
  subst hps
  have hq0 : B3 (put3 (w1.setCell ⟨K, 12, none⟩ (.slice (some ⟨g', 0, none⟩) (sn.length + 1) cap')) W.heap.size (.string (mkB nm)) (.bool (isLst k)) (.func (.func (fnK k)) #[.pointer (some ⟨K, 0, none⟩)] #[])) W.heap.size (.string (mkB nm)) (.bool (isLst k)) (.func (.func (fnK k)) #[.pointer (some ⟨K, 0, none⟩)] #[]) := heap_put3 (u2.blk (Below.heap_setCell w1 ⟨K, 12, none⟩ _ _ (by show W.heap.size ≠ K; omega)))
  refine bodyPost_ret (results_ctt rfl _ rfl rfl rfl (load_b3 (n := mkB nm) (b := isLst k) (c := .func (.func (fnK k)) #[.pointer (some ⟨K, 0, none⟩)] #[]) rfl hq0)) rfl ?_
  unfold BgAns
  rw [HE.out]
  have hgl2 := Y.out.2.2
  refine ⟨g, c, rfl, by omega, ?_, LE.out, K9.out, fun p hp => Nat.le_trans (Y.out.2.1.2.2.2 p hp) (by have := HL.out.2; rw [HS.out] at this; exact this), ?_, ⟨v1, v2, v3, v4, .slice (some ⟨g', 0, none⟩) (sn.length + 1) cap', ?_, ?_⟩⟩
  · exact u7.blk ((put3_other (by omega) _ _ _).trans (Below.heap_setCell w1 ⟨K, 12, none⟩ _ _ (by show g ≠ K; omega)))
  · exact (Ch.of_below (by omega) hn X.out.2.2.2.2).trans (u6.trans ((Ch.set _ _ _).trans (Ch.put3 _ (by omega) hn _ _ _)))
  · exact (put3_other (by omega) _ _ _).trans (u4.set (j := 12) (by simp [rdA]) (.slice (some ⟨g', 0, none⟩) (sn.length + 1) cap'))
  · exact (u5.set hK _).put3 (u2.blk (Below.heap_setCell w1 ⟨K, 12, none⟩ _ _ (by show W.heap.size ≠ K; omega)))
theorem begin14_any (s : ByteArray) (hs : s.size ≤ 1048576) (K n : Nat) (r : RuV) (sn : List (List UInt8)) (W : World) (hK : K < n) (hn : n ≤ W.heap.size) (hl : sn.length ≤ 2000000) (hv : VV W) (h : Rd K n r sn W) :
    Calls Tryz.prog 20 #[.pointer (some ⟨K, 0, none⟩), .string s] W (BgAns K n r sn s.data.toList W) := by
  obtain ⟨⟨nm, v, ok⟩, hcut⟩ : ∃ p, Lib.cut s.data.toList [61] = p := ⟨_, rfl⟩
  have hr := nameL_range nm
  by_cases hneg : nameL nm < 0
  · cases ok
    · exact beg_a0 s hs K n r sn W hK hn hl hv h nm v false hcut rfl hneg
    · exact beg_b s hs K n r sn W hK hn hl hv h nm v true hcut rfl hneg
  · obtain ⟨k, hk⟩ : ∃ k : Nat, nameL nm = k := ⟨(nameL nm).toNat, by omega⟩
    cases ok
    · exact beg_a1 s hs K n r sn W hK hn hl hv h nm v false hcut rfl k hk
    · by_cases hk0 : k = 0
      · by_cases hf0 : freqL v = 0
        · exact beg_c s hs K n r sn W hK hn hl hv h nm v true hcut rfl k hk hk0 hf0
        · by_cases hin : nm ∈ sn
          · exact beg_d0 s hs K n r sn W hK hn hl hv h nm v true hcut rfl k hk hk0 hf0 hin
          · by_cases hmany : isLst k = true ∧ 24 < (splitC 44 [] v).length
            · exact beg_e0 s hs K n r sn W hK hn hl hv h nm v true hcut rfl k hk hk0 hf0 hin hmany
            · exact beg_f0 s hs K n r sn W hK hn hl hv h nm v true hcut rfl k hk hk0 hf0 hin hmany (by omega)
      · by_cases hin : nm ∈ sn
        · exact beg_d1 s hs K n r sn W hK hn hl hv h nm v true hcut rfl k hk hk0 hin
        · by_cases hmany : isLst k = true ∧ 24 < (splitC 44 [] v).length
          · exact beg_e1 s hs K n r sn W hK hn hl hv h nm v true hcut rfl k hk hk0 hin hmany
          · exact beg_f1 s hs K n r sn W hK hn hl hv h nm v true hcut rfl k hk hk0 hin hmany (by omega)
end Go.Proofs.YtnidkcedomhofaaGreatDoor
