/-
  CompWrites: which components can be, their texts, and what stands in them by name, is the document's.
-/
import Derived.Test.YtlfhhnjdfpgadaaGreatDoorG31
import Derived.Test.YtlfhhnjdfpgadaaGreatDoorG09
import Derived.Deep.LoopGhost
namespace Go.Proofs.YtlfhhnjdfpgadaaGreatDoor
open Go.RowKit

section
variable {P : Program} {ops : Array Oper} {Q : Exit → Act → World → Prop} {md : Region.Mode} {S : World → Prop} {k : Nat}
/-- One alone comes up, and is wanted. -/
theorem till_want {i : Nat} (o : Oper) {f : Nat} {listed : Array Bool} {a : Act} {w : World} (hr : Region.ready md ops listed = [i]) (ho : ops[i]? = some o) (hw : Region.wanted o (yielded ops a.tmps) = true)
    (h : ∀ K : Act → World → Prop, Shut (∀ a' w', (i ≠ k → listed.getD k true = false → S w') → TillC P md ops Q S k f (listed.setIfInBounds i true) a' w' → K a' w') → Oper.wp P o a w K Q) : TillC P md ops Q S k (f + 1) listed a w := fun hc => by
  refine ⟨fun h0 => (by rw [hr] at h0; cases h0), fun j hj => ?_⟩
  have hj' := hj
  rw [hr] at hj'
  obtain rfl : j = i := by simpa using hj'
  unfold wpOp
  simp only [ho]
  rw [if_pos hw]
  exact .inl (h _ fun a' w' hS hT => ⟨hS, hT (closed_set hc hj)⟩)
/-- Two come up, and are wanted. -/
theorem till_pair {i j : Nat} (oi oj : Oper) {f : Nat} {listed : Array Bool} {a : Act} {w : World} (hr : Region.ready md ops listed = [i, j]) (hoi : ops[i]? = some oi) (hoj : ops[j]? = some oj) (hwi : Region.wanted oi (yielded ops a.tmps) = true) (hwj : Region.wanted oj (yielded ops a.tmps) = true)
    (h1 : ∀ K : Act → World → Prop, Shut (∀ a' w', (i ≠ k → listed.getD k true = false → S w') → TillC P md ops Q S k f (listed.setIfInBounds i true) a' w' → K a' w') → Oper.wp P oi a w K Q)
    (h2 : ∀ K : Act → World → Prop, Shut (∀ a' w', (j ≠ k → listed.getD k true = false → S w') → TillC P md ops Q S k f (listed.setIfInBounds j true) a' w' → K a' w') → Oper.wp P oj a w K Q) : TillC P md ops Q S k (f + 1) listed a w := fun hc => by
  refine ⟨fun h0 => (by rw [hr] at h0; cases h0), fun q hq => ?_⟩
  have hq' := hq
  rw [hr] at hq'
  rcases List.mem_cons.1 hq' with rfl | hq'
  · unfold wpOp
    simp only [hoi]
    rw [if_pos hwi]
    exact .inl (h1 _ fun a' w' hS hT => ⟨hS, hT (closed_set hc hq)⟩)
  · obtain rfl : q = j := by simpa using hq'
    unfold wpOp
    simp only [hoj]
    rw [if_pos hwj]
    exact .inl (h2 _ fun a' w' hS hT => ⟨hS, hT (closed_set hc hq)⟩)
/-- Two come up, either may come first: what is behind both is walked once. -/
theorem till_both {i j : Nat} (oi oj : Oper) (X Y : Value → World → Prop) {f : Nat} {listed : Array Bool} {a : Act} {w : World} (hr : Region.ready md ops listed = [i, j]) (hri : Region.ready md ops (listed.setIfInBounds i true) = [j]) (hrj : Region.ready md ops (listed.setIfInBounds j true) = [i])
    (hoi : ops[i]? = some oi) (hoj : ops[j]? = some oj) (hij : i ≠ j) (hd : oi.dst ≠ oj.dst) (hwi : Region.wanted oi (yielded ops a.tmps) = true) (hwj : Region.wanted oj (yielded ops a.tmps) = true)
    (hwj' : ∀ v, Region.wanted oj (yielded ops (a.put oi.dst v).tmps) = true) (hwi' : ∀ v, Region.wanted oi (yielded ops (a.put oj.dst v).tmps) = true)
    (h1 : ∀ K : Act → World → Prop, Shut (∀ v w', S w' → X v w' → K (a.put oi.dst v) w') → Oper.wp P oi a w K Q)
    (h1' : ∀ v w', S w' → X v w' → ∀ K : Act → World → Prop, Shut (∀ u w2, S w2 → X v w2 → Y u w2 → K ((a.put oi.dst v).put oj.dst u) w2) → Oper.wp P oj (a.put oi.dst v) w' K Q)
    (h2 : ∀ K : Act → World → Prop, Shut (∀ u w', S w' → Y u w' → K (a.put oj.dst u) w') → Oper.wp P oj a w K Q)
    (h2' : ∀ u w', S w' → Y u w' → ∀ K : Act → World → Prop, Shut (∀ v w2, S w2 → X v w2 → Y u w2 → K ((a.put oj.dst u).put oi.dst v) w2) → Oper.wp P oi (a.put oj.dst u) w' K Q)
    (h : ∀ v u w2, S w2 → X v w2 → Y u w2 → TillC P md ops Q S k f ((listed.setIfInBounds i true).setIfInBounds j true) ((a.put oi.dst v).put oj.dst u) w2) : TillC P md ops Q S k (f + 2) listed a w := by
  have hl : (listed.setIfInBounds j true).setIfInBounds i true = (listed.setIfInBounds i true).setIfInBounds j true := (Array.setIfInBounds_comm _ _ hij).symm
  exact till_pair oi oj hr hoi hoj hwi hwj
    (fun K hK => h1 K (fun v w' hS hX => hK.out _ _ (fun _ _ => hS) (till_want oj hri hoj (hwj' v) (fun K2 hK2 => h1' v w' hS hX K2 (fun u w2 hS2 hX2 hY2 => hK2.out _ _ (fun _ _ => hS2) (h v u w2 hS2 hX2 hY2))))))
    (fun K hK => h2 K (fun u w' hS hY => hK.out _ _ (fun _ _ => hS) (till_want oi hrj hoi (hwi' u) (fun K2 hK2 => h2' u w' hS hY K2 (fun v w2 hS2 hX2 hY2 => hK2.out _ _ (fun _ _ => hS2) (by rw [Act.put_comm a u v (fun _ h1 h2 => hd (h2.trans h1.symm)), hl]; exact h v u w2 hS2 hX2 hY2))))))
end
abbrev zeroQ : QR := ⟨⟨#[]⟩, none, 0, 0, ⟨#[]⟩, []⟩
theorem zeroQ_ok (w : World) (B : Nat) : QOk w B zeroQ := ⟨Reads.nil, (fun r hr => by cases hr), Nat.le_refl _, by show 0 ≤ maxLen; unfold maxLen; omega⟩
/-- The first property of a name, and whether there is one. -/
def firstP (l : List QR) : Bool × Pro := match l with
  | [] => (false, proQ zeroQ)
  | q :: _ => (true, proQ q)
def PpAns (qs : List QR) (name : ByteArray) (w : World) (e : Ending) (w' : World) : Prop :=
  ∃ (q : QR) (b : Bool), e = .returned (.tuple #[.agg #[.string q.name, .slice q.L q.n q.c, .string q.vl], .bool b]) ∧ QOk w' w'.heap.size q ∧ Below w.heap.size w w' ∧ firstP (qs.filter (named name)) = (b, proQ q)
theorem pp_prog {qs : List QR} {name : ByteArray} {w w' : World} {e : Ending} (h : CPpAns qs name w e w') : PpAns qs name w e w' := by
  obtain ⟨hb, ⟨h0, rfl⟩ | ⟨q, l, q', h1, h2, _, h4, rfl⟩⟩ := h
  · exact ⟨zeroQ, false, rfl, zeroQ_ok _ _, hb, by rw [h0]; rfl⟩
  · exact ⟨q', true, rfl, h4, hb, by rw [h1, h2]; rfl⟩
theorem pp_ref {qs : List QR} {name : ByteArray} {w w' : World} {e : Ending} (hq : ∀ q ∈ qs, QOk w w.heap.size q) (h : PrpAns qs name w e w') : PpAns qs name w e w' := by
  obtain ⟨hb, ⟨h0, rfl⟩ | ⟨q, l, h1, rfl⟩⟩ := h
  · exact ⟨zeroQ, false, rfl, zeroQ_ok _ _, hb, by rw [h0]; rfl⟩
  · have hm : q ∈ qs := by
      have : q ∈ qs.filter (named name) := by rw [h1]; simp
      exact (List.mem_filter.1 this).1
    exact ⟨q, true, rfl, (hq q hm).step hb, hb, by rw [h1]; rfl⟩
/-- The two components, what lay before. -/
structure KW (w W : World) (nm : ByteArray) (A : Option Addr) (n c : Nat) (qs : List QR) (K : Option Addr) (k kc : Nat) (cs : List CR) (nm2 : ByteArray) (A2 : Option Addr) (n2 c2 : Nat) (qs2 : List QR) (K2 : Option Addr) (k2 kc2 : Nat) (cs2 : List CR) : Prop where
  ca : CA W w.heap.size nm A n c qs K k kc cs
  cb : CA W (w.heap.size + 1) nm2 A2 n2 c2 qs2 K2 k2 kc2 cs2
  bel : Below w.heap.size w W
  v : CV W
theorem KW.step {w W W' : World} {nm nm2 : ByteArray} {A K A2 K2 : Option Addr} {n c k kc n2 c2 k2 kc2 : Nat} {qs qs2 : List QR} {cs cs2 : List CR} (h : KW w W nm A n c qs K k kc cs nm2 A2 n2 c2 qs2 K2 k2 kc2 cs2) (hb : Below W.heap.size W W') : KW w W' nm A n c qs K k kc cs nm2 A2 n2 c2 qs2 K2 k2 kc2 cs2 :=
  ⟨h.ca.step hb, h.cb.step hb, bstep h.bel hb, h.v.step hb⟩
/-- A property's variable. -/
structure KP (W : World) (g : Nat) (q : QR) : Prop where
  bx : P3 W g q.name q.vl q.L q.n q.c
  ok : QOk W W.heap.size q
theorem KP.step {W W' : World} {g : Nat} {q : QR} (h : KP W g q) (hb : Below W.heap.size W W') : KP W' g q := ⟨h.bx.step hb, h.ok.step hb⟩
theorem KP.new {W : World} {q : QR} (h : QOk W W.heap.size q) : KP (W.alloc (.cells #[.string q.name, .slice q.L q.n q.c, .string q.vl] 30)) W.heap.size q := ⟨P3.new W q.name q.vl q.L q.n q.c, h.step ((Below.refl _ _).alloc (Nat.le_refl _) _)⟩
/-- Properties in a row. -/
structure KQ (W : World) (R : Option Addr) (N C : Nat) (l : List QR) : Prop where
  rd : Reads W W.heap.size 3 R N (enc3 fQ l)
  ok : ∀ q ∈ l, QOk W W.heap.size q
  le : N ≤ 9223372036854775807
theorem KQ.step {W W' : World} {R : Option Addr} {N C : Nat} {l : List QR} (h : KQ W R N C l) (hb : Below W.heap.size W W') : KQ W' R N C l := ⟨h.rd.step hb, fun x hx => (h.ok x hx).step hb, h.le⟩
theorem KQ.one {W : World} {q : QR} (h : QOk W W.heap.size q) : KQ (W.alloc (.cells #[.string q.name, .slice q.L q.n q.c, .string q.vl] 30)) (some ⟨W.heap.size, 0, none⟩) 1 1 [q] := by
  refine ⟨reads_new W _ _ 1 3 rfl, fun x hx => ?_, by omega⟩
  obtain rfl : x = q := by simpa using hx
  exact h.step ((Below.refl _ _).alloc (Nat.le_refl _) _)
/-- Components in a row. -/
structure KR (W : World) (R : Option Addr) (N C : Nat) (l : List CR) : Prop where
  rd : Reads W W.heap.size 3 R N (enc3 fC l)
  ok : ∀ x ∈ l, COk W W.heap.size x
  le : N ≤ C
  cap : C ≤ maxLen
theorem KR.step {W W' : World} {R : Option Addr} {N C : Nat} {l : List CR} (h : KR W R N C l) (hb : Below W.heap.size W W') : KR W' R N C l := ⟨h.rd.step hb, fun x hx => (h.ok x hx).step hb, h.le, h.cap⟩

structure KX (w W : World) (nm : ByteArray) (A : Option Addr) (n c : Nat) (qs : List QR) (K : Option Addr) (k kc : Nat) (cs : List CR) (nm2 : ByteArray) (A2 : Option Addr) (n2 c2 : Nat) (qs2 : List QR) (K2 : Option Addr) (k2 kc2 : Nat) (cs2 : List CR) (g3 : Nat) (p : QR) (g4 : Nat) (q : QR) : Prop where
  kw : KW w W nm A n c qs K k kc cs nm2 A2 n2 c2 qs2 K2 k2 kc2 cs2
  kp : KP W g3 p
  kq : KP W g4 q
theorem KX.step {w W W' : World} {nm nm2 : ByteArray} {A K A2 K2 : Option Addr} {n c k kc n2 c2 k2 kc2 g3 g4 : Nat} {qs qs2 : List QR} {cs cs2 : List CR} {p q : QR} (h : KX w W nm A n c qs K k kc cs nm2 A2 n2 c2 qs2 K2 k2 kc2 cs2 g3 p g4 q) (hb : Below W.heap.size W W') : KX w W' nm A n c qs K k kc cs nm2 A2 n2 c2 qs2 K2 k2 kc2 cs2 g3 p g4 q := ⟨h.kw.step hb, h.kp.step hb, h.kq.step hb⟩
set_option maxRecDepth 100000 in
set_option maxHeartbeats 16000000 in
theorem writes12_any (r r2 : CR) (name : ByteArray) (w : World) (hM : csize r ≤ 1048576) (hM2 : csize r2 ≤ 1048576) (hC : COk w w.heap.size r) (hC2 : COk w w.heap.size r2) (hv : CV w) :
    Calls Tryz.prog 3 #[.agg #[(fC r).1, (fC r).2.1, (fC r).2.2], .agg #[(fC r2).1, (fC r2).2.1, (fC r2).2.2], .string name] w fun e w' => e = .returned (.bool true) ∧ Below w.heap.size w w' := by
  have hmx : Tryz.prog.follows .mixedOrders = true := by kernel_rfl
  obtain ⟨nm, A, n, c, qs, K, k, kc, cs⟩ := r
  obtain ⟨nm2, A2, n2, c2, qs2, K2, k2, kc2, cs2⟩ := r2
  have hb0 := (Below.refl w.heap.size w).alloc (Nat.le_refl _) (.cells #[.string nm, .slice A n c, .slice K k kc] 25)
  have hb1 := (Below.refl _ (w.alloc (.cells #[.string nm, .slice A n c, .slice K k kc] 25))).alloc (Nat.le_refl _) (.cells #[.string nm2, .slice A2 n2 c2, .slice K2 k2 kc2] 25)
  have hcb := CA.new (hC2.step hb0)
  rw [World.size_alloc] at hcb
  have K0 : Hid (KW w ((w.alloc (.cells #[.string nm, .slice A n c, .slice K k kc] 25)).alloc (.cells #[.string nm2, .slice A2 n2 c2, .slice K2 k2 kc2] 25)) nm A n c qs K k kc cs nm2 A2 n2 c2 qs2 K2 k2 kc2 cs2) := Lib.hid ⟨(CA.new hC).step hb1, hcb, bstep hb0 hb1, (hv.step hb0).step hb1⟩
  have HM := Lib.hid (And.intro hM hM2)
  have HNL := Lib.hid (And.intro hC.nle hC.kle)
  clear hC hC2 hv hb0 hb1 hM hM2 hcb
  simp only [fC]
  go_enter Tryz.func3, Tryz.ntmps3
  go_upto_region 1 with fail
  generalize (w.alloc (.cells #[.string nm, .slice A n c, .slice K k kc] 25)).alloc (.cells #[.string nm2, .slice A2 n2 c2, .slice K2 k2 kc2] 25) = w0 at K0 ⊢
  obtain ⟨x0, x1, x2⟩ := K0.out.ca.bx.cells
  go_wp2_with fail
  refine (light_any (.mk nm A n c qs K k kc cs) w0 K0.out.ca.ok).mono ?_
  rintro e w1 ⟨⟨b, rfl⟩, hb1⟩
  have K1 := Lib.hid (K0.out.step hb1)
  clear hb1 K0 x0 x1 x2
  cases b
  · go_wp2_with fail
    refine (awake12_any w1 K1.out.v).mono ?_
    rintro e w2 ⟨rfl, hb2⟩
    go_wp2
    go_ret
    exact ⟨rfl, bstep K1.out.bel hb2⟩
  obtain ⟨x0, x1, x2⟩ := K1.out.cb.bx.cells
  go_wp2_with fail
  refine (light_any (.mk nm2 A2 n2 c2 qs2 K2 k2 kc2 cs2) w1 K1.out.cb.ok).mono ?_
  rintro e w2 ⟨⟨b, rfl⟩, hb2⟩
  have K2' := Lib.hid (K1.out.step hb2)
  clear hb2 K1 x0 x1 x2
  cases b
  · go_wp2_with fail
    refine (awake12_any w2 K2'.out.v).mono ?_
    rintro e w3 ⟨rfl, hb3⟩
    go_wp2
    go_ret
    exact ⟨rfl, bstep K2'.out.bel hb3⟩
  obtain ⟨x0, x1, x2⟩ := K2'.out.ca.bx.cells
  go_wp2_with fail
  refine (cProp_any nm name A n c qs K k kc cs w2 HM.out.1 K2'.out.ca.ok K2'.out.v).mono ?_
  intro e w3 h3
  obtain ⟨p, bp, rfl, hp, hb3, hpf⟩ := pp_prog h3
  have K3 := Lib.hid ((K2'.out.step hb3).step ((Below.refl _ _).alloc (Nat.le_refl _) (.cells #[.string p.name, .slice p.L p.n p.c, .string p.vl] 30)))
  have P3' := Lib.hid (KP.new hp)
  clear hb3 h3 hp K2' x0 x1 x2
  obtain ⟨x0, x1, x2⟩ := K3.out.ca.bx.cells
  go_wp2_with fail
  refine (refProp_any nm name A n c qs K k kc cs _ HM.out.1 K3.out.ca.ok).mono ?_
  intro e w4 h4
  obtain ⟨q, bq, rfl, hq, hb4, hqf⟩ := pp_ref K3.out.ca.ok.vq h4
  rw [hpf] at hqf
  injection hqf with hbq hpq
  subst hbq
  have hb5 := (Below.refl w4.heap.size w4).alloc (Nat.le_refl _) (.cells #[.string q.name, .slice q.L q.n q.c, .string q.vl] 30)
  have KX0 : Hid (KX w (w4.alloc (.cells #[.string q.name, .slice q.L q.n q.c, .string q.vl] 30)) nm A n c qs K k kc cs nm2 A2 n2 c2 qs2 K2 k2 kc2 cs2 w3.heap.size p w4.heap.size q) := Lib.hid ⟨(K3.out.step hb4).step hb5, (P3'.out.step hb4).step hb5, KP.new hq⟩
  have HPQ := Lib.hid hpq
  clear hb4 hb5 h4 hq hpf hpq K3 P3' x0 x1 x2
  go_upto_region 5 with fail
  generalize w4.alloc (.cells #[.string q.name, .slice q.L q.n q.c, .string q.vl] 30) = w5 at KX0 ⊢
  refine wp_region_till (fun w' => Below w5.heap.size w5 w') 7 8 hmx (by kernel_rfl) ?_
  have HS : Below w5.heap.size w5 w5.drew := (Below.refl _ _).drew
  refine till_take (i := 0) _ (Value.agg #[.string nm, .slice A n c, .slice K k kc]) [0] rfl (by kernel_rfl) (by kernel_rfl) (by kernel_rfl) (by kernel_rfl) (fun _ _ _ h => h) (.inl ⟨by kernel_rfl, fun w' hS => ?_⟩) HS ?_
  · obtain ⟨x0, x1, x2⟩ := (KX0.out.step hS).kw.ca.bx.cells
    go_simp
  try simp only [Act.put, List.setIfInBounds_toArray, List.set_cons_zero, List.set_cons_succ]
  refine till_take (i := 1) _ (.string name) [1] rfl (by kernel_rfl) (by kernel_rfl) (by kernel_rfl) (by kernel_rfl) (fun _ _ _ h => h) (.inl ⟨by kernel_rfl, fun w' hS => ?_⟩) HS ?_
  · go_simp
  try simp only [Act.put, List.setIfInBounds_toArray, List.set_cons_zero, List.set_cons_succ]
  refine till_take (i := 3) _ (Value.agg #[.string nm, .slice A n c, .slice K k kc]) [5, 3] rfl (by kernel_rfl) (by kernel_rfl) (by kernel_rfl) (by kernel_rfl) (fun _ _ _ h => h) (.inl ⟨by kernel_rfl, fun w' hS => ?_⟩) HS ?_
  · obtain ⟨x0, x1, x2⟩ := (KX0.out.step hS).kw.ca.bx.cells
    go_simp
  try simp only [Act.put, List.setIfInBounds_toArray, List.set_cons_zero, List.set_cons_succ]
  refine till_take (i := 4) _ (.string name) [5, 4] rfl (by kernel_rfl) (by kernel_rfl) (by kernel_rfl) (by kernel_rfl) (fun _ _ _ h => h) (.inl ⟨by kernel_rfl, fun w' hS => ?_⟩) HS ?_
  · go_simp
  try simp only [Act.put, List.setIfInBounds_toArray, List.set_cons_zero, List.set_cons_succ]
  refine till_one (i := 2) _ (by kernel_rfl) rfl rfl (fun Kc hK => ?_)
  go_simp
  have K6 := Lib.hid (KX0.out.step HS)
  refine (cComps_any nm name A n c qs K k kc cs _ HM.out.1 K6.out.kw.ca.ok K6.out.kw.v).mono ?_
  rintro e w6 ⟨R1, N1, C1, l1, rfl, hR1, hO1, hN1, hC1, hl1, _, hb6⟩
  have R6 := Lib.hid (show KR w6 R1 N1 C1 l1 from ⟨hR1, hO1, hN1, hC1⟩)
  have HS6 := bstep HS hb6
  clear HS K6 hR1 hO1 hN1 hC1 hb6
  have HS := HS6
  clear HS6
  refine hK.out _ _ (fun _ _ => HS) ?_
  try simp only [Act.put, List.setIfInBounds_toArray, List.set_cons_zero, List.set_cons_succ]
  clear hK Kc
  refine till_one (i := 5) _ (by kernel_rfl) rfl rfl (fun Kc hK => ?_)
  go_simp
  have K6 := Lib.hid (KX0.out.step HS)
  refine (refComps_any nm name A n c qs K k kc cs _ HM.out.1 K6.out.kw.ca.ok).mono ?_
  rintro e w7 ⟨R2, N2, C2, rfl, hR2, hO2, hN2, hC2, hb7⟩
  have R7 := Lib.hid (R6.out.step hb7)
  have Q7 := Lib.hid (show KR w7 R2 N2 C2 (cs.filter (namedC name)) from ⟨hR2, hO2, hN2, hC2⟩)
  have HS7 := bstep HS hb7
  clear HS K6 R6 hR2 hO2 hN2 hC2 hb7
  have HS := HS7
  clear HS7
  refine hK.out _ _ (fun _ _ => HS) ?_
  try simp only [Act.put, List.setIfInBounds_toArray, List.set_cons_zero, List.set_cons_succ]
  clear hK Kc
  refine till_one (i := 6) _ (by kernel_rfl) rfl rfl (fun Kc hK => ?_)
  go_simp
  refine hK.out _ _ (fun _ _ => HS) ?_
  try simp only [Act.put, List.setIfInBounds_toArray, List.set_cons_zero, List.set_cons_succ]
  clear hK Kc
  refine till_one (i := 7) _ (by kernel_rfl) rfl rfl (fun Kc hK => ?_)
  go_simp
  refine hK.out _ _ (fun h => absurd rfl h) ?_
  try simp only [Act.put, List.setIfInBounds_toArray, List.set_cons_zero, List.set_cons_succ]
  clear hK Kc
  refine till_done (by kernel_rfl) ?_
  have KX7 := Lib.hid (KX0.out.step HS)
  clear KX0 HS
  obtain ⟨l2, hl2⟩ : ∃ l2, cs.filter (namedC name) = l2 := ⟨_, rfl⟩
  rw [hl2] at Q7 hl1
  clear hl2
  have hN : N1 = N2 := by
    have h1 := R7.out.rd.len3
    have h2 := Q7.out.rd.len3
    have := congrArg List.length hl1
    simp only [List.length_map] at this
    omega
  subst hN
  have HL := Lib.hid (And.intro hl1 (And.intro R7.out.rd.len3 Q7.out.rd.len3))
  have hN8 : N1 ≤ 9223372036854775807 := by have := R7.out.le; have := R7.out.cap; unfold maxLen at this; omega
  clear hl1
  go_wp2_with fail
  go_loopg [48] N1 (fun gg v wr => ∃ i : Nat, v = .int .i64 i ∧ i ≤ N1 ∧ N1 - i ≤ gg ∧ Hid (KX w wr nm A n c qs K k kc cs nm2 A2 n2 c2 qs2 K2 k2 kc2 cs2 w3.heap.size p w4.heap.size q ∧ KR wr R1 N1 C1 l1 ∧ KR wr R2 N1 C2 l2))
  case atStart => exact ⟨0, rfl, Nat.zero_le _, by omega, Lib.hid ⟨KX7.out, R7.out, Q7.out⟩⟩
  case round =>
    clear KX7 R7 Q7
    obtain ⟨i, rfl, hi, hg, J⟩ := hrel
    by_cases hlt : i < N1
    · have h1 : i < l1.length := by have := HL.out.2.1; omega
      have h2 : i < l2.length := by have := HL.out.2.2; omega
      obtain ⟨x, hx⟩ : ∃ x, l1[i]? = some x := ⟨_, List.getElem?_eq_getElem h1⟩
      obtain ⟨y, hy⟩ : ∃ y, l2[i]? = some y := ⟨_, List.getElem?_eq_getElem h2⟩
      have hxy : compOf x = compOf y := by
        have := congrArg (·[i]?) HL.out.1
        simp only [List.getElem?_map, hx, hy, Option.map_some, Option.some.injEq] at this
        exact this
      have HX := Lib.hid (And.intro (And.intro hx hy) hxy)
      clear h1 h2 hx hy hxy
      have hli : (i : Int) < (N1 : Int) := by omega
      obtain ⟨ba, oa, rfl, _, _⟩ := J.out.2.1.rd.tri HX.out.1.1
      obtain ⟨bb, ob, rfl, _, _⟩ := J.out.2.2.rd.tri HX.out.1.2
      obtain ⟨fa, hfa⟩ : ∃ fa, oa + i * 3 = fa := ⟨_, rfl⟩
      obtain ⟨fb, hfb⟩ : ∃ fb, ob + i * 3 = fb := ⟨_, rfl⟩
      have FX : Hid (∀ w', Below wr.heap.size wr w' → w'.cell? ⟨ba, fa, none⟩ = some (fC x).1 ∧ w'.cell? ⟨ba, fa + 1, none⟩ = some (fC x).2.1 ∧ w'.cell? ⟨ba, fa + 2, none⟩ = some (fC x).2.2) := Lib.hid (fun w' hS => by
        obtain ⟨b', o', e', _, y0, y1, y2⟩ := (J.out.2.1.step hS).rd.tri HX.out.1.1
        injection e' with e'; injection e' with e1 e2; subst e1; subst e2
        rw [← hfa]; exact ⟨y0, y1, y2⟩)
      have FY : Hid (∀ w', Below wr.heap.size wr w' → w'.cell? ⟨bb, fb, none⟩ = some (fC y).1 ∧ w'.cell? ⟨bb, fb + 1, none⟩ = some (fC y).2.1 ∧ w'.cell? ⟨bb, fb + 2, none⟩ = some (fC y).2.2) := Lib.hid (fun w' hS => by
        obtain ⟨b', o', e', _, y0, y1, y2⟩ := (J.out.2.2.step hS).rd.tri HX.out.1.2
        injection e' with e'; injection e' with e1 e2; subst e1; subst e2
        rw [← hfb]; exact ⟨y0, y1, y2⟩)
      go_upto_region 11 with fail
      refine wp_region_till (fun w' => Below wr.heap.size wr w') 9 10 hmx (by kernel_rfl) ?_
      have HS : Below wr.heap.size wr wr.drew := (Below.refl _ _).drew
      refine till_take (i := 0) _ (.slice (some ⟨ba, oa, none⟩) N1 C1) [8, 3, 2, 0] rfl (by kernel_rfl) (by kernel_rfl) (by kernel_rfl) (by kernel_rfl) (fun _ _ _ h => h) (.inl ⟨by kernel_rfl, fun w' hS => ?_⟩) HS ?_
      · go_simp
      try simp only [Act.put, List.setIfInBounds_toArray, List.set_cons_zero, List.set_cons_succ]
      refine till_take (i := 1) _ (.int .i64 i) [8, 3, 2, 1] rfl (by kernel_rfl) (by kernel_rfl) (by kernel_rfl) (by kernel_rfl) (fun _ _ _ h => h) (.inl ⟨by kernel_rfl, fun w' hS => ?_⟩) HS ?_
      · go_simp
      try simp only [Act.put, List.setIfInBounds_toArray, List.set_cons_zero, List.set_cons_succ]
      refine till_take (i := 2) _ (.pointer (some ⟨ba, fa, none⟩)) [8, 3, 2] rfl (by kernel_rfl) (by kernel_rfl) (by kernel_rfl) (by kernel_rfl) (fun _ _ _ h => h) (.inl ⟨by kernel_rfl, fun w' hS => ?_⟩) HS ?_
      · go_simp
      try simp only [Act.put, List.setIfInBounds_toArray, List.set_cons_zero, List.set_cons_succ]
      refine till_take (i := 3) _ (Value.agg #[(fC x).1, (fC x).2.1, (fC x).2.2]) [8, 3] rfl (by kernel_rfl) (by kernel_rfl) (by kernel_rfl) (by kernel_rfl) (fun _ _ _ h => h) (.inl ⟨by kernel_rfl, fun w' hS => ?_⟩) HS ?_
      · obtain ⟨y0, y1, y2⟩ := FX.out w' hS
        clear hfa hfb
        go_simp
      try simp only [Act.put, List.setIfInBounds_toArray, List.set_cons_zero, List.set_cons_succ]
      refine till_take (i := 4) _ (.slice (some ⟨bb, ob, none⟩) N1 C2) [8, 7, 6, 4] rfl (by kernel_rfl) (by kernel_rfl) (by kernel_rfl) (by kernel_rfl) (fun _ _ _ h => h) (.inl ⟨by kernel_rfl, fun w' hS => ?_⟩) HS ?_
      · go_simp
      try simp only [Act.put, List.setIfInBounds_toArray, List.set_cons_zero, List.set_cons_succ]
      refine till_take (i := 5) _ (.int .i64 i) [8, 7, 6, 5] rfl (by kernel_rfl) (by kernel_rfl) (by kernel_rfl) (by kernel_rfl) (fun _ _ _ h => h) (.inl ⟨by kernel_rfl, fun w' hS => ?_⟩) HS ?_
      · go_simp
      try simp only [Act.put, List.setIfInBounds_toArray, List.set_cons_zero, List.set_cons_succ]
      refine till_take (i := 6) _ (.pointer (some ⟨bb, fb, none⟩)) [8, 7, 6] rfl (by kernel_rfl) (by kernel_rfl) (by kernel_rfl) (by kernel_rfl) (fun _ _ _ h => h) (.inl ⟨by kernel_rfl, fun w' hS => ?_⟩) HS ?_
      · go_simp
      try simp only [Act.put, List.setIfInBounds_toArray, List.set_cons_zero, List.set_cons_succ]
      refine till_take (i := 7) _ (Value.agg #[(fC y).1, (fC y).2.1, (fC y).2.2]) [8, 7] rfl (by kernel_rfl) (by kernel_rfl) (by kernel_rfl) (by kernel_rfl) (fun _ _ _ h => h) (.inl ⟨by kernel_rfl, fun w' hS => ?_⟩) HS ?_
      · obtain ⟨y0, y1, y2⟩ := FY.out w' hS
        clear hfa hfb
        go_simp
      try simp only [Act.put, List.setIfInBounds_toArray, List.set_cons_zero, List.set_cons_succ]
      refine till_one (i := 8) _ (by kernel_rfl) rfl rfl (fun Kc hK => ?_)
      go_simp
      have J6 := Lib.hid (And.intro (J.out.1.step HS) (And.intro (J.out.2.1.step HS) (J.out.2.2.step HS)))
      refine (refSame12_any (csize x) x y _ (Nat.le_refl _) (J6.out.2.1.ok x (List.mem_of_getElem? HX.out.1.1)) (J6.out.2.2.ok y (List.mem_of_getElem? HX.out.1.2))).mono ?_
      rintro e w9 ⟨rfl, hb9⟩
      rw [eqC_true HX.out.2]
      have HS9 := bstep HS hb9
      clear HS J6 hb9
      have HS := HS9
      clear HS9
      refine hK.out _ _ (fun _ _ => HS) ?_
      try simp only [Act.put, List.setIfInBounds_toArray, List.set_cons_zero, List.set_cons_succ]
      clear hK Kc
      refine till_one (i := 9) _ (by kernel_rfl) rfl rfl (fun Kc hK => ?_)
      go_simp
      refine hK.out _ _ (fun h => absurd rfl h) ?_
      try simp only [Act.put, List.setIfInBounds_toArray, List.set_cons_zero, List.set_cons_succ]
      clear hK Kc
      refine till_done (by kernel_rfl) ?_
      have J9 := Lib.hid (And.intro (J.out.1.step HS) (And.intro (J.out.2.1.step HS) (J.out.2.2.step HS)))
      clear J HS HX
      go_wp2_with fail
      go_roundg (N1 - (i + 1))
      case measure => omega
      case rel => exact ⟨i + 1, by go_num, by omega, by omega, J9⟩
    · obtain rfl : i = N1 := by omega
      have KX0 := Lib.hid J.out.1
      clear J
      go_upto_region 14 with fail
      obtain ⟨fc, hfc⟩ : ∃ fc, fitT (compOf (.mk nm A n c qs K k kc cs)) = fc := ⟨_, rfl⟩
      obtain ⟨S, hSS⟩ : ∃ S : ByteArray, (⟨(prnC (compOf (.mk nm A n c qs K k kc cs))).toArray⟩ : ByteArray) = S := ⟨_, rfl⟩
      obtain ⟨z, hz⟩ : ∃ z, eqC (compOf (.mk nm A n c qs K k kc cs)) (compOf (.mk nm2 A2 n2 c2 qs2 K2 k2 kc2 cs2)) = z := ⟨_, rfl⟩
      have HFC := Lib.hid (And.intro hfc (And.intro hSS hz))
      clear hfc hSS hz
      refine wp_region_till (fun w' => Below wr.heap.size wr w') 50 51 hmx (by kernel_rfl) ?_
      have HS : Below wr.heap.size wr wr.drew := (Below.refl _ _).drew
      refine till_take (i := 0) _ (Value.agg #[.string nm, .slice A n c, .slice K k kc]) [0] rfl (by kernel_rfl) (by kernel_rfl) (by kernel_rfl) (by kernel_rfl) (fun _ _ _ h => h) (.inl ⟨by kernel_rfl, fun w' hS => ?_⟩) HS ?_
      · obtain ⟨x0, x1, x2⟩ := (KX0.out.step hS).kw.ca.bx.cells
        go_simp
      try simp only [Act.put, List.setIfInBounds_toArray, List.set_cons_zero, List.set_cons_succ]
      refine till_take (i := 2) _ (Value.agg #[.string nm, .slice A n c, .slice K k kc]) [2] rfl (by kernel_rfl) (by kernel_rfl) (by kernel_rfl) (by kernel_rfl) (fun _ _ _ h => h) (.inl ⟨by kernel_rfl, fun w' hS => ?_⟩) HS ?_
      · obtain ⟨x0, x1, x2⟩ := (KX0.out.step hS).kw.ca.bx.cells
        go_simp
      try simp only [Act.put, List.setIfInBounds_toArray, List.set_cons_zero, List.set_cons_succ]
      refine till_one (i := 1) _ (by kernel_rfl) rfl rfl (fun Kc hK => ?_)
      go_simp
      have K6 := Lib.hid (KX0.out.step HS)
      have cc := cFit_any (.mk nm A n c qs K k kc cs) _ HM.out.1 K6.out.kw.ca.ok K6.out.kw.v
      rw [HFC.out.1] at cc
      simp only [fC] at cc
      refine cc.mono ?_
      rintro e wa ⟨rfl, hb⟩
      have HSn := bstep HS hb
      clear HS hb K6 cc
      have HS := HSn
      clear HSn
      refine hK.out _ _ (fun _ _ => HS) ?_
      try simp only [Act.put, List.setIfInBounds_toArray, List.set_cons_zero, List.set_cons_succ]
      clear hK Kc
      refine till_one (i := 3) _ (by kernel_rfl) rfl rfl (fun Kc hK => ?_)
      go_simp
      have K6 := Lib.hid (KX0.out.step HS)
      have cc := refFit12_any (.mk nm A n c qs K k kc cs) _ HM.out.1 K6.out.kw.ca.ok
      rw [HFC.out.1] at cc
      simp only [fC] at cc
      refine cc.mono ?_
      rintro e wb ⟨rfl, hb⟩
      have HSn := bstep HS hb
      clear HS hb K6 cc
      have HS := HSn
      clear HSn
      refine hK.out _ _ (fun _ _ => HS) ?_
      try simp only [Act.put, List.setIfInBounds_toArray, List.set_cons_zero, List.set_cons_succ]
      clear hK Kc
      refine till_take (i := 4) _ (.bool true) [4] rfl (by kernel_rfl) (by kernel_rfl) (by kernel_rfl) (by kernel_rfl) (fun _ _ _ h => h) (.inl ⟨by kernel_rfl, fun w' hS => ?_⟩) HS ?_
      · go_simp
      try simp only [Act.put, List.setIfInBounds_toArray, List.set_cons_zero, List.set_cons_succ]
      refine till_take (i := 5) _ (.bool true) [5] rfl (by kernel_rfl) (by kernel_rfl) (by kernel_rfl) (by kernel_rfl) (fun _ _ _ h => h) (.inl ⟨by kernel_rfl, fun w' hS => ?_⟩) HS ?_
      · go_simp
      try simp only [Act.put, List.setIfInBounds_toArray, List.set_cons_zero, List.set_cons_succ]
      refine till_take (i := 6) _ (Value.agg #[.string nm, .slice A n c, .slice K k kc]) [6] rfl (by kernel_rfl) (by kernel_rfl) (by kernel_rfl) (by kernel_rfl) (fun _ _ _ h => h) (.inl ⟨by kernel_rfl, fun w' hS => ?_⟩) HS ?_
      · obtain ⟨x0, x1, x2⟩ := (KX0.out.step hS).kw.ca.bx.cells
        go_simp
      try simp only [Act.put, List.setIfInBounds_toArray, List.set_cons_zero, List.set_cons_succ]
      refine till_take (i := 8) _ (Value.agg #[.string nm, .slice A n c, .slice K k kc]) [8] rfl (by kernel_rfl) (by kernel_rfl) (by kernel_rfl) (by kernel_rfl) (fun _ _ _ h => h) (.inl ⟨by kernel_rfl, fun w' hS => ?_⟩) HS ?_
      · obtain ⟨x0, x1, x2⟩ := (KX0.out.step hS).kw.ca.bx.cells
        go_simp
      try simp only [Act.put, List.setIfInBounds_toArray, List.set_cons_zero, List.set_cons_succ]
      refine till_want (i := 7) _ (by kernel_rfl) rfl (by kernel_rfl) (fun Kc hK => ?_)
      go_simp
      have K6 := Lib.hid (KX0.out.step HS)
      have cc := cPrint_any (.mk nm A n c qs K k kc cs) _ HM.out.1 K6.out.kw.ca.ok K6.out.kw.v
      rw [HFC.out.2.1] at cc
      simp only [fC] at cc
      refine cc.mono ?_
      rintro e wc ⟨rfl, hb⟩
      have HSn := bstep HS hb
      clear HS hb K6 cc
      have HS := HSn
      clear HSn
      refine hK.out _ _ (fun _ _ => HS) ?_
      try simp only [Act.put, List.setIfInBounds_toArray, List.set_cons_zero, List.set_cons_succ]
      clear hK Kc
      refine till_want (i := 9) _ (by kernel_rfl) rfl (by kernel_rfl) (fun Kc hK => ?_)
      go_simp
      have K6 := Lib.hid (KX0.out.step HS)
      have cc := refPrint12_any (.mk nm A n c qs K k kc cs) _ HM.out.1 K6.out.kw.ca.ok
      rw [HFC.out.2.1] at cc
      simp only [fC] at cc
      refine cc.mono ?_
      rintro e wd ⟨rfl, hb⟩
      have HSn := bstep HS hb
      clear HS hb K6 cc
      have HS := HSn
      clear HSn
      refine hK.out _ _ (fun _ _ => HS) ?_
      try simp only [Act.put, List.setIfInBounds_toArray, List.set_cons_zero, List.set_cons_succ]
      clear hK Kc
      refine till_take (i := 10) _ (.bool true) [10] rfl (by kernel_rfl) (by kernel_rfl) (by kernel_rfl) (by kernel_rfl) (fun _ _ _ h => h) (.inl ⟨by kernel_rfl, fun w' hS => ?_⟩) HS ?_
      · go_simp
      try simp only [Act.put, List.setIfInBounds_toArray, List.set_cons_zero, List.set_cons_succ]
      refine till_take (i := 11) _ (.bool true) [11] rfl (by kernel_rfl) (by kernel_rfl) (by kernel_rfl) (by kernel_rfl) (fun _ _ _ h => h) (.inl ⟨by kernel_rfl, fun w' hS => ?_⟩) HS ?_
      · go_simp
      try simp only [Act.put, List.setIfInBounds_toArray, List.set_cons_zero, List.set_cons_succ]
      refine till_take (i := 12) _ (.bool true) [12] rfl (by kernel_rfl) (by kernel_rfl) (by kernel_rfl) (by kernel_rfl) (fun _ _ _ h => h) (.inl ⟨by kernel_rfl, fun w' hS => ?_⟩) HS ?_
      · go_simp
      try simp only [Act.put, List.setIfInBounds_toArray, List.set_cons_zero, List.set_cons_succ]
      refine till_take (i := 13) _ (Value.agg #[.string nm, .slice A n c, .slice K k kc]) [13] rfl (by kernel_rfl) (by kernel_rfl) (by kernel_rfl) (by kernel_rfl) (fun _ _ _ h => h) (.inl ⟨by kernel_rfl, fun w' hS => ?_⟩) HS ?_
      · obtain ⟨x0, x1, x2⟩ := (KX0.out.step hS).kw.ca.bx.cells
        go_simp
      try simp only [Act.put, List.setIfInBounds_toArray, List.set_cons_zero, List.set_cons_succ]
      refine till_take (i := 14) _ (.string name) [14] rfl (by kernel_rfl) (by kernel_rfl) (by kernel_rfl) (by kernel_rfl) (fun _ _ _ h => h) (.inl ⟨by kernel_rfl, fun w' hS => ?_⟩) HS ?_
      · go_simp
      try simp only [Act.put, List.setIfInBounds_toArray, List.set_cons_zero, List.set_cons_succ]
      refine till_take (i := 16) _ (Value.agg #[.string nm, .slice A n c, .slice K k kc]) [16] rfl (by kernel_rfl) (by kernel_rfl) (by kernel_rfl) (by kernel_rfl) (fun _ _ _ h => h) (.inl ⟨by kernel_rfl, fun w' hS => ?_⟩) HS ?_
      · obtain ⟨x0, x1, x2⟩ := (KX0.out.step hS).kw.ca.bx.cells
        go_simp
      try simp only [Act.put, List.setIfInBounds_toArray, List.set_cons_zero, List.set_cons_succ]
      refine till_take (i := 17) _ (.string name) [17] rfl (by kernel_rfl) (by kernel_rfl) (by kernel_rfl) (by kernel_rfl) (fun _ _ _ h => h) (.inl ⟨by kernel_rfl, fun w' hS => ?_⟩) HS ?_
      · go_simp
      try simp only [Act.put, List.setIfInBounds_toArray, List.set_cons_zero, List.set_cons_succ]
      refine till_want (i := 15) _ (by kernel_rfl) rfl (by kernel_rfl) (fun Kc hK => ?_)
      go_simp
      have K6 := Lib.hid (KX0.out.step HS)
      have cc := cProps_any nm name A n c qs K k kc cs _ HM.out.1 K6.out.kw.ca.ok K6.out.kw.v
      refine cc.mono ?_
      rintro e we ⟨R3, N3, C3, l3, rfl, hR3, hO3, hN3, hC3, hl3, _, hb⟩
      have Q3 := Lib.hid (show KQ we R3 N3 C3 l3 from ⟨hR3, hO3, by unfold maxLen at hC3; omega⟩)
      have HL3 := Lib.hid hl3
      clear hR3 hO3 hN3 hC3 hl3
      have HSn := bstep HS hb
      clear HS hb K6 cc
      have HS := HSn
      clear HSn
      refine hK.out _ _ (fun _ _ => HS) ?_
      try simp only [Act.put, List.setIfInBounds_toArray, List.set_cons_zero, List.set_cons_succ]
      clear hK Kc
      refine till_want (i := 18) _ (by kernel_rfl) rfl (by kernel_rfl) (fun Kc hK => ?_)
      go_simp
      have K6 := Lib.hid (KX0.out.step HS)
      have cc := refProps_any nm name A n c qs K k kc cs _ HM.out.1 K6.out.kw.ca.ok
      refine cc.mono ?_
      rintro e wf ⟨R4, N4, C4, rfl, hR4, hO4, hN4, hC4, hb⟩
      have Q4 := Lib.hid (show KQ wf R4 N4 C4 (qs.filter (named name)) from ⟨hR4, hO4, by unfold maxLen at hC4; omega⟩)
      have Q3' := Lib.hid (Q3.out.step hb)
      clear hR4 hO4 hN4 hC4 Q3
      have HSn := bstep HS hb
      clear HS hb K6 cc
      have HS := HSn
      clear HSn
      refine hK.out _ _ (fun _ _ => HS) ?_
      try simp only [Act.put, List.setIfInBounds_toArray, List.set_cons_zero, List.set_cons_succ]
      clear hK Kc
      refine till_want (i := 19) _ (by kernel_rfl) rfl (by kernel_rfl) (fun Kc hK => ?_)
      go_simp
      have K6 := Lib.hid (KX0.out.step HS)
      have cc := rows_any R3 R4 N3 C3 N4 C4 l3 (qs.filter (named name)) _ Q3'.out.rd Q3'.out.ok Q4.out.rd Q4.out.ok Q3'.out.le Q4.out.le
      rw [decide_eq_true HL3.out] at cc
      refine cc.mono ?_
      rintro e wg ⟨rfl, hb⟩
      have HSn := bstep HS hb
      clear HS hb K6 cc
      have HS := HSn
      clear HSn
      refine hK.out _ _ (fun _ _ => HS) ?_
      try simp only [Act.put, List.setIfInBounds_toArray, List.set_cons_zero, List.set_cons_succ]
      clear hK Kc
      clear Q3' Q4 HL3
      refine till_take (i := 20) _ (.bool true) [20] rfl (by kernel_rfl) (by kernel_rfl) (by kernel_rfl) (by kernel_rfl) (fun _ _ _ h => h) (.inl ⟨by kernel_rfl, fun w' hS => ?_⟩) HS ?_
      · go_simp
      try simp only [Act.put, List.setIfInBounds_toArray, List.set_cons_zero, List.set_cons_succ]
      refine till_take (i := 21) _ (.bool true) [21] rfl (by kernel_rfl) (by kernel_rfl) (by kernel_rfl) (by kernel_rfl) (fun _ _ _ h => h) (.inl ⟨by kernel_rfl, fun w' hS => ?_⟩) HS ?_
      · go_simp
      try simp only [Act.put, List.setIfInBounds_toArray, List.set_cons_zero, List.set_cons_succ]
      refine till_take (i := 22) _ (Value.agg #[.string p.name, .slice p.L p.n p.c, .string p.vl]) [22] rfl (by kernel_rfl) (by kernel_rfl) (by kernel_rfl) (by kernel_rfl) (fun _ _ _ h => h) (.inl ⟨by kernel_rfl, fun w' hS => ?_⟩) HS ?_
      · obtain ⟨x0, x1, x2⟩ := (KX0.out.step hS).kp.bx.cells
        go_simp
      try simp only [Act.put, List.setIfInBounds_toArray, List.set_cons_zero, List.set_cons_succ]
      refine till_take (i := 24) _ (Value.agg #[.string q.name, .slice q.L q.n q.c, .string q.vl]) [24] rfl (by kernel_rfl) (by kernel_rfl) (by kernel_rfl) (by kernel_rfl) (fun _ _ _ h => h) (.inl ⟨by kernel_rfl, fun w' hS => ?_⟩) HS ?_
      · obtain ⟨x0, x1, x2⟩ := (KX0.out.step hS).kq.bx.cells
        go_simp
      try simp only [Act.put, List.setIfInBounds_toArray, List.set_cons_zero, List.set_cons_succ]
      refine till_both (i := 23) (j := 25) _ _ (fun v W => ∃ R, v = .slice R 1 1 ∧ KQ W R 1 1 [p]) (fun v W => ∃ R, v = .slice R 1 1 ∧ KQ W R 1 1 [q]) (by kernel_rfl) (by kernel_rfl) (by kernel_rfl) rfl rfl (by decide) (by decide) (by kernel_rfl) (by kernel_rfl) (fun v => by kernel_rfl) (fun v => by kernel_rfl) ?_ ?_ ?_ ?_ ?_
      · intro Kc hK
        go_simp
        exact hK.out _ _ (bstep HS ((Below.refl _ _).alloc (Nat.le_refl _) (.cells #[.string p.name, .slice p.L p.n p.c, .string p.vl] 30))) ⟨_, rfl, KQ.one (KX0.out.step HS).kp.ok⟩
      · intro v w' hS hX Kc hK
        obtain ⟨R8, rfl, QA⟩ := hX
        go_simp
        exact hK.out _ _ (bstep hS ((Below.refl _ _).alloc (Nat.le_refl _) (.cells #[.string q.name, .slice q.L q.n q.c, .string q.vl] 30))) ⟨_, rfl, QA.step ((Below.refl _ _).alloc (Nat.le_refl _) (.cells #[.string q.name, .slice q.L q.n q.c, .string q.vl] 30))⟩ ⟨_, rfl, KQ.one (KX0.out.step hS).kq.ok⟩
      · intro Kc hK
        go_simp
        exact hK.out _ _ (bstep HS ((Below.refl _ _).alloc (Nat.le_refl _) (.cells #[.string q.name, .slice q.L q.n q.c, .string q.vl] 30))) ⟨_, rfl, KQ.one (KX0.out.step HS).kq.ok⟩
      · intro v w' hS hX Kc hK
        obtain ⟨R8, rfl, QA⟩ := hX
        go_simp
        exact hK.out _ _ (bstep hS ((Below.refl _ _).alloc (Nat.le_refl _) (.cells #[.string p.name, .slice p.L p.n p.c, .string p.vl] 30))) ⟨_, rfl, KQ.one (KX0.out.step hS).kp.ok⟩ ⟨_, rfl, QA.step ((Below.refl _ _).alloc (Nat.le_refl _) (.cells #[.string p.name, .slice p.L p.n p.c, .string p.vl] 30))⟩
      · intro v u wz hSz hX hY
        clear HS
        have HS := hSz
        clear hSz
        obtain ⟨R8, rfl, hX⟩ := hX
        obtain ⟨R9, rfl, hY⟩ := hY
        have QA := Lib.hid hX
        have QB := Lib.hid hY
        clear hX hY
        try simp only [Act.put, List.setIfInBounds_toArray, List.set_cons_zero, List.set_cons_succ]
        refine till_want (i := 26) _ (by kernel_rfl) rfl (by kernel_rfl) (fun Kc hK => ?_)
        go_simp
        have K6 := Lib.hid (KX0.out.step HS)
        have cc := rows_any _ _ 1 1 1 1 [p] [q] _ QA.out.rd QA.out.ok QB.out.rd QB.out.ok QA.out.le QB.out.le
        rw [decide_eq_true (show [p].map proQ = [q].map proQ by simp [HPQ.out])] at cc
        refine cc.mono ?_
        rintro e wj ⟨rfl, hb⟩
        have HSn := bstep HS hb
        clear HS hb K6 cc
        have HS := HSn
        clear HSn
        refine hK.out _ _ (fun _ _ => HS) ?_
        try simp only [Act.put, List.setIfInBounds_toArray, List.set_cons_zero, List.set_cons_succ]
        clear hK Kc
        refine till_take (i := 27) _ (.bool true) [27] rfl (by kernel_rfl) (by kernel_rfl) (by kernel_rfl) (by kernel_rfl) (fun _ _ _ h => h) (.inl ⟨by kernel_rfl, fun w' hS => ?_⟩) HS ?_
        · go_simp
        try simp only [Act.put, List.setIfInBounds_toArray, List.set_cons_zero, List.set_cons_succ]
        refine till_take (i := 28) _ (.bool true) [28] rfl (by kernel_rfl) (by kernel_rfl) (by kernel_rfl) (by kernel_rfl) (fun _ _ _ h => h) (.inl ⟨by kernel_rfl, fun w' hS => ?_⟩) HS ?_
        · go_simp
        try simp only [Act.put, List.setIfInBounds_toArray, List.set_cons_zero, List.set_cons_succ]
        refine till_take (i := 29) _ (.bool bp) [29] rfl (by kernel_rfl) (by kernel_rfl) (by kernel_rfl) (by kernel_rfl) (fun _ _ _ h => h) (.inl ⟨by kernel_rfl, fun w' hS => ?_⟩) HS ?_
        · go_simp
        try simp only [Act.put, List.setIfInBounds_toArray, List.set_cons_zero, List.set_cons_succ]
        refine till_take (i := 30) _ (.bool bp) [30] rfl (by kernel_rfl) (by kernel_rfl) (by kernel_rfl) (by kernel_rfl) (fun _ _ _ h => h) (.inl ⟨by kernel_rfl, fun w' hS => ?_⟩) HS ?_
        · go_simp
        try simp only [Act.put, List.setIfInBounds_toArray, List.set_cons_zero, List.set_cons_succ]
        refine till_take (i := 31) _ (.bool true) [31] rfl (by kernel_rfl) (by kernel_rfl) (by kernel_rfl) (by kernel_rfl) (fun _ _ _ h => h) (.inl ⟨by kernel_rfl, fun w' hS => ?_⟩) HS ?_
        · go_simp
        try simp only [Act.put, List.setIfInBounds_toArray, List.set_cons_zero, List.set_cons_succ]
        refine till_take (i := 32) _ (.bool true) [32] rfl (by kernel_rfl) (by kernel_rfl) (by kernel_rfl) (by kernel_rfl) (fun _ _ _ h => h) (.inl ⟨by kernel_rfl, fun w' hS => ?_⟩) HS ?_
        · go_simp
        try simp only [Act.put, List.setIfInBounds_toArray, List.set_cons_zero, List.set_cons_succ]
        refine till_take (i := 33) _ (.bool true) [33] rfl (by kernel_rfl) (by kernel_rfl) (by kernel_rfl) (by kernel_rfl) (fun _ _ _ h => h) (.inl ⟨by kernel_rfl, fun w' hS => ?_⟩) HS ?_
        · go_simp
        try simp only [Act.put, List.setIfInBounds_toArray, List.set_cons_zero, List.set_cons_succ]
        refine till_take (i := 34) _ (Value.agg #[.string nm, .slice A n c, .slice K k kc]) [34] rfl (by kernel_rfl) (by kernel_rfl) (by kernel_rfl) (by kernel_rfl) (fun _ _ _ h => h) (.inl ⟨by kernel_rfl, fun w' hS => ?_⟩) HS ?_
        · obtain ⟨x0, x1, x2⟩ := (KX0.out.step hS).kw.ca.bx.cells
          go_simp
        try simp only [Act.put, List.setIfInBounds_toArray, List.set_cons_zero, List.set_cons_succ]
        refine till_take (i := 35) _ (Value.agg #[.string nm2, .slice A2 n2 c2, .slice K2 k2 kc2]) [35] rfl (by kernel_rfl) (by kernel_rfl) (by kernel_rfl) (by kernel_rfl) (fun _ _ _ h => h) (.inl ⟨by kernel_rfl, fun w' hS => ?_⟩) HS ?_
        · obtain ⟨x0, x1, x2⟩ := (KX0.out.step hS).kw.cb.bx.cells
          go_simp
        try simp only [Act.put, List.setIfInBounds_toArray, List.set_cons_zero, List.set_cons_succ]
        refine till_take (i := 37) _ (Value.agg #[.string nm, .slice A n c, .slice K k kc]) [37] rfl (by kernel_rfl) (by kernel_rfl) (by kernel_rfl) (by kernel_rfl) (fun _ _ _ h => h) (.inl ⟨by kernel_rfl, fun w' hS => ?_⟩) HS ?_
        · obtain ⟨x0, x1, x2⟩ := (KX0.out.step hS).kw.ca.bx.cells
          go_simp
        try simp only [Act.put, List.setIfInBounds_toArray, List.set_cons_zero, List.set_cons_succ]
        refine till_take (i := 38) _ (Value.agg #[.string nm2, .slice A2 n2 c2, .slice K2 k2 kc2]) [38] rfl (by kernel_rfl) (by kernel_rfl) (by kernel_rfl) (by kernel_rfl) (fun _ _ _ h => h) (.inl ⟨by kernel_rfl, fun w' hS => ?_⟩) HS ?_
        · obtain ⟨x0, x1, x2⟩ := (KX0.out.step hS).kw.cb.bx.cells
          go_simp
        try simp only [Act.put, List.setIfInBounds_toArray, List.set_cons_zero, List.set_cons_succ]
        refine till_want (i := 36) _ (by kernel_rfl) rfl (by kernel_rfl) (fun Kc hK => ?_)
        go_simp
        have K6 := Lib.hid (KX0.out.step HS)
        have cc := cSame_any (.mk nm A n c qs K k kc cs) (.mk nm2 A2 n2 c2 qs2 K2 k2 kc2 cs2) _ HM.out.1 HM.out.2 K6.out.kw.ca.ok K6.out.kw.cb.ok K6.out.kw.v
        rw [HFC.out.2.2] at cc
        simp only [fC] at cc
        refine cc.mono ?_
        rintro e wk ⟨rfl, hb⟩
        have HSn := bstep HS hb
        clear HS hb K6 cc
        have HS := HSn
        clear HSn
        refine hK.out _ _ (fun _ _ => HS) ?_
        try simp only [Act.put, List.setIfInBounds_toArray, List.set_cons_zero, List.set_cons_succ]
        clear hK Kc
        refine till_want (i := 39) _ (by kernel_rfl) rfl (by kernel_rfl) (fun Kc hK => ?_)
        go_simp
        have K6 := Lib.hid (KX0.out.step HS)
        have cc := refSame12_any 1048576 (.mk nm A n c qs K k kc cs) (.mk nm2 A2 n2 c2 qs2 K2 k2 kc2 cs2) _ HM.out.1 K6.out.kw.ca.ok K6.out.kw.cb.ok
        rw [HFC.out.2.2] at cc
        simp only [fC] at cc
        refine cc.mono ?_
        rintro e wl ⟨rfl, hb⟩
        have HSn := bstep HS hb
        clear HS hb K6 cc
        have HS := HSn
        clear HSn
        refine hK.out _ _ (fun _ _ => HS) ?_
        try simp only [Act.put, List.setIfInBounds_toArray, List.set_cons_zero, List.set_cons_succ]
        clear hK Kc
        refine till_take (i := 40) _ (.bool true) [40] rfl (by kernel_rfl) (by kernel_rfl) (by kernel_rfl) (by kernel_rfl) (fun _ _ _ h => h) (.inl ⟨by kernel_rfl, fun w' hS => ?_⟩) HS ?_
        · go_simp
        try simp only [Act.put, List.setIfInBounds_toArray, List.set_cons_zero, List.set_cons_succ]
        refine till_take (i := 41) _ (.bool true) [41] rfl (by kernel_rfl) (by kernel_rfl) (by kernel_rfl) (by kernel_rfl) (fun _ _ _ h => h) (.inl ⟨by kernel_rfl, fun w' hS => ?_⟩) HS ?_
        · go_simp
        try simp only [Act.put, List.setIfInBounds_toArray, List.set_cons_zero, List.set_cons_succ]
        refine till_take (i := 42) _ (.bool true) [42] rfl (by kernel_rfl) (by kernel_rfl) (by kernel_rfl) (by kernel_rfl) (fun _ _ _ h => h) (.inl ⟨by kernel_rfl, fun w' hS => ?_⟩) HS ?_
        · go_simp
        try simp only [Act.put, List.setIfInBounds_toArray, List.set_cons_zero, List.set_cons_succ]
        refine till_take (i := 43) _ (Value.agg #[.string nm, .slice A n c, .slice K k kc]) [43] rfl (by kernel_rfl) (by kernel_rfl) (by kernel_rfl) (by kernel_rfl) (fun _ _ _ h => h) (.inl ⟨by kernel_rfl, fun w' hS => ?_⟩) HS ?_
        · obtain ⟨x0, x1, x2⟩ := (KX0.out.step hS).kw.ca.bx.cells
          go_simp
        try simp only [Act.put, List.setIfInBounds_toArray, List.set_cons_zero, List.set_cons_succ]
        refine till_take (i := 44) _ (Value.agg #[.string nm, .slice A n c, .slice K k kc]) [44] rfl (by kernel_rfl) (by kernel_rfl) (by kernel_rfl) (by kernel_rfl) (fun _ _ _ h => h) (.inl ⟨by kernel_rfl, fun w' hS => ?_⟩) HS ?_
        · obtain ⟨x0, x1, x2⟩ := (KX0.out.step hS).kw.ca.bx.cells
          go_simp
        try simp only [Act.put, List.setIfInBounds_toArray, List.set_cons_zero, List.set_cons_succ]
        refine till_want (i := 45) _ (by kernel_rfl) rfl (by kernel_rfl) (fun Kc hK => ?_)
        go_simp
        have K6 := Lib.hid (KX0.out.step HS)
        have cc := cSame_any (.mk nm A n c qs K k kc cs) (.mk nm A n c qs K k kc cs) _ HM.out.1 HM.out.1 K6.out.kw.ca.ok K6.out.kw.ca.ok K6.out.kw.v
        rw [eqC_true rfl] at cc
        simp only [fC] at cc
        refine cc.mono ?_
        rintro e wm ⟨rfl, hb⟩
        have HSn := bstep HS hb
        clear HS hb K6 cc
        have HS := HSn
        clear HSn
        refine hK.out _ _ (fun _ _ => HS) ?_
        try simp only [Act.put, List.setIfInBounds_toArray, List.set_cons_zero, List.set_cons_succ]
        clear hK Kc
        refine till_take (i := 46) _ (.bool true) [46] rfl (by kernel_rfl) (by kernel_rfl) (by kernel_rfl) (by kernel_rfl) (fun _ _ _ h => h) (.inl ⟨by kernel_rfl, fun w' hS => ?_⟩) HS ?_
        · go_simp
        try simp only [Act.put, List.setIfInBounds_toArray, List.set_cons_zero, List.set_cons_succ]
        refine till_take (i := 47) _ (.bool true) [47] rfl (by kernel_rfl) (by kernel_rfl) (by kernel_rfl) (by kernel_rfl) (fun _ _ _ h => h) (.inl ⟨by kernel_rfl, fun w' hS => ?_⟩) HS ?_
        · go_simp
        try simp only [Act.put, List.setIfInBounds_toArray, List.set_cons_zero, List.set_cons_succ]
        refine till_want (i := 48) _ (by kernel_rfl) rfl (by kernel_rfl) (fun Kc hK => ?_)
        go_simp
        have K6 := Lib.hid (KX0.out.step HS)
        have cc := awake12_any _ K6.out.kw.v
        refine cc.mono ?_
        rintro e wn ⟨rfl, hb⟩
        have HSn := bstep HS hb
        clear HS hb K6 cc
        have HS := HSn
        clear HSn
        refine hK.out _ _ (fun _ _ => HS) ?_
        try simp only [Act.put, List.setIfInBounds_toArray, List.set_cons_zero, List.set_cons_succ]
        clear hK Kc
        refine till_take (i := 49) _ (.bool true) [49] rfl (by kernel_rfl) (by kernel_rfl) (by kernel_rfl) (by kernel_rfl) (fun _ _ _ h => h) (.inl ⟨by kernel_rfl, fun w' hS => ?_⟩) HS ?_
        · go_simp
        try simp only [Act.put, List.setIfInBounds_toArray, List.set_cons_zero, List.set_cons_succ]
        refine till_one (i := 50) _ (by kernel_rfl) rfl rfl (fun Kc hK => ?_)
        go_simp
        refine hK.out _ _ (fun h => absurd rfl h) ?_
        try simp only [Act.put, List.setIfInBounds_toArray, List.set_cons_zero, List.set_cons_succ]
        clear hK Kc
        refine till_done (by kernel_rfl) ?_
        go_wp2_with fail
        go_ret
        exact ⟨rfl, bstep KX0.out.kw.bel HS⟩
end Go.Proofs.YtlfhhnjdfpgadaaGreatDoor
