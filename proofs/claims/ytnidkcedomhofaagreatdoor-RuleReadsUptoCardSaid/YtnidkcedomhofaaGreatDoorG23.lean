/-
  A region that draws its order, in which loads stand beside calls and the cells that they load are stored at its end: a condition on the world that has to hold only till a given operation is carried out.
-/
import Derived.Deep.RegionHeld
import Derived.StillTail
import Derived.Test.YtnidkcedomhofaaGreatDoorG19
namespace Go.Proofs.YtnidkcedomhofaaGreatDoor

section
variable {P : Program} {ops : Array Oper} {Q : Exit → Act → World → Prop} {md : Region.Mode} {S : World → Prop} {k : Nat}

/-- Each waits for the next one. -/
def waitsPath (md : Region.Mode) (ops : Array Oper) : List Nat → Bool
  | x :: y :: t => Region.waitsFor md ops x y && waitsPath md ops (y :: t)
  | _ => true
/-- What a carried out operation waits for is carried out. -/
def Closed (md : Region.Mode) (ops : Array Oper) (listed : Array Bool) : Prop :=
  ∀ j oj, ops[j]? = some oj → listed.getD j false = true → ∀ e ∈ oj.after, Region.binds md e = true → listed.getD e.on false = true
theorem closed_none (n : Nat) : Closed md ops (Array.replicate n false) := fun j oj _ hl => by rw [getD_replicate_false] at hl; cases hl
theorem closed_set {j : Nat} {listed : Array Bool} (h : Closed md ops listed) (hj : j ∈ Region.ready md ops listed) : Closed md ops (listed.setIfInBounds j true) := by
  obtain ⟨_, oj, hoj, hall⟩ := mem_ready.1 hj
  intro i oi hi hl e he hb
  by_cases hij : j = i
  · subst hij
    obtain rfl : oj = oi := Option.some.inj (hoj.symm.trans hi)
    exact getD_set_true (hall e he hb)
  · rw [getD_set_ne false hij] at hl
    exact getD_set_true (h i oi hi hl e he hb)
theorem path_last {listed : Array Bool} (hc : Closed md ops listed) : ∀ (p : List Nat) (x i : Nat), waitsPath md ops (x :: p) = true →
    (∀ ox, ops[x]? = some ox → ∀ e ∈ ox.after, Region.binds md e = true → listed.getD e.on false = true) → (x :: p).getLast? = some i → p ≠ [] → listed.getD i false = true
  | [], _, _, _, _, _, hne => absurd rfl hne
  | y :: t, x, i, hp, hx, hl, _ => by
    simp only [waitsPath, Bool.and_eq_true] at hp
    obtain ⟨ox, hox, e, he, hb, hon⟩ := Region.waitsFor_spec hp.1
    have hy := hx ox hox e he hb
    rw [hon] at hy
    rcases t with _ | ⟨z, t⟩
    · simp at hl
      rw [← hl]; exact hy
    · exact path_last hc (z :: t) y i hp.2 (fun oy hoy => hc y oy hoy hy) (by simpa using hl) (by simp)
theorem not_yet {listed : Array Bool} (hc : Closed md ops listed) {p : List Nat} {i : Nat} (hp : waitsPath md ops (k :: p) = true) (hl : (k :: p).getLast? = some i) (hne : p ≠ []) (hi : listed.getD i true = false) : k ∉ Region.ready md ops listed := by
  intro hr
  obtain ⟨_, ok, hok, hall⟩ := mem_ready.1 hr
  have := path_last hc p k i hp (fun ox hox => by rw [hok] at hox; injection hox with hox; subst hox; exact hall) hl hne
  rw [getD_both hi] at this
  cases this

/-- Whatever order is picked from here on; S holds behind each operation, till k is carried out. -/
def wpTill (P : Program) (md : Region.Mode) (ops : Array Oper) (Q : Exit → Act → World → Prop) (S : World → Prop) (k : Nat) : Nat → Array Bool → Act → World → Prop
  | 0, listed, a, w => Region.ready md ops listed = [] ∧ Q .normal a w
  | f + 1, listed, a, w => (Region.ready md ops listed = [] → Q .normal a w) ∧
    ∀ i ∈ Region.ready md ops listed, wpOp P ops Q i (fun a' w' => (i ≠ k → listed.getD k true = false → S w') ∧ wpTill P md ops Q S k f (listed.setIfInBounds i true) a' w') a w
theorem wpAny_of_till : ∀ (f : Nat) (listed : Array Bool) (a : Act) (w : World), wpTill P md ops Q S k f listed a w → wpAny P md ops Q f listed a w
  | 0, _, _, _, h => h
  | f + 1, _, _, _, h => ⟨h.1, fun i hi => wpOp_mono (fun a' w' h' => wpAny_of_till f _ a' w' h'.2) (h.2 i hi)⟩
theorem till_first {i : Nat} {oi : Oper} {v : Value} {p : List Nat} (hi : ops[i]? = some oi) (hsel : ∀ (j : Nat) (o : Oper) cs b, ops[j]? = some o → o.op ≠ .select cs b)
    (hQ : ∀ c a w, Q (.panic c) (a.put oi.dst v) w → Q (.panic c) a w) (hik : i ≠ k) (hp : waitsPath md ops (k :: p) = true) (hpl : (k :: p).getLast? = some i) (hpn : p ≠ []) :
    ∀ (f : Nat) (listed : Array Bool) (a : Act) (w : World), Closed md ops listed → listed.getD k true = false →
      (∀ j oj, ops[j]? = some oj → j ≠ i → listed.getD j true = false → (∀ e ∈ oj.after, Region.binds md e = true → e.on ≠ i) → oi.apart ops oj = true) →
      i ∈ Region.ready md ops listed → YieldsIf P ops S oi v a → S w →
      wpTill P md ops Q S k f (listed.setIfInBounds i true) (a.put oi.dst v) w → wpTill P md ops Q S k (f + 1) listed a w := by
  intro f
  induction f with
  | zero =>
    intro listed a w _ _ _ hr hy hS H
    refine ⟨fun h => (by rw [h] at hr; cases hr), fun j hj => ?_⟩
    by_cases hji : j = i
    · subst hji
      exact hy.wpOp hi hS ⟨fun _ _ => hS, H⟩
    · have := ready_mono hj hji
      rw [H.1] at this
      cases this
  | succ f ih =>
    intro listed a w hc hk hfree hr hy hS H
    have hun := (mem_ready.1 hr).1
    refine ⟨fun h => (by rw [h] at hr; cases hr), fun j hj => ?_⟩
    by_cases hji : j = i
    · subst hji
      exact hy.wpOp hi hS ⟨fun _ _ => hS, H⟩
    have hjk : j ≠ k := fun e => not_yet hc hp hpl hpn hun (e ▸ hj)
    obtain ⟨hjun, oj, hoj, hall⟩ := mem_ready.1 hj
    have hnot : ∀ e ∈ oj.after, Region.binds md e = true → e.on ≠ i := fun e he hb heq => by
      have h1 := hall e he hb
      rw [heq, getD_both hun] at h1
      cases h1
    refine wpOp_mono (fun a' w' h3 => ?_) (wpOp_putIf hoj (hfree j oj hoj hji hjun hnot) (fun cs b => hsel i oi cs b hi) (fun cs b => hsel j oj cs b hoj) hQ hy (H.2 j (ready_mono hj hji)))
    have hS' : S w' := h3.2.1 hjk (by rw [getD_set_ne true hik]; exact hk)
    refine ⟨fun _ _ => hS', ih (listed.setIfInBounds j true) a' w' (closed_set hc hj) (by rw [getD_set_ne true hjk]; exact hk) (fun q oq hq hqi hqun hno => ?_) (ready_mono hr (Ne.symm hji)) h3.1 hS' ?_⟩
    · by_cases hjq : j = q
      · subst hjq
        exact hfree j oq hq hqi hjun hno
      · rw [getD_set_ne true hjq] at hqun
        exact hfree q oq hq hqi hqun hno
    · rw [Array.setIfInBounds_comm _ _ hji]
      exact h3.2.2

/-- The same, where what is carried out is closed. -/
def TillC (P : Program) (md : Region.Mode) (ops : Array Oper) (Q : Exit → Act → World → Prop) (S : World → Prop) (k f : Nat) (listed : Array Bool) (a : Act) (w : World) : Prop :=
  Closed md ops listed → wpTill P md ops Q S k f listed a w
/-- Taken first: what yields its value in every world that meets S. -/
theorem till_take {i : Nat} (oi : Oper) (v : Value) (p : List Nat) {f : Nat} {listed : Array Bool} {a : Act} {w : World} (hi : ops[i]? = some oi) (hs : Region.noSelect ops = true) (hf : Region.free md ops listed i = true)
    (hr : (Region.ready md ops listed).contains i = true) (hp : (waitsPath md ops (k :: p) && decide ((k :: p).getLast? = some i) && !p.isEmpty && decide (i ≠ k) && !listed.getD k true) = true)
    (hQ : ∀ c a w, Q (.panic c) (a.put oi.dst v) w → Q (.panic c) a w) (hy : YieldsIf P ops S oi v a) (hS : S w)
    (h : TillC P md ops Q S k f (listed.setIfInBounds i true) (a.put oi.dst v) w) : TillC P md ops Q S k (f + 1) listed a w := fun hc => by
  simp only [Bool.and_eq_true, decide_eq_true_eq, Bool.not_eq_true', List.isEmpty_eq_false_iff] at hp
  have hr' : i ∈ Region.ready md ops listed := by simpa using hr
  exact till_first hi (Region.noSelect_spec hs) hQ hp.1.2 hp.1.1.1.1 hp.1.1.1.2 hp.1.1.2 f listed a w hc hp.2 (Region.free_spec hi hf) hr' hy hS (h (closed_set hc hr'))
/-- One alone comes up. -/
theorem till_one {i : Nat} (o : Oper) {f : Nat} {listed : Array Bool} {a : Act} {w : World} (hr : Region.ready md ops listed = [i]) (ho : ops[i]? = some o) (hg : o.guard = none)
    (h : ∀ K : Act → World → Prop, Shut (∀ a' w', (i ≠ k → listed.getD k true = false → S w') → TillC P md ops Q S k f (listed.setIfInBounds i true) a' w' → K a' w') → Oper.wp P o a w K Q) : TillC P md ops Q S k (f + 1) listed a w := fun hc => by
  refine ⟨fun h0 => (by rw [hr] at h0; cases h0), fun j hj => ?_⟩
  have hj' := hj
  rw [hr] at hj'
  obtain rfl : j = i := by simpa using hj'
  unfold wpOp
  simp only [ho]
  have hw : Region.wanted o (yielded ops a.tmps) = true := by simp [Region.wanted, hg]
  rw [if_pos hw]
  exact .inl (h _ fun a' w' hS hT => ⟨hS, hT (closed_set hc hj)⟩)
theorem till_done {f : Nat} {listed : Array Bool} {a : Act} {w : World} (hr : Region.ready md ops listed = []) (h : Q .normal a w) : TillC P md ops Q S k f listed a w := fun _ => by
  cases f with
  | zero => exact ⟨hr, h⟩
  | succ f => exact ⟨fun _ => h, by rw [hr]; simp⟩
theorem wp_region_till (S : World → Prop) (k n : Nat) {id : Nat} {a : Act} {w : World} (hm : P.follows .mixedOrders = true) (hn : ops.size = n)
    (h : TillC P .any ops Q S k n (Array.replicate n false) a w.drew) : (Code.region id ops true).wp P Q a w := by
  subst hn
  exact wp_region_any hm (wpAny_of_till _ _ _ _ (h (closed_none _)))
end

end Go.Proofs.YtnidkcedomhofaaGreatDoor

/-
  Regions that draw their order: what comes behind the operation till which a condition held; two stores in either order.
-/
namespace Go.Proofs.YtnidkcedomhofaaGreatDoor
open Go.RowKit

section
variable {P : Program} {ops : Array Oper} {Q : Exit → Act → World → Prop} {md : Region.Mode} {S S' : World → Prop} {k k' : Nat}
theorem getD_set_any {listed : Array Bool} {i k : Nat} (h : listed.getD k true = true) : (listed.setIfInBounds i true).getD k true = true := by
  by_cases e : i = k
  · subst e
    simp only [Array.getD_eq_getD_getElem?, Array.getElem?_setIfInBounds]
    by_cases hb : i < listed.size
    · simp [hb]
    · simp [hb]
  · rw [getD_set_ne true e]; exact h
theorem wpTill_switch : ∀ (f : Nat) (listed : Array Bool) (a : Act) (w : World), listed.getD k true = true → wpTill P md ops Q S' k' f listed a w → wpTill P md ops Q S k f listed a w
  | 0, _, _, _, _, h => h
  | f + 1, listed, _, _, hk, h => ⟨h.1, fun i hi => wpOp_mono (fun a' w' h3 => ⟨fun _ h4 => (by rw [hk] at h4; cases h4), wpTill_switch f _ a' w' (getD_set_any hk) h3.2⟩) (h.2 i hi)⟩
/-- Behind k nothing has to hold. -/
theorem till_switch {f : Nat} {listed : Array Bool} {a : Act} {w : World} (hk : listed.getD k true = true) (h : TillC P md ops Q (fun _ => True) 999 f listed a w) : TillC P md ops Q S k f listed a w := fun hc => wpTill_switch f listed a w hk (h hc)
theorem wpTill_weak : ∀ (f : Nat) (listed : Array Bool) (a : Act) (w : World), wpTill P md ops Q S k f listed a w → wpTill P md ops Q (fun _ => True) k' f listed a w
  | 0, _, _, _, h => h
  | f + 1, _, _, _, h => ⟨h.1, fun i hi => wpOp_mono (fun a' w' h3 => ⟨fun _ _ => trivial, wpTill_weak f _ a' w' h3.2⟩) (h.2 i hi)⟩
/-- From here on a condition holds. -/
theorem till_weak {f : Nat} {listed : Array Bool} {a : Act} {w : World} (h : TillC P md ops Q S k f listed a w) : TillC P md ops Q (fun _ => True) 999 f listed a w := fun hc => wpTill_weak f listed a w (h hc)
theorem true_first {i : Nat} {oi : Oper} {v : Value} (hi : ops[i]? = some oi) (hsel : ∀ (j : Nat) (o : Oper) cs b, ops[j]? = some o → o.op ≠ .select cs b)
    (hQ : ∀ c a w, Q (.panic c) (a.put oi.dst v) w → Q (.panic c) a w) :
    ∀ (f : Nat) (listed : Array Bool) (a : Act) (w : World),
      (∀ j oj, ops[j]? = some oj → j ≠ i → listed.getD j true = false → (∀ e ∈ oj.after, Region.binds md e = true → e.on ≠ i) → oi.apart ops oj = true) →
      i ∈ Region.ready md ops listed → YieldsIf P ops (fun _ => True) oi v a →
      wpTill P md ops Q (fun _ => True) k f (listed.setIfInBounds i true) (a.put oi.dst v) w → wpTill P md ops Q (fun _ => True) k (f + 1) listed a w := by
  intro f
  induction f with
  | zero =>
    intro listed a w _ hr hy H
    refine ⟨fun h => (by rw [h] at hr; cases hr), fun j hj => ?_⟩
    by_cases hji : j = i
    · subst hji
      exact hy.wpOp hi trivial ⟨fun _ _ => trivial, H⟩
    · have := ready_mono hj hji
      rw [H.1] at this
      cases this
  | succ f ih =>
    intro listed a w hfree hr hy H
    have hun := (mem_ready.1 hr).1
    refine ⟨fun h => (by rw [h] at hr; cases hr), fun j hj => ?_⟩
    by_cases hji : j = i
    · subst hji
      exact hy.wpOp hi trivial ⟨fun _ _ => trivial, H⟩
    obtain ⟨hjun, oj, hoj, hall⟩ := mem_ready.1 hj
    have hnot : ∀ e ∈ oj.after, Region.binds md e = true → e.on ≠ i := fun e he hb heq => by
      have h1 := hall e he hb
      rw [heq, getD_both hun] at h1
      cases h1
    refine wpOp_mono (fun a' w' h3 => ?_) (wpOp_putIf hoj (hfree j oj hoj hji hjun hnot) (fun cs b => hsel i oi cs b hi) (fun cs b => hsel j oj cs b hoj) hQ hy (H.2 j (ready_mono hj hji)))
    refine ⟨fun _ _ => trivial, ih (listed.setIfInBounds j true) a' w' (fun q oq hq hqi hqun hno => ?_) (ready_mono hr (Ne.symm hji)) h3.1 ?_⟩
    · by_cases hjq : j = q
      · subst hjq
        exact hfree j oq hq hqi hjun hno
      · rw [getD_set_ne true hjq] at hqun
        exact hfree q oq hq hqi hqun hno
    · rw [Array.setIfInBounds_comm _ _ hji]
      exact h3.2.2
/-- Taken first: what yields its value in every world. -/
theorem till_any {i : Nat} (oi : Oper) (v : Value) {f : Nat} {listed : Array Bool} {a : Act} {w : World} (hi : ops[i]? = some oi) (hs : Region.noSelect ops = true) (hf : Region.free md ops listed i = true)
    (hr : (Region.ready md ops listed).contains i = true) (hQ : ∀ c a w, Q (.panic c) (a.put oi.dst v) w → Q (.panic c) a w) (hy : YieldsIf P ops (fun _ => True) oi v a)
    (h : TillC P md ops Q (fun _ => True) k f (listed.setIfInBounds i true) (a.put oi.dst v) w) : TillC P md ops Q (fun _ => True) k (f + 1) listed a w := fun hc => by
  have hr' : i ∈ Region.ready md ops listed := by simpa using hr
  exact true_first hi (Region.noSelect_spec hs) hQ f listed a w (Region.free_spec hi hf) hr' hy (h (closed_set hc hr'))
/-- Two come up. -/
theorem till_two {i j : Nat} (o o2 : Oper) {f : Nat} {listed : Array Bool} {a : Act} {w : World} (hr : Region.ready md ops listed = [i, j]) (ho : ops[i]? = some o) (ho2 : ops[j]? = some o2) (hg : o.guard = none) (hg2 : o2.guard = none)
    (h1 : ∀ K : Act → World → Prop, Shut (∀ a' w', TillC P md ops Q (fun _ => True) k f (listed.setIfInBounds i true) a' w' → K a' w') → Oper.wp P o a w K Q)
    (h2 : ∀ K : Act → World → Prop, Shut (∀ a' w', TillC P md ops Q (fun _ => True) k f (listed.setIfInBounds j true) a' w' → K a' w') → Oper.wp P o2 a w K Q) : TillC P md ops Q (fun _ => True) k (f + 1) listed a w := fun hc => by
  refine ⟨fun h0 => (by rw [hr] at h0; cases h0), fun z hz => ?_⟩
  have hz' := hz
  rw [hr] at hz'
  rcases List.mem_cons.1 hz' with rfl | hz'
  · unfold wpOp
    simp only [ho]
    have hw : Region.wanted o (yielded ops a.tmps) = true := by simp [Region.wanted, hg]
    rw [if_pos hw]
    exact .inl (h1 _ fun a' w' hT => ⟨fun _ _ => trivial, hT (closed_set hc hz)⟩)
  · obtain rfl : z = j := by simpa using hz'
    unfold wpOp
    simp only [ho2]
    have hw : Region.wanted o2 (yielded ops a.tmps) = true := by simp [Region.wanted, hg2]
    rw [if_pos hw]
    exact .inl (h2 _ fun a' w' hT => ⟨fun _ _ => trivial, hT (closed_set hc hz)⟩)
/-- append as one operation of such a region. -/
theorem oper_append_own_at (w : World) {o : Oper} {a : Act} {K : Act → World → Prop} (s x : Operand) (t : TypeId)
    (ho : o.op = .call { callee := .builtin .append, args := #[s, x], argTypes := #[t, t] })
    (base : Nat) (e : TypeId) (i : TypeInfo) (z : Value) (size bytes : Nat) (ht : P.underlying t = some (.slice e)) (hi : P.info? e = some i) (hz : i.zero = some z)
    (hsize : i.size = size) (hby : i.bytes = bytes) (hzs : z.cells.size = size) (hsz : 0 < size) (v : Value) (n : Nat) (xs : List Value) (hs : a.eval s = v) (hown : w.ownsRow base e size v n xs)
    (ad : Addr) (m c : Nat) (news : List Value) (hx : a.eval x = .slice (some ad) m c) (hl : news.length = m * size) (hnews : ∀ j u, news[j]? = some u → w.cell? (ad.add j) = some u) (h1 : ∀ u ∈ news, u.oneCell' = true)
    (h63 : n + m ≤ maxLen) (hbytes : (n + m) * bytes ≤ 140737488355328) (hbase : base ≤ w.heap.size)
    (h : ∀ v' w', w'.ownsRow base e size v' (n + m) (xs ++ news) → w.grownBy w' v.ownBlock → (v'.ownBlock = v.ownBlock ∨ v'.ownBlock = some w.heap.size) → K (a.put o.dst v') w') :
    Oper.wp P o a w K Q := by
  obtain ⟨v', w', hr, h2, h3, _, h5⟩ := run_append_own_at (P := P) w base t o.type e i z size bytes ht hi hz hsize hby hzs hsz v n xs hown ad m c news hl hnews h1 h63 hbytes hbase
  unfold Oper.wp execOp
  simp only [ho, resolve, invoke, builtin, Sem.run_bind, Sem.run_pure, Result.andThen_ok, List.map_toArray, List.map_cons, List.map_nil, hs, hx, hr]
  exact h v' w' h2 h3 h5
end
end Go.Proofs.YtnidkcedomhofaaGreatDoor
