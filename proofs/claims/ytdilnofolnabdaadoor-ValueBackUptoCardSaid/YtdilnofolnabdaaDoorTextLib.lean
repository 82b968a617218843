/-
  Rows of bytes of the call's own, made from a text or by append, as texts again; what lies below stays.
-/
import Derived.Below
import Derived.Laws.OwnMore
import Derived.Laws.IdiomStrings
import Derived.Laws.BytesArg
import Derived.Deep.AppendLies
import Derived.Maps.AppendAt
import Derived.OwnWalk
import Derived.WalkKit
import Derived.Lib.Hide
import Derived.Test.YtdilnofolnabdaaDoorProg
import Derived.Test.YtdilnofolnabdaaDoorTextMath
namespace Go.Proofs.YtdilnofolnabdaaDoor
open Go.RowKit

theorem infoB : (Tryd.prog.info? 5).map (fun i => (i.zero, i.size, i.bytes)) = some (some (.int .u8 0), 1, 1) := by kernel_rfl
theorem bstep {w w1 w2 : World} (h : Below w.heap.size w w1) (h2 : Below w1.heap.size w1 w2) : Below w.heap.size w w2 := h.trans (h2.mono h.size)
theorem bstepB {B : Nat} {w w1 w2 : World} (h : Below B w w1) (hB : B ≤ w1.heap.size) (h2 : Below w1.heap.size w1 w2) : Below B w w2 := h.trans (h2.mono hB)
def u8s (l : List UInt8) : List Value := l.map fun c => .int .u8 (c.toNat : Int)
theorem u8s_app (a b : List UInt8) : u8s (a ++ b) = u8s a ++ u8s b := by simp [u8s]
theorem u8s_length (a : List UInt8) : (u8s a).length = a.length := by simp [u8s]

/-- A row that the call owns, as a string. -/
theorem own_string {P : Program} {w : World} {base st et dt n : Nat} {v : Value} {l : List UInt8} (hs : P.underlying st = some (.slice et)) (he : P.underlying et = some (.int .u8)) (hd : P.underlying dt = some .string)
    (hown : w.ownsRow base et 1 v n (u8s l)) : (convert st dt v).run P w = .ok (.string ⟨l.toArray⟩) w := by
  have hlen : l.length = n := by have := hown.1; simpa [u8s] using this
  subst hlen
  rcases hown.2 with ⟨rfl, h0⟩ | ⟨g, cap, cur, rfl, hb, hg, _⟩
  · obtain rfl : l = [] := List.eq_nil_of_length_eq_zero h0
    exact run_convert_bytes_nil w st et hs he 0 0 dt hd
  · refine run_convert_bytes_back w st dt et ⟨g, 0, none⟩ cap l hs he hd fun j hj => ?_
    exact hown.cells (g := g) rfl j _ (by simp [u8s, hj])

/-- A row that the call owns, behind what leaves all older blocks. -/
theorem own_below {w w' : World} {base size n : Nat} {e : TypeId} {v : Value} {xs : List Value} (h : w.ownsRow base e size v n xs) (hb : Below w.heap.size w w') : w'.ownsRow base e size v n xs := by
  refine ⟨h.1, ?_⟩
  rcases h.2 with h' | ⟨g, cap, cur, hv, hg, hh, r⟩
  · exact .inl h'
  · exact .inr ⟨g, cap, cur, hv, hg, (hb.block g (Array.getElem?_eq_some_iff.1 hh).1).trans hh, r⟩
/-- What an append to a row of the call's own leaves below the call's own blocks. -/
theorem below_append {w wr w1 : World} {n0 e size k : Nat} {v : Value} {xs : List Value} {tmp : Obj} (hb : Below n0 w wr) (hn : n0 ≤ wr.heap.size) (hrow : wr.ownsRow n0 e size v k xs) (hgrow : (wr.alloc tmp).grownBy w1 v.ownBlock) : Below n0 w w1 := by
  refine hb.trans (((Below.refl n0 wr).alloc hn tmp).grown hgrow (by simp; omega) fun j ej => ?_)
  rcases hrow.2 with ⟨rfl, _⟩ | ⟨g, cap, cur, rfl, hb, _, _⟩
  · simp [Value.ownBlock] at ej
  · obtain rfl : g = j := by simpa [Value.ownBlock] using ej
    exact hb

theorem below_appendD {w wr w1 : World} {n0 e size k : Nat} {v : Value} {xs : List Value} {tmp : Obj} (hb : Below n0 w wr) (hn : n0 ≤ wr.heap.size) (hrow : wr.ownsRow n0 e size v k xs) (hgrow : (wr.alloc tmp).drew.grownBy w1 v.ownBlock) : Below n0 w w1 := by
  refine hb.trans ((((Below.refl n0 wr).alloc hn tmp).drew).grown hgrow (by simp; omega) fun j ej => ?_)
  rcases hrow.2 with ⟨rfl, _⟩ | ⟨g, cap, cur, rfl, hb, _, _⟩
  · simp [Value.ownBlock] at ej
  · obtain rfl : g = j := by simpa [Value.ownBlock] using ej
    exact hb
/-- append onto a row of bytes of the call's own, at the operation: what is laid at block g goes behind it. -/
theorem oper_append {P : Program} {o : Oper} {a : Act} {w : World} {K : Act → World → Prop} {Q : Exit → Act → World → Prop} (s x : Operand) (t : TypeId)
    (ho : o.op = .call { callee := .builtin .append, args := #[s, x], argTypes := #[t, t] })
    {base : Nat} {e : TypeId} {i : TypeInfo} (ht : P.underlying t = some (.slice e)) (hi : P.info? e = some i) (hz : i.zero = some (.int .u8 0)) (hsize : i.size = 1) (hby : i.bytes = 1)
    {v : Value} {l : List UInt8} (hs : a.eval s = v) (hown : w.ownsRow base e 1 v l.length (u8s l)) {g c : Nat} (m : List UInt8) (hx : a.eval x = .slice (some ⟨g, 0, none⟩) m.length c)
    (hnews : ∀ j u, (u8s m)[j]? = some u → w.cell? ((⟨g, 0, none⟩ : Addr).add j) = some u) (hroom : l.length + m.length ≤ 1099511627776) (hbase : base ≤ w.heap.size)
    (h : ∀ v' w', w'.ownsRow base e 1 v' (l ++ m).length (u8s (l ++ m)) → w.grownBy w' v.ownBlock → K (a.put o.dst v') w') : Oper.wp P o a w K Q := by
  obtain ⟨v', w', hr, h2, h3, h4⟩ := run_append_own (P := P) w base t o.type e i (.int .u8 0) 1 1 ht hi hz hsize hby rfl (by decide) v l.length (u8s l) hown ⟨g, 0, none⟩ m.length c (u8s m) (by rw [u8s_length]; omega) hnews
    (fun u hu => by
      unfold u8s at hu
      obtain ⟨c, _, rfl⟩ := List.mem_map.1 hu
      rfl) (by unfold maxLen; omega) (by omega) hbase
  unfold Oper.wp execOp
  simp only [ho, resolve, invoke, builtin, Sem.run_bind, Sem.run_pure, Result.andThen_ok, List.map_toArray, List.map_cons, List.map_nil, hs, hx, hr]
  exact h v' w' (by rw [u8s_app, List.length_append]; exact h2) h3
/-- What was just laid in a block of its own reads there. -/
theorem cells_new (w : World) (m : List UInt8) (t : TypeId) (vs : Array Value) (h : vs = (u8s m).toArray) : ∀ j u, (u8s m)[j]? = some u → (w.alloc (.cells vs t)).cell? ((⟨w.heap.size, 0, none⟩ : Addr).add j) = some u := by
  intro j u hu
  subst h
  have hh := heap_alloc_new w (.cells (u8s m).toArray t)
  have e : ((⟨w.heap.size, 0, none⟩ : Addr).add j) = ⟨w.heap.size, j, none⟩ := by
    unfold Addr.add
    by_cases hj : j = 0
    · subst hj; rfl
    · simp [hj]
  rw [e]
  simp only [World.cell?, hh]
  simpa using hu

/-- The block g begins with these bytes, none of them frozen. -/
structure Byt (w : World) (g : Nat) (l : List UInt8) : Prop where
  blk : ∃ cur e lo hi, w.heap[g]? = some (.cells cur e (lo, hi)) ∧ (l.length ≤ lo ∨ hi = 0) ∧ l.length ≤ cur.size ∧ ∀ j, j < l.length → cur[j]? = some (.int .u8 ((l.getD j 0).toNat : Int))
section
variable {w w' : World} {g : Nat} {l : List UInt8}
theorem Byt.lt (h : Byt w g l) : g < w.heap.size := by
  obtain ⟨_, _, _, _, h, _⟩ := h.blk
  exact (Array.getElem?_eq_some_iff.1 h).1
theorem Byt.cell (h : Byt w g l) (j : Nat) (hj : j < l.length) : w.cell? ⟨g, j, none⟩ = some (.int .u8 ((l.getD j 0).toNat : Int)) := by
  obtain ⟨cur, e, lo, hi, h, _, _, hc⟩ := h.blk
  simp [World.cell?, h, hc j hj]
theorem Byt.free (h : Byt w g l) (j : Nat) (hj : j < l.length) : w.frozen? ⟨g, j, none⟩ = false := by
  obtain ⟨cur, e, lo, hi, h, hz, _, _⟩ := h.blk
  simp [World.frozen?, h]
  omega
theorem Byt.of_text (w : World) (e : TypeId) (m : ByteArray) (c : Nat) : Byt (w.drew.alloc (.cells (bytesRow m c) e ((bytesRow m c).size, (bytesRow m c).size + 1))) w.heap.size m.data.toList := by
  have hs : m.data.toList.length ≤ (bytesRow m c).size := by simp [bytesRow]
  refine ⟨bytesRow m c, e, _, _, heap_alloc_new w.drew _, .inl hs, hs, fun j hj => ?_⟩
  have hj' : j < m.data.size := by simpa using hj
  unfold bytesRow
  rw [Array.getElem?_append_left (by simpa using hj')]
  simp [Array.getElem?_eq_getElem hj', List.getD_eq_getElem?_getD]
theorem Byt.of_text_below (w : World) (e : TypeId) (m : ByteArray) (c : Nat) : Below w.heap.size w (w.drew.alloc (.cells (bytesRow m c) e ((bytesRow m c).size, (bytesRow m c).size + 1))) := ((Below.refl _ w).drew).alloc (Nat.le_refl _) _
theorem Byt.set (h : Byt w g l) (k : Nat) (x : UInt8) : Byt (w.setCell ⟨g, k, none⟩ (.int .u8 (x.toNat : Int))) g (l.set k x) := by
  obtain ⟨cur, e, lo, hi, h, hz, hs, hc⟩ := h.blk
  refine ⟨cur.setIfInBounds k (.int .u8 (x.toNat : Int)), e, lo, hi, ?_, by simpa using hz, by simpa using hs, fun j hj => ?_⟩
  · simp [World.setCell, Array.getElem?_modify, h]
  · have hj : j < l.length := by simpa using hj
    rw [Array.getElem?_setIfInBounds, List.getD_eq_getElem?_getD, List.getElem?_set]
    by_cases hk : k = j
    · subst hk
      rw [if_pos rfl, if_pos (by omega), if_pos rfl, if_pos hj]; rfl
    · rw [if_neg hk, if_neg hk, hc j hj, List.getD_eq_getElem?_getD]
theorem toNums (l : List UInt8) : strOfNums (l.map fun x => (x.toNat : Int)) = ⟨l.toArray⟩ := by
  unfold strOfNums
  rw [List.map_map]
  congr 2
  conv => rhs; rw [← List.map_id l]
  refine List.map_congr_left fun x _ => ?_
  simp
theorem Byt.conv {P : Program} {src e dst : TypeId} (hs : P.underlying src = some (.slice e)) (he : P.underlying e = some (.int .u8)) (hd : P.underlying dst = some .string) (h : Byt w g l) (c n : Nat) (hn : l.length = n) :
    (convert src dst (.slice (some ⟨g, 0, none⟩) n c)).run P w = .ok (.string ⟨l.toArray⟩) w := by
  have := run_convert_bytes_arg (P := P) w src e hs he g 0 n c (l.map fun x => (x.toNat : Int)) (by simpa using hn) (fun i hi => by
    rw [Nat.zero_add, h.cell i (by omega)]
    simp [show i < l.length by omega]) dst hd
  rw [toNums] at this
  exact this
end

end Go.Proofs.YtdilnofolnabdaaDoor
