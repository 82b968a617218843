/-
  The document's own answers of layer 10: a stamp as it is read.
-/
import Derived.Test.YtnidkcedomhofaaGreatDoorG04
import Derived.Below
import Derived.Laws.OwnMore
import Derived.Laws.IdiomStrings
import Derived.Laws.BytesArg
import Derived.Deep.AppendLies
import Derived.Maps.AppendAt
import Derived.OwnWalk
import Derived.WalkKit
import Derived.Lib.Hide
import Derived.Test.YtnidkcedomhofaaGreatDoorProg
import Derived.Test.YtnidkcedomhofaaGreatDoorG01
import Derived.Test.YtnidkcedomhofaaGreatDoorG02
import Derived.Test.YtnidkcedomhofaaGreatDoorG03
namespace Go.Proofs.YtnidkcedomhofaaGreatDoor
open Go.RowKit

theorem get_at {s : ByteArray} {k : Nat} (h : k < s.size) : s.data.toList[k]? = some s[k] := by
  have h' : k < s.data.size := h
  rw [Array.getElem?_toList, Array.getElem?_eq_getElem h']
  rfl
theorem eq_letter {s : ByteArray} {k : Nat} {c : UInt8} (h : k < s.size) : s.data.toList[k]? = some c ↔ s[k].toNat = c.toNat := by
  rw [get_at h, Option.some.injEq, UInt8.toNat_inj]

set_option maxRecDepth 100000 in
set_option maxHeartbeats 2000000 in
theorem refReadStamp_any (s : ByteArray) (w : World) :
    Calls Tryz.prog 97 #[.string s] w fun e w' => e = .returned (.tuple #[.int .i64 (rdStamp s.data.toList).1, .int .i64 (rdStamp s.data.toList).2]) ∧ w' = w := by
  have hsz := bsize s
  by_cases h15 : s.size = 15
  · have h8 : 8 < s.size := by omega
    have el := eq_letter (s := s) (k := 8) (c := 84) h8
    by_cases ht : s[8].toNat = 84
    · have e8 := el.2 ht
      have cd := fun W => refReadDay_any (s.extract 0 8) W
      have cn := fun W => refNumber_any (s.extract 9 15) (by rw [ByteArray.size_extract]; omega) 999999 W
      rw [cut_list] at cd cn
      have c15 : (s.data.toList.drop 9).take (15 - 9) = s.data.toList.drop 9 := List.take_of_length_le (by rw [List.length_drop]; omega)
      rw [show (s.data.toList.drop 0).take (8 - 0) = s.data.toList.take 8 by rfl] at cd
      rw [c15] at cn
      clear el c15
      rcases rdDay_cases (s.data.toList.take 8) with ⟨n, hd, hr⟩ | ⟨hd, hr⟩
      · rw [hr] at cd
        have hb1 := hd.1
        cases hn : numL (s.data.toList.drop 9) 0 with
        | none =>
          rw [num_none hn] at cn
          have E : Hid (rdStamp s.data.toList = (0, 10)) := Lib.hid (rdStamp_num hn)
          have cc := fun W => refClock_any 0 0 0 (by omega) W
          clear hn hsz hd hr e8
          go_enter Tryz.func97, Tryz.ntmps97
          go_wp2_with (first
            | (go_at_call 96; ((with_reducible refine (cd _).mono ?_); rintro e w' ⟨rfl, hw⟩; subst w'))
            | (go_at_call 95; ((with_reducible refine (cn _).mono ?_); rintro e w' ⟨rfl, hw⟩; subst w'))
            | (go_at_call 123; ((with_reducible refine (cc _).mono ?_); rintro e w' ⟨rfl, hw⟩; subst w')))
          go_ret2
          exact ⟨by rw [E.out]; rfl, rfl⟩
        | some v =>
          have hb := (pad_numL 6 _ v (by rw [List.length_drop]; omega) hn).2
          rw [num_some (by rw [List.length_drop]; omega) hn (by omega)] at cn
          have cc := fun W => refClock_any (v / 10000 : Nat) (v / 100 % 100 : Nat) (v % 100 : Nat) (by omega) W
          have m1 : Int.tdiv (v : Int) 10000 = ((v / 10000 : Nat) : Int) := by rw [tdiv_pos (by omega)]; omega
          have m2 : Int.tdiv (v : Int) 100 = ((v / 100 : Nat) : Int) := by rw [tdiv_pos (by omega)]; omega
          have m3 : Int.tmod ((v / 100 : Nat) : Int) 100 = ((v / 100 % 100 : Nat) : Int) := by rw [tmod_pos (by omega)]; omega
          have m4 : Int.tmod (v : Int) 100 = ((v % 100 : Nat) : Int) := by rw [tmod_pos (by omega)]; omega
          have k1 : v / 10000 < 100000000 := by omega
          have k2 : v / 100 < 100000000 := by omega
          have k3 : v / 100 % 100 < 100000000 := by omega
          have k4 : v % 100 < 100000000 := by omega
          have kc : clkV (v / 10000 : Nat) (v / 100 % 100 : Nat) (v % 100 : Nat) < 86400 := by unfold clkV; split <;> omega
          by_cases hc : clkV (v / 10000 : Nat) (v / 100 % 100 : Nat) (v % 100 : Nat) < 0
          · have E : Hid (rdStamp s.data.toList = (0, 10)) := Lib.hid (rdStamp_clk (by omega) hn hc)
            generalize clkV (v / 10000 : Nat) (v / 100 % 100 : Nat) (v % 100 : Nat) = c at *
            clear hn hsz hd hr e8
            generalize v / 10000 = x1 at *
            generalize v / 100 % 100 = x3 at *
            generalize v / 100 = x2 at *
            generalize v % 100 = x4 at *
            go_enter Tryz.func97, Tryz.ntmps97
            go_wp2_with (first
              | (go_at_call 96; ((with_reducible refine (cd _).mono ?_); rintro e w' ⟨rfl, hw⟩; subst w'))
              | (go_at_call 95; ((with_reducible refine (cn _).mono ?_); rintro e w' ⟨rfl, hw⟩; subst w'))
              | (go_at_call 123; ((with_reducible refine (cc _).mono ?_); rintro e w' ⟨rfl, hw⟩; subst w')))
            go_ret2
            exact ⟨by rw [E.out]; rfl, rfl⟩
          · have E := Lib.hid (rdStamp_all (by omega) e8 hd hn hc)
            generalize clkV (v / 10000 : Nat) (v / 100 % 100 : Nat) (v % 100 : Nat) = c at *
            clear hn hsz hd hr e8
            generalize v / 10000 = x1 at *
            generalize v / 100 % 100 = x3 at *
            generalize v / 100 = x2 at *
            generalize v % 100 = x4 at *
            go_enter Tryz.func97, Tryz.ntmps97
            go_wp2_with (first
              | (go_at_call 96; ((with_reducible refine (cd _).mono ?_); rintro e w' ⟨rfl, hw⟩; subst w'))
              | (go_at_call 95; ((with_reducible refine (cn _).mono ?_); rintro e w' ⟨rfl, hw⟩; subst w'))
              | (go_at_call 123; ((with_reducible refine (cc _).mono ?_); rintro e w' ⟨rfl, hw⟩; subst w')))
            go_ret2
            exact ⟨by rw [E.out]; rfl, rfl⟩
      · rw [hr] at cd
        have E : Hid (rdStamp s.data.toList = (0, 10)) := Lib.hid (rdStamp_day hd)
        have cn2 : ∃ q : Int × Bool, (0 ≤ q.1 ∧ q.1 ≤ 999999) ∧ ∀ W, Calls Tryz.prog 95 #[.string (s.extract 9 15), .int .i64 999999] W fun e w' => e = .returned (.tuple #[.int .i64 q.1, .bool q.2]) ∧ w' = W := by
          refine ⟨_, ?_, cn⟩
          unfold numV
          split
          · exact ⟨by decide, by decide⟩
          · split
            · rename_i n _
              split
              · exact ⟨by decide, by decide⟩
              · exact ⟨by simp, by simp; omega⟩
            · exact ⟨by decide, by decide⟩
        clear cn
        obtain ⟨⟨q, qb⟩, hq, cn⟩ := cn2
        dsimp only at hq cn
        obtain ⟨v, rfl⟩ : ∃ v : Nat, q = v := ⟨q.toNat, by omega⟩
        have cc := fun W => refClock_any (v / 10000 : Nat) (v / 100 % 100 : Nat) (v % 100 : Nat) (by omega) W
        have m1 : Int.tdiv (v : Int) 10000 = ((v / 10000 : Nat) : Int) := by rw [tdiv_pos (by omega)]; omega
        have m2 : Int.tdiv (v : Int) 100 = ((v / 100 : Nat) : Int) := by rw [tdiv_pos (by omega)]; omega
        have m3 : Int.tmod ((v / 100 : Nat) : Int) 100 = ((v / 100 % 100 : Nat) : Int) := by rw [tmod_pos (by omega)]; omega
        have m4 : Int.tmod (v : Int) 100 = ((v % 100 : Nat) : Int) := by rw [tmod_pos (by omega)]; omega
        have k1 : v / 10000 < 100000000 := by omega
        have k2 : v / 100 < 100000000 := by omega
        have k3 : v / 100 % 100 < 100000000 := by omega
        have k4 : v % 100 < 100000000 := by omega
        generalize clkV (v / 10000 : Nat) (v / 100 % 100 : Nat) (v % 100 : Nat) = c at *
        clear hsz hd hr e8
        generalize v / 10000 = x1 at *
        generalize v / 100 % 100 = x3 at *
        generalize v / 100 = x2 at *
        generalize v % 100 = x4 at *
        go_enter Tryz.func97, Tryz.ntmps97
        go_wp2_with (first
          | (go_at_call 96; ((with_reducible refine (cd _).mono ?_); rintro e w' ⟨rfl, hw⟩; subst w'))
          | (go_at_call 95; ((with_reducible refine (cn _).mono ?_); rintro e w' ⟨rfl, hw⟩; subst w'))
          | (go_at_call 123; ((with_reducible refine (cc _).mono ?_); rintro e w' ⟨rfl, hw⟩; subst w')))
        go_ret2
        exact ⟨by rw [E.out]; rfl, rfl⟩
    · have E : Hid (rdStamp s.data.toList = (0, 10)) := Lib.hid (rdStamp_t (fun h => ht (el.1 h)))
      have hti : ¬ (s[8].toNat : Int) = 84 := by omega
      clear hsz el
      go_enter Tryz.func97, Tryz.ntmps97
      go_wp2
      go_ret2
      exact ⟨by rw [E.out]; rfl, rfl⟩
  · have E : Hid (rdStamp s.data.toList = (0, 10)) := Lib.hid (rdStamp_len (by omega))
    have hne : ¬ (s.size : Int) = 15 := by omega
    clear hsz
    go_enter Tryz.func97, Tryz.ntmps97
    go_wp2
    go_ret2
    exact ⟨by rw [E.out]; rfl, rfl⟩

end Go.Proofs.YtnidkcedomhofaaGreatDoor

/-
  Rows of bytes of the call's own, made from a text or by append, as texts again; what lies below stays.
-/
namespace Go.Proofs.YtnidkcedomhofaaGreatDoor
open Go.RowKit

theorem infoB : (Tryz.prog.info? 5).map (fun i => (i.zero, i.size, i.bytes)) = some (some (.int .u8 0), 1, 1) := by kernel_rfl
theorem bstep {w w1 w2 : World} (h : Below w.heap.size w w1) (h2 : Below w1.heap.size w1 w2) : Below w.heap.size w w2 := h.trans (h2.mono h.size)
theorem bstepB {B : Nat} {w w1 w2 : World} (h : Below B w w1) (hB : B ≤ w1.heap.size) (h2 : Below w1.heap.size w1 w2) : Below B w w2 := h.trans (h2.mono hB)
def u8s (l : List UInt8) : List Value := l.map fun c => .int .u8 (c.toNat : Int)
theorem u8s_app (a b : List UInt8) : u8s (a ++ b) = u8s a ++ u8s b := by simp [u8s]
theorem u8s_length (a : List UInt8) : (u8s a).length = a.length := by simp [u8s]

/-- A row that the call owns, as a string. -/
theorem own_string {P : Program} {w : World} {base st et dt n : Nat} {v : Value} {l : List UInt8} (hs : P.underlying st = some (.slice et)) (he : P.underlying et = some (.int .u8)) (hd : P.underlying dt = some .string)
    (hown : w.ownsRow base et 1 v n (u8s l)) : (convert st dt v).run P w = .ok (.string ⟨l.toArray⟩) w := by
  have hlen : l.length = n := by have := hown.1; simpa [u8s] using this
  subst hlen
  rcases hown.2 with ⟨rfl, h0⟩ | ⟨g, cap, cur, rfl, hb, hg, _⟩
  · obtain rfl : l = [] := List.eq_nil_of_length_eq_zero h0
    exact run_convert_bytes_nil w st et hs he 0 0 dt hd
  · refine run_convert_bytes_back w st dt et ⟨g, 0, none⟩ cap l hs he hd fun j hj => ?_
    exact hown.cells (g := g) rfl j _ (by simp [u8s, hj])

/-- A row that the call owns, behind what leaves all older blocks. -/
theorem own_below {w w' : World} {base size n : Nat} {e : TypeId} {v : Value} {xs : List Value} (h : w.ownsRow base e size v n xs) (hb : Below w.heap.size w w') : w'.ownsRow base e size v n xs := by
  refine ⟨h.1, ?_⟩
  rcases h.2 with h' | ⟨g, cap, cur, hv, hg, hh, r⟩
  · exact .inl h'
  · exact .inr ⟨g, cap, cur, hv, hg, (hb.block g (Array.getElem?_eq_some_iff.1 hh).1).trans hh, r⟩
/-- What an append to a row of the call's own leaves below the call's own blocks. -/
theorem below_append {w wr w1 : World} {n0 e size k : Nat} {v : Value} {xs : List Value} {tmp : Obj} (hb : Below n0 w wr) (hn : n0 ≤ wr.heap.size) (hrow : wr.ownsRow n0 e size v k xs) (hgrow : (wr.alloc tmp).grownBy w1 v.ownBlock) : Below n0 w w1 := by
  refine hb.trans (((Below.refl n0 wr).alloc hn tmp).grown hgrow (by simp; omega) fun j ej => ?_)
  rcases hrow.2 with ⟨rfl, _⟩ | ⟨g, cap, cur, rfl, hb, _, _⟩
  · simp [Value.ownBlock] at ej
  · obtain rfl : g = j := by simpa [Value.ownBlock] using ej
    exact hb

theorem below_appendD {w wr w1 : World} {n0 e size k : Nat} {v : Value} {xs : List Value} {tmp : Obj} (hb : Below n0 w wr) (hn : n0 ≤ wr.heap.size) (hrow : wr.ownsRow n0 e size v k xs) (hgrow : (wr.alloc tmp).drew.grownBy w1 v.ownBlock) : Below n0 w w1 := by
  refine hb.trans ((((Below.refl n0 wr).alloc hn tmp).drew).grown hgrow (by simp; omega) fun j ej => ?_)
  rcases hrow.2 with ⟨rfl, _⟩ | ⟨g, cap, cur, rfl, hb, _, _⟩
  · simp [Value.ownBlock] at ej
  · obtain rfl : g = j := by simpa [Value.ownBlock] using ej
    exact hb
/-- append onto a row of bytes of the call's own, at the operation: what is laid at block g goes behind it. -/
theorem oper_append {P : Program} {o : Oper} {a : Act} {w : World} {K : Act → World → Prop} {Q : Exit → Act → World → Prop} (s x : Operand) (t : TypeId)
    (ho : o.op = .call { callee := .builtin .append, args := #[s, x], argTypes := #[t, t] })
    {base : Nat} {e : TypeId} {i : TypeInfo} (ht : P.underlying t = some (.slice e)) (hi : P.info? e = some i) (hz : i.zero = some (.int .u8 0)) (hsize : i.size = 1) (hby : i.bytes = 1)
    {v : Value} {l : List UInt8} (hs : a.eval s = v) (hown : w.ownsRow base e 1 v l.length (u8s l)) {g c : Nat} (m : List UInt8) (hx : a.eval x = .slice (some ⟨g, 0, none⟩) m.length c)
    (hnews : ∀ j u, (u8s m)[j]? = some u → w.cell? ((⟨g, 0, none⟩ : Addr).add j) = some u) (hroom : l.length + m.length ≤ 1099511627776) (hbase : base ≤ w.heap.size)
    (h : ∀ v' w', w'.ownsRow base e 1 v' (l ++ m).length (u8s (l ++ m)) → w.grownBy w' v.ownBlock → K (a.put o.dst v') w') : Oper.wp P o a w K Q := by
  obtain ⟨v', w', hr, h2, h3, h4⟩ := run_append_own (P := P) w base t o.type e i (.int .u8 0) 1 1 ht hi hz hsize hby rfl (by decide) v l.length (u8s l) hown ⟨g, 0, none⟩ m.length c (u8s m) (by rw [u8s_length]; omega) hnews
    (fun u hu => by
      unfold u8s at hu
      obtain ⟨c, _, rfl⟩ := List.mem_map.1 hu
      rfl) (by unfold maxLen; omega) (by omega) hbase
  unfold Oper.wp execOp
  simp only [ho, resolve, invoke, builtin, Sem.run_bind, Sem.run_pure, Result.andThen_ok, List.map_toArray, List.map_cons, List.map_nil, hs, hx, hr]
  exact h v' w' (by rw [u8s_app, List.length_append]; exact h2) h3
/-- What was just laid in a block of its own reads there. -/
theorem cells_new (w : World) (m : List UInt8) (t : TypeId) (vs : Array Value) (h : vs = (u8s m).toArray) : ∀ j u, (u8s m)[j]? = some u → (w.alloc (.cells vs t)).cell? ((⟨w.heap.size, 0, none⟩ : Addr).add j) = some u := by
  intro j u hu
  subst h
  have hh := heap_alloc_new w (.cells (u8s m).toArray t)
  have e : ((⟨w.heap.size, 0, none⟩ : Addr).add j) = ⟨w.heap.size, j, none⟩ := by
    unfold Addr.add
    by_cases hj : j = 0
    · subst hj; rfl
    · simp [hj]
  rw [e]
  simp only [World.cell?, hh]
  simpa using hu

/-- The block g begins with these bytes, none of them frozen. -/
structure Byt (w : World) (g : Nat) (l : List UInt8) : Prop where
  blk : ∃ cur e lo hi, w.heap[g]? = some (.cells cur e (lo, hi)) ∧ (l.length ≤ lo ∨ hi = 0) ∧ l.length ≤ cur.size ∧ ∀ j, j < l.length → cur[j]? = some (.int .u8 ((l.getD j 0).toNat : Int))
section
variable {w w' : World} {g : Nat} {l : List UInt8}
theorem Byt.lt (h : Byt w g l) : g < w.heap.size := by
  obtain ⟨_, _, _, _, h, _⟩ := h.blk
  exact (Array.getElem?_eq_some_iff.1 h).1
theorem Byt.cell (h : Byt w g l) (j : Nat) (hj : j < l.length) : w.cell? ⟨g, j, none⟩ = some (.int .u8 ((l.getD j 0).toNat : Int)) := by
  obtain ⟨cur, e, lo, hi, h, _, _, hc⟩ := h.blk
  simp [World.cell?, h, hc j hj]
theorem Byt.free (h : Byt w g l) (j : Nat) (hj : j < l.length) : w.frozen? ⟨g, j, none⟩ = false := by
  obtain ⟨cur, e, lo, hi, h, hz, _, _⟩ := h.blk
  simp [World.frozen?, h]
  omega
theorem Byt.of_text (w : World) (e : TypeId) (m : ByteArray) (c : Nat) : Byt (w.drew.alloc (.cells (bytesRow m c) e ((bytesRow m c).size, (bytesRow m c).size + 1))) w.heap.size m.data.toList := by
  have hs : m.data.toList.length ≤ (bytesRow m c).size := by simp [bytesRow]
  refine ⟨bytesRow m c, e, _, _, heap_alloc_new w.drew _, .inl hs, hs, fun j hj => ?_⟩
  have hj' : j < m.data.size := by simpa using hj
  unfold bytesRow
  rw [Array.getElem?_append_left (by simpa using hj')]
  simp [Array.getElem?_eq_getElem hj', List.getD_eq_getElem?_getD]
theorem Byt.of_text_below (w : World) (e : TypeId) (m : ByteArray) (c : Nat) : Below w.heap.size w (w.drew.alloc (.cells (bytesRow m c) e ((bytesRow m c).size, (bytesRow m c).size + 1))) := ((Below.refl _ w).drew).alloc (Nat.le_refl _) _
theorem Byt.set (h : Byt w g l) (k : Nat) (x : UInt8) : Byt (w.setCell ⟨g, k, none⟩ (.int .u8 (x.toNat : Int))) g (l.set k x) := by
  obtain ⟨cur, e, lo, hi, h, hz, hs, hc⟩ := h.blk
  refine ⟨cur.setIfInBounds k (.int .u8 (x.toNat : Int)), e, lo, hi, ?_, by simpa using hz, by simpa using hs, fun j hj => ?_⟩
  · simp [World.setCell, Array.getElem?_modify, h]
  · have hj : j < l.length := by simpa using hj
    rw [Array.getElem?_setIfInBounds, List.getD_eq_getElem?_getD, List.getElem?_set]
    by_cases hk : k = j
    · subst hk
      rw [if_pos rfl, if_pos (by omega), if_pos rfl, if_pos hj]; rfl
    · rw [if_neg hk, if_neg hk, hc j hj, List.getD_eq_getElem?_getD]
theorem toNums (l : List UInt8) : strOfNums (l.map fun x => (x.toNat : Int)) = ⟨l.toArray⟩ := by
  unfold strOfNums
  rw [List.map_map]
  congr 2
  conv => rhs; rw [← List.map_id l]
  refine List.map_congr_left fun x _ => ?_
  simp
theorem Byt.conv {P : Program} {src e dst : TypeId} (hs : P.underlying src = some (.slice e)) (he : P.underlying e = some (.int .u8)) (hd : P.underlying dst = some .string) (h : Byt w g l) (c n : Nat) (hn : l.length = n) :
    (convert src dst (.slice (some ⟨g, 0, none⟩) n c)).run P w = .ok (.string ⟨l.toArray⟩) w := by
  have := run_convert_bytes_arg (P := P) w src e hs he g 0 n c (l.map fun x => (x.toNat : Int)) (by simpa using hn) (fun i hi => by
    rw [Nat.zero_add, h.cell i (by omega)]
    simp [show i < l.length by omega]) dst hd
  rw [toNums] at this
  exact this
end

end Go.Proofs.YtnidkcedomhofaaGreatDoor

/-
  The document's own answers of layer 10: numbers with noughts ahead, days and times as texts.
-/
namespace Go.Proofs.YtnidkcedomhofaaGreatDoor
open Go.RowKit

theorem Byt.of_litD {w : World} {e : TypeId} (l : List UInt8) (C : Array Value) (h : C.toList = l.map fun x => Value.int .u8 (x.toNat : Int)) : Byt (w.alloc (.cells C e)) w.heap.size l := by
  have hs : C.size = l.length := by rw [← Array.length_toList, h, List.length_map]
  refine ⟨C, e, 0, 0, heap_alloc_new w _, .inr rfl, by omega, fun j hj => ?_⟩
  rw [← Array.getElem?_toList, h]
  simp [hj]
theorem mk_app (a b : List UInt8) : (⟨a.toArray⟩ : ByteArray) ++ ⟨b.toArray⟩ = ⟨(a ++ b).toArray⟩ := by
  apply ByteArray.ext
  rw [ByteArray.data_append]
  simp
theorem mk_size (a : List UInt8) : (⟨a.toArray⟩ : ByteArray).size = a.length := by simp [ByteArray.size]

set_option maxRecDepth 100000 in
set_option maxHeartbeats 2000000 in
theorem refPad_any (n k : Nat) (hn : n < 1000000000000) (hk : k ≤ 16) (w : World) :
    Calls Tryz.prog 104 #[.int .i64 n, .int .i64 k] w fun e w' => e = .returned (.string ⟨(padT k n).toArray⟩) ∧ Below w.heap.size w w' := by
  go_enter Tryz.func104, Tryz.ntmps104
  go_wp2
  go_loopw [0, 5, 6] (fun s0 s5 s6 wr => ∃ i : Nat, i ≤ k ∧ s6 = .int .i64 i ∧ s0 = .int .i64 (n / 10 ^ i : Nat) ∧ s5 = .string ⟨(padT i n).toArray⟩ ∧ Hid (Below w.heap.size w wr)) (fun _ _ s6 _ => k - (intOf s6).toNat)
  case atStart => exact ⟨0, Nat.zero_le _, rfl, by simp, rfl, Lib.hid (Below.refl _ _)⟩
  case round =>
    obtain ⟨i, hi, rfl, rfl, rfl, HB⟩ := hrel
    by_cases hlt : i < k
    · have hq : n / 10 ^ i ≤ n := Nat.div_le_self _ _
      have HQ := Lib.hid (show n / 10 ^ (i + 1) = n / 10 ^ i / 10 by rw [Nat.pow_succ, Nat.div_div_eq_div_mul])
      have HC := Lib.hid (padT_cons i n)
      generalize n / 10 ^ i = q at hq HQ HC
      have m1 : Int.tmod (q : Int) 10 = (q : Int) % 10 := tmod_pos (by omega)
      have m2 : Int.tdiv (q : Int) 10 = (q : Int) / 10 := tdiv_pos (by omega)
      have hsz : (⟨(padT i n).toArray⟩ : ByteArray).size = i := by rw [mk_size, padT_length]
      have hcv := (Byt.of_litD (w := wr) (e := 5) [digC q] #[.int .u8 (48 + (q : Int) % 10)] (by simp [digC_nat])).conv (P := Tryz.prog) Tryz.underlying72 Tryz.underlying5 Tryz.underlying9 1 1 rfl
      have hno : ¬ 9223372036854775807 < (⟨[digC q].toArray⟩ : ByteArray).size + (⟨(padT i n).toArray⟩ : ByteArray).size := by rw [hsz, mk_size]; simp; omega
      have HA := Lib.hid (mk_app [digC q] (padT i n))
      generalize hs : (⟨(padT i n).toArray⟩ : ByteArray) = s at *
      generalize hc1 : (⟨[digC q].toArray⟩ : ByteArray) = c at *
      clear hs hc1
      go_wp2
      go_round
      case rel => exact ⟨i + 1, by omega, by go_num, by rw [HQ.out]; first | rfl | go_num, by rw [HA.out, ← List.singleton_append.symm, ← HC.out], Lib.hid (HB.out.alloc HB.out.size _)⟩
      case measure => simp [intOf]; omega
    · obtain rfl : i = k := by omega
      go_wp2
      go_ret
      exact ⟨rfl, HB.out⟩

end Go.Proofs.YtnidkcedomhofaaGreatDoor

/-
  The document's own answers of layer 10: a day, and a time, as a text.
-/
namespace Go.Proofs.YtnidkcedomhofaaGreatDoor
open Go.RowKit

theorem pad2_any (n : Nat) (hn : n < 100) (w : World) : Calls Tryz.prog 104 #[.int .i64 n, .int .i64 2] w fun e w' => e = .returned (.string ⟨(padT 2 n).toArray⟩) ∧ Below w.heap.size w w' :=
  refPad_any n 2 (by omega) (by omega) w
theorem pad4_any (n : Nat) (hn : n < 10000) (w : World) : Calls Tryz.prog 104 #[.int .i64 n, .int .i64 4] w fun e w' => e = .returned (.string ⟨(padT 4 n).toArray⟩) ∧ Below w.heap.size w w' :=
  refPad_any n 4 (by omega) (by omega) w
theorem mk_nil : (⟨[].toArray⟩ : ByteArray) = ⟨#[]⟩ := rfl

set_option maxRecDepth 100000 in
set_option maxHeartbeats 2000000 in
theorem refDay_any (n : Int) (hn : -9223372036854775808 ≤ n ∧ n < 9223372036854775808) (w : World) :
    Calls Tryz.prog 69 #[.int .i64 n] w fun e w' => e = .returned (.string ⟨(dayT n).toArray⟩) ∧ Below w.heap.size w w' := by
  have hc := fun W => refCivil_any n hn W
  by_cases h : n < -719162 ∨ 2932896 < n
  · have e : Hid (dayT n = []) := Lib.hid (dayT_bad h)
    rw [civ_bad h] at hc
    clear hn h
    go_enter Tryz.func69, Tryz.ntmps69
    go_wp2_with (go_at_call 103; ((with_reducible refine (hc _).mono ?_); rintro e w' ⟨rfl, hw⟩; subst w'))
    go_ret
    exact ⟨by rw [e.out]; rfl, Below.refl _ _⟩
  · obtain ⟨y, m, d, hd, rfl⟩ := num_of (n := n) (by omega)
    obtain ⟨hy, hm⟩ := lenD_range hd
    have hp := lenD_pos hy hm
    have e : Hid (dayT (numD y m d) = padT 4 y.toNat ++ padT 2 m.toNat ++ padT 2 d.toNat) := Lib.hid (by unfold dayT; rw [civ_num hd]; rfl)
    rw [civ_num hd] at hc
    generalize numD y m d = n at *
    unfold dateD at hd
    obtain ⟨Y, rfl⟩ : ∃ k : Nat, y = k := ⟨y.toNat, by omega⟩
    obtain ⟨M, rfl⟩ : ∃ k : Nat, m = k := ⟨m.toNat, by omega⟩
    obtain ⟨D, rfl⟩ : ∃ k : Nat, d = k := ⟨d.toNat, by omega⟩
    have c1 := pad4_any Y (by omega)
    have c2 := pad2_any M (by omega)
    have c3 := pad2_any D (by omega)
    have HE := Lib.hid (show (⟨(padT 4 Y).toArray⟩ : ByteArray) ++ ⟨(padT 2 M).toArray⟩ ++ ⟨(padT 2 D).toArray⟩ = ⟨(dayT n).toArray⟩ by rw [mk_app, mk_app, e.out]; rfl)
    have s1 : (⟨(padT 4 Y).toArray⟩ : ByteArray).size = 4 := by rw [mk_size, padT_length]
    have s2 : (⟨(padT 2 M).toArray⟩ : ByteArray).size = 2 := by rw [mk_size, padT_length]
    have s3 : (⟨(padT 2 D).toArray⟩ : ByteArray).size = 2 := by rw [mk_size, padT_length]
    generalize (⟨(padT 4 Y).toArray⟩ : ByteArray) = a at *
    generalize (⟨(padT 2 M).toArray⟩ : ByteArray) = b at *
    generalize (⟨(padT 2 D).toArray⟩ : ByteArray) = c at *
    have no1 : ¬ 9223372036854775807 < a.size + b.size := by omega
    have no2 : ¬ 9223372036854775807 < (a ++ b).size + c.size := by rw [ByteArray.size_append]; omega
    go_enter Tryz.func69, Tryz.ntmps69
    go_wp2_with (first
      | (go_at_call 103; ((with_reducible refine (hc _).mono ?_); rintro e w' ⟨rfl, hw⟩; subst w'))
      | (go_at_call 104; ((with_reducible refine (c1 _).mono ?_); rintro e w1 ⟨rfl, hb1⟩))
      | (go_at_call 104; ((with_reducible refine (c2 _).mono ?_); rintro e w2 ⟨rfl, hb2⟩))
      | (go_at_call 104; ((with_reducible refine (c3 _).mono ?_); rintro e w3 ⟨rfl, hb3⟩)))
    go_ret
    exact ⟨by rw [← HE.out]; rfl, bstep (bstep hb1 hb2) hb3⟩

end Go.Proofs.YtnidkcedomhofaaGreatDoor
