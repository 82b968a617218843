/-
  Contracts of Go's own library at this program, out of the library's shelf (laid, no walk).
-/
import Derived.Shelf.Strings.Builder1
import Derived.Shelf.Strings.Builder2
import Derived.Shelf.Strings.OnBuilder
import Derived.Shelf.Strings.BuilderF
import Derived.Shelf.Strings.BuilderK
import Derived.Shelf.LaysM
import Derived.Shelf.Strconv.Clone
import Derived.Shelf.Strings.Search1
import Derived.Shelf.Strings.Search2
import Derived.Shelf.Strings.Cut
import Derived.Shelf.Strings.Prefix
import Derived.Shelf.Strings.Runes
import Derived.Shelf.Strings.IndexAny
import Derived.Shelf.Strings.AsciiSet
import Derived.Shelf.Strings.IndexAnyAll
import Derived.Shelf.SlicesQ.IndexFunc
import Derived.Shelf.SlicesE.Equal
import Derived.Test.YtlfhhnjdfpgadaaDoorProg
import Derived.Test.YtlfhhnjdfpgadaaDoorG03
import Derived.Test.YtlfhhnjdfpgadaaDoorG09
import Derived.Lib.DecodeN
import Derived.Lib.OthersKept
namespace Go.Proofs
open Go.Shelf
def Tryd.lays169_ren : Go.Shelf.Ren := ⟨fun | 169 => 29 | n => n, fun | 70 => 65 | 9 => 9 | 0 => 0 | 72 => 67 | 37 => 36 | 127 => 86 | 3 => 3 | 5 => 5 | n => n, fun | n => n⟩
theorem Tryd.lays169 : Go.Proofs.Lays.n169 Tryd.prog Tryd.lays169_ren := {
  mixed := by kernel_rfl
  f169 := Tryd.func29.trans (congrArg some (by kernel_rfl))
  t0 := Tryd.underlying0
  a0 := Tryd.isAgg0
  z0 := Tryd.sizeOf0
  v0 := Tryd.zeroValue0
  t3 := Tryd.underlying3
  a3 := Tryd.isAgg3
  z3 := Tryd.sizeOf3
  v3 := Tryd.zeroValue3
  t9 := Tryd.underlying9
  a9 := Tryd.isAgg9
  z9 := Tryd.sizeOf9
  v9 := Tryd.zeroValue9
  t37 := Tryd.underlying36
  a37 := Tryd.isAgg36
  z37 := Tryd.sizeOf36
  v37 := Tryd.zeroValue36
  t70 := Tryd.underlying65
  a70 := Tryd.isAgg65
  z70 := Tryd.sizeOf65
  v70 := Tryd.zeroValue65
  t72 := Tryd.underlying67
  a72 := Tryd.isAgg67
  z72 := Tryd.sizeOf67
  v72 := Tryd.zeroValue67
  t127 := Tryd.underlying86
  a127 := Tryd.isAgg86
  z127 := Tryd.sizeOf86
  v127 := Tryd.zeroValue86 }
theorem Tryd.Builder_Extra_169 : Builder.Extra Tryd.prog Tryd.lays169_ren := {
  sizeBuilder := by kernel_rfl
  liesBuilder := by kernel_rfl
  t5 := Tryd.underlying5
  a5 := Tryd.isAgg5
  z5 := Tryd.sizeOf5
  v5 := Tryd.zeroValue5
  infoByte := by kernel_rfl
  cellsByte := by kernel_rfl
  sizeByte := by kernel_rfl
  neB5 := by decide }
def Tryd.lays158_ren : Go.Shelf.Ren := ⟨fun | 158 => 58 | 165 => 69 | 166 => 28 | 167 => 70 | 169 => 29 | 230 => 71 | 203 => 72 | 240 => 47 | 241 => 76 | 197 => 77 | 118 => 78 | 168 => 79 | 270 => 80 | 262 => 81 | 276 => 63 | 277 => 86 | 260 => 87 | 242 => 88 | 313 => 89 | 278 => 92 | 274 => 93 | 275 => 94 | n => n, fun | 9 => 9 | 4 => 4 | 3 => 3 | 5 => 5 | 72 => 67 | 0 => 0 | 76 => 71 | 75 => 70 | 107 => 103 | 70 => 65 | 20 => 20 | 37 => 36 | 127 => 86 | 21 => 21 | 105 => 106 | 164 => 97 | 162 => 117 | 203 => 115 | 119 => 121 | 46 => 99 | 139 => 124 | 138 => 123 | 51 => 118 | 160 => 125 | 208 => 137 | 206 => 135 | 80 => 73 | n => n, fun | 13 => 2 | 3 => 3 | 4 => 4 | n => n⟩
theorem Tryd.lays158 : Go.Proofs.Lays.n158 Tryd.prog Tryd.lays158_ren := {
  mixed := by kernel_rfl
  f118 := Tryd.func78.trans (congrArg some (by kernel_rfl))
  f158 := Tryd.func58.trans (congrArg some (by kernel_rfl))
  f165 := Tryd.func69.trans (congrArg some (by kernel_rfl))
  f166 := Tryd.func28.trans (congrArg some (by kernel_rfl))
  f167 := Tryd.func70.trans (congrArg some (by kernel_rfl))
  f168 := Tryd.func79.trans (congrArg some (by kernel_rfl))
  f169 := Tryd.func29.trans (congrArg some (by kernel_rfl))
  f197 := Tryd.func77.trans (congrArg some (by kernel_rfl))
  f203 := Tryd.func72.trans (congrArg some (by kernel_rfl))
  f230 := Tryd.func71.trans (congrArg some (by kernel_rfl))
  f240 := Tryd.func47.trans (congrArg some (by kernel_rfl))
  f241 := Tryd.func76.trans (congrArg some (by kernel_rfl))
  f242 := Tryd.func88.trans (congrArg some (by kernel_rfl))
  f260 := Tryd.func87.trans (congrArg some (by kernel_rfl))
  f262 := Tryd.func81.trans (congrArg some (by kernel_rfl))
  f270 := Tryd.func80.trans (congrArg some (by kernel_rfl))
  f274 := Tryd.func93.trans (congrArg some (by kernel_rfl))
  f275 := Tryd.func94.trans (congrArg some (by kernel_rfl))
  f276 := Tryd.func63.trans (congrArg some (by kernel_rfl))
  f277 := Tryd.func86.trans (congrArg some (by kernel_rfl))
  f278 := Tryd.func92.trans (congrArg some (by kernel_rfl))
  f313 := Tryd.func89.trans (congrArg some (by kernel_rfl))
  t0 := Tryd.underlying0
  a0 := Tryd.isAgg0
  z0 := Tryd.sizeOf0
  v0 := Tryd.zeroValue0
  t3 := Tryd.underlying3
  a3 := Tryd.isAgg3
  z3 := Tryd.sizeOf3
  v3 := Tryd.zeroValue3
  t4 := Tryd.underlying4
  a4 := Tryd.isAgg4
  z4 := Tryd.sizeOf4
  v4 := Tryd.zeroValue4
  t5 := Tryd.underlying5
  a5 := Tryd.isAgg5
  z5 := Tryd.sizeOf5
  v5 := Tryd.zeroValue5
  t9 := Tryd.underlying9
  a9 := Tryd.isAgg9
  z9 := Tryd.sizeOf9
  v9 := Tryd.zeroValue9
  t20 := Tryd.underlying20
  a20 := Tryd.isAgg20
  z20 := Tryd.sizeOf20
  v20 := Tryd.zeroValue20
  t21 := Tryd.underlying21
  a21 := Tryd.isAgg21
  z21 := Tryd.sizeOf21
  v21 := Tryd.zeroValue21
  t37 := Tryd.underlying36
  a37 := Tryd.isAgg36
  z37 := Tryd.sizeOf36
  v37 := Tryd.zeroValue36
  t46 := Tryd.underlying99
  a46 := Tryd.isAgg99
  z46 := Tryd.sizeOf99
  v46 := Tryd.zeroValue99
  t51 := Tryd.underlying118
  a51 := Tryd.isAgg118
  z51 := Tryd.sizeOf118
  v51 := Tryd.zeroValue118
  t70 := Tryd.underlying65
  a70 := Tryd.isAgg65
  z70 := Tryd.sizeOf65
  v70 := Tryd.zeroValue65
  t72 := Tryd.underlying67
  a72 := Tryd.isAgg67
  z72 := Tryd.sizeOf67
  v72 := Tryd.zeroValue67
  t75 := Tryd.underlying70
  a75 := Tryd.isAgg70
  z75 := Tryd.sizeOf70
  v75 := Tryd.zeroValue70
  t76 := Tryd.underlying71
  a76 := Tryd.isAgg71
  z76 := Tryd.sizeOf71
  v76 := Tryd.zeroValue71
  t105 := Tryd.underlying106
  a105 := Tryd.isAgg106
  z105 := Tryd.sizeOf106
  v105 := Tryd.zeroValue106
  t107 := Tryd.underlying103
  a107 := Tryd.isAgg103
  z107 := Tryd.sizeOf103
  v107 := Tryd.zeroValue103
  t119 := Tryd.underlying121
  a119 := Tryd.isAgg121
  z119 := Tryd.sizeOf121
  t127 := Tryd.underlying86
  a127 := Tryd.isAgg86
  z127 := Tryd.sizeOf86
  v127 := Tryd.zeroValue86
  t138 := Tryd.underlying123
  a138 := Tryd.isAgg123
  z138 := Tryd.sizeOf123
  v138 := Tryd.zeroValue123
  t139 := Tryd.underlying124
  a139 := Tryd.isAgg124
  z139 := Tryd.sizeOf124
  v139 := Tryd.zeroValue124
  t160 := Tryd.underlying125
  a160 := Tryd.isAgg125
  z160 := Tryd.sizeOf125
  v160 := Tryd.zeroValue125
  t162 := Tryd.underlying117
  a162 := Tryd.isAgg117
  z162 := Tryd.sizeOf117
  v162 := Tryd.zeroValue117
  t164 := Tryd.underlying97
  a164 := Tryd.isAgg97
  z164 := Tryd.sizeOf97
  v164 := Tryd.zeroValue97
  t203 := Tryd.underlying115
  a203 := Tryd.isAgg115
  z203 := Tryd.sizeOf115
  v203 := Tryd.zeroValue115
  t206 := Tryd.underlying135
  a206 := Tryd.isAgg135
  z206 := Tryd.sizeOf135
  v206 := Tryd.zeroValue135
  t208 := Tryd.underlying137
  a208 := Tryd.isAgg137
  z208 := Tryd.sizeOf137
  v208 := Tryd.zeroValue137
  g3 := by kernel_rfl
  g4 := by kernel_rfl
  g13 := by kernel_rfl }
theorem Tryd.Builder_Extra_158 : Builder.Extra Tryd.prog Tryd.lays158_ren := {
  sizeBuilder := by kernel_rfl
  liesBuilder := by kernel_rfl
  t5 := Tryd.underlying5
  a5 := Tryd.isAgg5
  z5 := Tryd.sizeOf5
  v5 := Tryd.zeroValue5
  infoByte := by kernel_rfl
  cellsByte := by kernel_rfl
  sizeByte := by kernel_rfl
  neB5 := by decide }
open Go.RowKit in
/-- strings.ToUpper: "ToUpper returns s with all Unicode letters mapped to their upper case.": ON ASCII TEXT OF AT MOST 2^47 BYTES. Below the heap's end the world is as it was: where a letter turns, the call makes a builder and its buffer. (LAID: no walk: one application.) -/
theorem Tryd.strings_ToUpper_ascii (s : ByteArray) (w : World) (hs : s.size ≤ 140737488355328) (hascii : ∀ (j : Nat) (b : UInt8), s.data.toList[j]? = some b → b.toNat < 128) :
    Calls Tryd.prog 58 #[.string s] w fun e w' => e = .returned (.string ⟨(Lib.toUpperA s.data.toList).toArray⟩) ∧ Below w.heap.size w w' := Any.strings_ToUpper_ascii Tryd.lays158 Tryd.Builder_Extra_158 s w hs hascii
def Tryd.lays137_ren : Go.Shelf.Ren := ⟨fun | 137 => 31 | 217 => 52 | 266 => 67 | n => n, fun | 9 => 9 | 5 => 5 | 3 => 3 | n => n, fun | n => n⟩
theorem Tryd.lays137 : Go.Proofs.Lays.n137 Tryd.prog Tryd.lays137_ren := {
  mixed := by kernel_rfl
  f137 := Tryd.func31.trans (congrArg some (by kernel_rfl))
  f217 := Tryd.func52.trans (congrArg some (by kernel_rfl))
  f266 := Tryd.func67.trans (congrArg some (by kernel_rfl))
  t3 := Tryd.underlying3
  a3 := Tryd.isAgg3
  z3 := Tryd.sizeOf3
  v3 := Tryd.zeroValue3
  t5 := Tryd.underlying5
  a5 := Tryd.isAgg5
  z5 := Tryd.sizeOf5
  v5 := Tryd.zeroValue5
  t9 := Tryd.underlying9
  a9 := Tryd.isAgg9
  z9 := Tryd.sizeOf9
  v9 := Tryd.zeroValue9 }
open Go.RowKit in
/-- strings.IndexByte: "IndexByte returns the index of the first instance of c in s, or -1 if c is not present in s.": IT RETURNS 'Lib.indexByte s c'; the world is as it was. (LAID: no walk: one application.) -/
theorem Tryd.strings_IndexByte (s : ByteArray) (c : Int) (w : World) :
    Calls Tryd.prog 31 #[.string s, .int .u8 c] w fun e w' => e = .returned (.int .i64 (Lib.indexByte s.data.toList c.toNat.toUInt8)) ∧ w' = w := Any.strings_IndexByte Tryd.lays137 s c w
open Go.RowKit in
/-- (*strings.Builder).String: "String returns the accumulated string.": OF A BUILDER THAT HOLDS AT LEAST ONE BYTE. ✋ THE MODEL FREEZES THOSE BYTES IN THE BUFFER (unsafe.String): a later write INTO them ends the model's run without an answer; a later append BEHIND them goes on. The statement's order of evaluation is drawn: one draw. THE FORM '_k': OVER 'Lib.IsBuilderF' (a builder that 'String()' may have read), AND WITH THE FRAME THAT REACHES ABOVE THE BUILDER: 'Lib.OthersKept': every block that is not b and is no row of uint8's stands as it stood: the iterator of a range among them. (LAID: no walk: one application.) -/
theorem Tryd.Builder_String_k (B b : Nat) (l : List UInt8) (w : World) (h : Lib.IsBuilderF 67 5 B b (Lib.byteCells l) w) (h0 : l ≠ []) :
    Calls Tryd.prog 29 #[.pointer (some ⟨b, 0, none⟩)] w fun e w' => e = .returned (.string ⟨l.toArray⟩) ∧ (Lib.IsBuilderF 67 5 B b (Lib.byteCells l) w' ∧ Below B w w' ∧ Lib.OthersKept 5 (some b) w w') := Any.Builder_String_k Tryd.lays169 Tryd.Builder_Extra_169 B b l w h h0
open Go.RowKit in
/-- (*strings.Builder).String OF A BUILDER THAT HOLDS NO BYTE: the empty string; THE FORM '_k': OVER 'Lib.IsBuilderF' (a builder that 'String()' may have read), AND WITH THE FRAME THAT REACHES ABOVE THE BUILDER: 'Lib.OthersKept': every block that is not b and is no row of uint8's stands as it stood: the iterator of a range among them. (LAID: no walk: one application.) -/
theorem Tryd.Builder_String_empty_k (B b : Nat) (w : World) (h : Lib.IsBuilderF 67 5 B b [] w) (hBw : B ≤ w.heap.size) :
    Calls Tryd.prog 29 #[.pointer (some ⟨b, 0, none⟩)] w fun e w' => e = .returned (.string ⟨#[]⟩) ∧ (Lib.IsBuilderF 67 5 B b [] w' ∧ Below B w w' ∧ Lib.OthersKept 5 (some b) w w') := Any.Builder_String_empty_k Tryd.lays169 Tryd.Builder_Extra_169 B b w h hBw
open Go.RowKit in
/-- (*strings.Builder).String: "String returns the accumulated string.": WHATEVER THE BUILDER HOLDS; THE FORM '_k': OVER 'Lib.IsBuilderF' (a builder that 'String()' may have read), AND WITH THE FRAME THAT REACHES ABOVE THE BUILDER: 'Lib.OthersKept': every block that is not b and is no row of uint8's stands as it stood: the iterator of a range among them. (LAID: no walk: one application.) -/
theorem Tryd.Builder_String_any_k (B b : Nat) (l : List UInt8) (w : World) (h : Lib.IsBuilderF 67 5 B b (Lib.byteCells l) w) (hBw : B ≤ w.heap.size) :
    Calls Tryd.prog 29 #[.pointer (some ⟨b, 0, none⟩)] w fun e w' => e = .returned (.string ⟨l.toArray⟩) ∧ (Lib.IsBuilderF 67 5 B b (Lib.byteCells l) w' ∧ Below B w w' ∧ Lib.OthersKept 5 (some b) w w') := Any.Builder_String_any_k Tryd.lays169 Tryd.Builder_Extra_169 B b l w h hBw
def Tryd.laysM316_ren : Go.Shelf.Ren := ⟨fun | 316 => 66 | n => n, fun | 9 => 9 | 3 => 3 | 4 => 4 | 37 => 36 | 0 => 0 | 127 => 86 | 5 => 5 | n => n, fun | n => n⟩
theorem Tryd.laysM316 : Go.Proofs.LaysM.n316 Tryd.prog Tryd.laysM316_ren := {
  mixed := by kernel_rfl
  f316 := Tryd.func66.trans (congrArg some (by kernel_rfl))
  t0 := Tryd.underlying0
  a0 := Tryd.isAgg0
  z0 := Tryd.sizeOf0
  v0 := Tryd.zeroValue0
  t3 := Tryd.underlying3
  a3 := Tryd.isAgg3
  z3 := Tryd.sizeOf3
  v3 := Tryd.zeroValue3
  t4 := Tryd.underlying4
  a4 := Tryd.isAgg4
  z4 := Tryd.sizeOf4
  v4 := Tryd.zeroValue4
  t9 := Tryd.underlying9
  a9 := Tryd.isAgg9
  z9 := Tryd.sizeOf9
  v9 := Tryd.zeroValue9
  t37 := Tryd.underlying36
  a37 := Tryd.isAgg36
  z37 := Tryd.sizeOf36
  v37 := Tryd.zeroValue36
  t127 := Tryd.underlying86
  a127 := Tryd.isAgg86
  z127 := Tryd.sizeOf86
  v127 := Tryd.zeroValue86
  t5 := Tryd.underlying5
  a5 := Tryd.isAgg5
  z5 := Tryd.sizeOf5
  v5 := Tryd.zeroValue5
  i0 := by kernel_rfl
  i3 := by kernel_rfl
  i4 := by kernel_rfl
  i5 := by kernel_rfl
  i9 := by kernel_rfl
  i37 := by kernel_rfl
  i127 := by kernel_rfl }
open Go.RowKit in
/-- internal/stringslite.Clone (what strings.Clone calls): "Clone returns a fresh copy of s.": THE SAME BYTES. Of what was there nothing has turned (a new row is laid, and frozen, where s is not empty). (LAID: no walk: one application.) -/
theorem Tryd.stringslite_Clone (s : ByteArray) (w : World) (hlim : s.size ≤ 281474976710656) :
    Calls Tryd.prog 66 #[.string s] w fun e w' => e = .returned (.string s) ∧ Below w.heap.size w w' := Any.stringslite_Clone Tryd.laysM316 s w hlim
def Tryd.lays145_ren : Go.Shelf.Ren := ⟨fun | 145 => 49 | 220 => 64 | 219 => 74 | 217 => 52 | 225 => 83 | 224 => 84 | 267 => 85 | 266 => 67 | 314 => 91 | n => n, fun | 9 => 9 | 4 => 4 | 59 => 87 | 3 => 3 | 5 => 5 | 46 => 99 | 146 => 119 | 51 => 118 | n => n, fun | 1 => 1 | n => n⟩
theorem Tryd.lays145 : Go.Proofs.Lays.n145 Tryd.prog Tryd.lays145_ren := {
  mixed := by kernel_rfl
  f145 := Tryd.func49.trans (congrArg some (by kernel_rfl))
  f217 := Tryd.func52.trans (congrArg some (by kernel_rfl))
  f219 := Tryd.func74.trans (congrArg some (by kernel_rfl))
  f220 := Tryd.func64.trans (congrArg some (by kernel_rfl))
  f224 := Tryd.func84.trans (congrArg some (by kernel_rfl))
  f225 := Tryd.func83.trans (congrArg some (by kernel_rfl))
  f266 := Tryd.func67.trans (congrArg some (by kernel_rfl))
  f267 := Tryd.func85.trans (congrArg some (by kernel_rfl))
  f314 := Tryd.func91.trans (congrArg some (by kernel_rfl))
  t3 := Tryd.underlying3
  a3 := Tryd.isAgg3
  z3 := Tryd.sizeOf3
  v3 := Tryd.zeroValue3
  t4 := Tryd.underlying4
  a4 := Tryd.isAgg4
  z4 := Tryd.sizeOf4
  v4 := Tryd.zeroValue4
  t5 := Tryd.underlying5
  a5 := Tryd.isAgg5
  z5 := Tryd.sizeOf5
  v5 := Tryd.zeroValue5
  t9 := Tryd.underlying9
  a9 := Tryd.isAgg9
  z9 := Tryd.sizeOf9
  v9 := Tryd.zeroValue9
  t46 := Tryd.underlying99
  a46 := Tryd.isAgg99
  z46 := Tryd.sizeOf99
  v46 := Tryd.zeroValue99
  t51 := Tryd.underlying118
  a51 := Tryd.isAgg118
  z51 := Tryd.sizeOf118
  v51 := Tryd.zeroValue118
  t59 := Tryd.underlying87
  a59 := Tryd.isAgg87
  z59 := Tryd.sizeOf87
  v59 := Tryd.zeroValue87
  t146 := Tryd.underlying119
  a146 := Tryd.isAgg119
  z146 := Tryd.sizeOf119
  v146 := Tryd.zeroValue119
  g1 := by kernel_rfl }
open Go.RowKit Go.Lib in
/-- strings.Cut: "Cut slices s around the first instance of sep, returning the text before and after sep. The found result reports whether sep appears in s. If sep does not appear in s, cut returns s, "", false.": IT RETURNS 'Lib.cut s sep'; the world is as it was but for the count of draws. (LAID: no walk: one application.) -/
theorem Tryd.strings_Cut (s sep : ByteArray) (m : Int) (w : World) (hs : s.size < 4294967281) (hm : w.cell? ⟨1, 0, none⟩ = some (.int .i64 m)) :
    Calls Tryd.prog 49 #[.string s, .string sep] w fun e w' => e = .returned (.tuple #[.string ⟨(Lib.cut s.data.toList sep.data.toList).1.toArray⟩, .string ⟨(Lib.cut s.data.toList sep.data.toList).2.1.toArray⟩, .bool (Lib.cut s.data.toList sep.data.toList).2.2]) ∧ ∃ n, w' = w.drewN n := Any.strings_Cut Tryd.lays145 s sep m w hs hm
def Tryd.lays102_ren : Go.Shelf.Ren := ⟨fun | 102 => 50 | 209 => 65 | 207 => 75 | n => n, fun | 9 => 9 | 4 => 4 | 3 => 3 | n => n, fun | n => n⟩
theorem Tryd.lays102 : Go.Proofs.Lays.n102 Tryd.prog Tryd.lays102_ren := {
  mixed := by kernel_rfl
  f102 := Tryd.func50.trans (congrArg some (by kernel_rfl))
  f207 := Tryd.func75.trans (congrArg some (by kernel_rfl))
  f209 := Tryd.func65.trans (congrArg some (by kernel_rfl))
  t3 := Tryd.underlying3
  a3 := Tryd.isAgg3
  z3 := Tryd.sizeOf3
  v3 := Tryd.zeroValue3
  t4 := Tryd.underlying4
  a4 := Tryd.isAgg4
  z4 := Tryd.sizeOf4
  v4 := Tryd.zeroValue4
  t9 := Tryd.underlying9
  a9 := Tryd.isAgg9
  z9 := Tryd.sizeOf9
  v9 := Tryd.zeroValue9 }
open Go.RowKit Go.Lib in
/-- strings.TrimSuffix: "TrimSuffix returns s without the provided trailing suffix string. If s doesn't end with suffix, s is returned unchanged.": IT RETURNS 'Lib.trimSuffix s suffix'; the world is as it was. (LAID: no walk: one application.) -/
theorem Tryd.strings_TrimSuffix (s p : ByteArray) (w : World) (hs : s.size ≤ 9223372036854775807) :
    Calls Tryd.prog 50 #[.string s, .string p] w fun e w' => e = .returned (.string ⟨(Lib.trimSuffix s.data.toList p.data.toList).toArray⟩) ∧ w' = w := Any.strings_TrimSuffix Tryd.lays102 s p w hs
def Tryd.lays152_ren : Go.Shelf.Ren := ⟨fun | 152 => 95 | 137 => 31 | 119 => 99 | 224 => 84 | 225 => 83 | 217 => 52 | 266 => 67 | n => n, fun | 9 => 9 | 21 => 21 | 3 => 3 | 4 => 4 | 5 => 5 | 0 => 0 | 46 => 99 | n => n, fun | n => n⟩
theorem Tryd.lays152 : Go.Proofs.Lays.n152 Tryd.prog Tryd.lays152_ren := {
  mixed := by kernel_rfl
  f119 := Tryd.func99.trans (congrArg some (by kernel_rfl))
  f137 := Tryd.func31.trans (congrArg some (by kernel_rfl))
  f152 := Tryd.func95.trans (congrArg some (by kernel_rfl))
  f217 := Tryd.func52.trans (congrArg some (by kernel_rfl))
  f224 := Tryd.func84.trans (congrArg some (by kernel_rfl))
  f225 := Tryd.func83.trans (congrArg some (by kernel_rfl))
  f266 := Tryd.func67.trans (congrArg some (by kernel_rfl))
  t0 := Tryd.underlying0
  a0 := Tryd.isAgg0
  z0 := Tryd.sizeOf0
  v0 := Tryd.zeroValue0
  t3 := Tryd.underlying3
  a3 := Tryd.isAgg3
  z3 := Tryd.sizeOf3
  v3 := Tryd.zeroValue3
  t4 := Tryd.underlying4
  a4 := Tryd.isAgg4
  z4 := Tryd.sizeOf4
  v4 := Tryd.zeroValue4
  t5 := Tryd.underlying5
  a5 := Tryd.isAgg5
  z5 := Tryd.sizeOf5
  v5 := Tryd.zeroValue5
  t9 := Tryd.underlying9
  a9 := Tryd.isAgg9
  z9 := Tryd.sizeOf9
  v9 := Tryd.zeroValue9
  t21 := Tryd.underlying21
  a21 := Tryd.isAgg21
  z21 := Tryd.sizeOf21
  v21 := Tryd.zeroValue21
  t46 := Tryd.underlying99
  a46 := Tryd.isAgg99
  z46 := Tryd.sizeOf99
  v46 := Tryd.zeroValue99 }
open Go.RowKit Go.Lib in
theorem Tryd.strings_IndexRune_ascii (s : ByteArray) (r : Int) (w : World) (h0 : 0 ≤ r) (h1 : r < 128) :
    Calls Tryd.prog 95 #[.string s, .int .i32 r] w fun e w' => e = .returned (.int .i64 (Lib.indexByte s.data.toList r.toNat.toUInt8)) ∧ w' = w := Any.strings_IndexRune_ascii Tryd.lays152 s r w h0 h1
def Tryd.lays226_ren : Go.Shelf.Ren := ⟨fun | 226 => 96 | n => n, fun | 3 => 3 | 4 => 4 | n => n, fun | n => n⟩
theorem Tryd.lays226 : Go.Proofs.Lays.n226 Tryd.prog Tryd.lays226_ren := {
  mixed := by kernel_rfl
  f226 := Tryd.func96.trans (congrArg some (by kernel_rfl))
  t3 := Tryd.underlying3
  a3 := Tryd.isAgg3
  z3 := Tryd.sizeOf3
  v3 := Tryd.zeroValue3
  t4 := Tryd.underlying4
  a4 := Tryd.isAgg4
  z4 := Tryd.sizeOf4
  v4 := Tryd.zeroValue4 }
open Go.RowKit Go.Lib in
theorem Tryd.strings_shouldUseASCIISet (n : Int) (w : World) :
    Calls Tryd.prog 96 #[.int .i64 n] w fun e w' => e = .returned (.bool (decide (8 < n))) ∧ w' = w := Any.strings_shouldUseASCIISet Tryd.lays226 n w
def Tryd.lays153_ren : Go.Shelf.Ren := ⟨fun | 153 => 90 | 152 => 95 | 226 => 96 | 227 => 97 | 228 => 98 | 137 => 31 | 119 => 99 | 224 => 84 | 225 => 83 | 217 => 52 | 266 => 67 | n => n, fun | 9 => 9 | 3 => 3 | 4 => 4 | 5 => 5 | 21 => 21 | 117 => 132 | 116 => 131 | 0 => 0 | 46 => 99 | 124 => 139 | n => n, fun | n => n⟩
theorem Tryd.lays153 : Go.Proofs.Lays.n153 Tryd.prog Tryd.lays153_ren := {
  mixed := by kernel_rfl
  f119 := Tryd.func99.trans (congrArg some (by kernel_rfl))
  f137 := Tryd.func31.trans (congrArg some (by kernel_rfl))
  f152 := Tryd.func95.trans (congrArg some (by kernel_rfl))
  f153 := Tryd.func90.trans (congrArg some (by kernel_rfl))
  f217 := Tryd.func52.trans (congrArg some (by kernel_rfl))
  f224 := Tryd.func84.trans (congrArg some (by kernel_rfl))
  f225 := Tryd.func83.trans (congrArg some (by kernel_rfl))
  f226 := Tryd.func96.trans (congrArg some (by kernel_rfl))
  f227 := Tryd.func97.trans (congrArg some (by kernel_rfl))
  f228 := Tryd.func98.trans (congrArg some (by kernel_rfl))
  f266 := Tryd.func67.trans (congrArg some (by kernel_rfl))
  t0 := Tryd.underlying0
  a0 := Tryd.isAgg0
  z0 := Tryd.sizeOf0
  v0 := Tryd.zeroValue0
  t3 := Tryd.underlying3
  a3 := Tryd.isAgg3
  z3 := Tryd.sizeOf3
  v3 := Tryd.zeroValue3
  t4 := Tryd.underlying4
  a4 := Tryd.isAgg4
  z4 := Tryd.sizeOf4
  v4 := Tryd.zeroValue4
  t5 := Tryd.underlying5
  a5 := Tryd.isAgg5
  z5 := Tryd.sizeOf5
  v5 := Tryd.zeroValue5
  t9 := Tryd.underlying9
  a9 := Tryd.isAgg9
  z9 := Tryd.sizeOf9
  v9 := Tryd.zeroValue9
  t21 := Tryd.underlying21
  a21 := Tryd.isAgg21
  z21 := Tryd.sizeOf21
  v21 := Tryd.zeroValue21
  t46 := Tryd.underlying99
  a46 := Tryd.isAgg99
  z46 := Tryd.sizeOf99
  v46 := Tryd.zeroValue99
  t116 := Tryd.underlying131
  a116 := Tryd.isAgg131
  z116 := Tryd.sizeOf131
  t117 := Tryd.underlying132
  a117 := Tryd.isAgg132
  z117 := Tryd.sizeOf132
  v117 := Tryd.zeroValue132
  t124 := Tryd.underlying139
  a124 := Tryd.isAgg139
  z124 := Tryd.sizeOf139
  v124 := Tryd.zeroValue139 }
open Go.RowKit Go.Lib in
theorem Tryd.strings_IndexAny_long (hv116 : ∀ w, (zeroValue 131).run Tryd.prog w = .ok (.agg (Array.replicate 256 (.bool false))) w) (s chars : ByteArray) (w : World) (h2 : 2 ≤ chars.size) (h8 : 8 < s.size) (hs : s.size < 4294967281) (hcs : chars.size < 4294967281) (hascii : ∀ (j : Nat) b, chars.data.toList[j]? = some b → b.toNat < 128) :
    Calls Tryd.prog 90 #[.string s, .string chars] w fun e w' => e = .returned (.int .i64 (Lib.indexAny s.data.toList chars.data.toList)) ∧ w' = ((w.alloc (.cells (Lib.setCells chars.data.toList) 131)).alloc (.cells (Lib.setCells chars.data.toList) 131)) := Any.strings_IndexAny_long Tryd.lays153 hv116 (by kernel_rfl) s chars w h2 h8 hs hcs hascii
open Go.RowKit Go.Lib in
open Go.RowKit Go.Lib in
theorem Tryd.Builder_WriteString_k (B b : Nat) (bs : List Value) (s : ByteArray) (w : World) (h : Lib.IsBuilderF 67 5 B b bs w) (hlen : bs.length + s.size ≤ 140737488355328) (hBw : B ≤ w.heap.size) :
    Calls Tryd.prog 28 #[.pointer (some ⟨b, 0, none⟩), .string s] w fun e w' => e = .returned (.tuple #[.int .i64 s.size, .nilIface]) ∧ (Lib.BuilderAtF 67 5 B b (.pointer (some ⟨b, 0, none⟩)) (bs ++ Lib.strCells s) w' ∧ Below B w w' ∧ Lib.OthersKept 5 (some b) w w') :=
  Any.Builder_WriteString_k (P := Tryd.prog) (ρ := Tryd.lays158_ren) { Tryd.lays158 with } Tryd.Builder_Extra_158 B b bs s w h hlen hBw
end Go.Proofs

/-
  The program's small functions of layer 11: which bytes may stand where, what has only such ones, names.
-/
namespace Go.Proofs.YtlfhhnjdfpgadaaDoor
open Go.RowKit

/-- A byte of a name in great letters. -/
def grN (n : Nat) : Bool := (decide (65 ≤ n) && decide (n ≤ 90)) || (decide (48 ≤ n) && decide (n ≤ 57)) || decide (n = 45)
def stN (n : Nat) : Bool := (decide (32 ≤ n) || decide (n = 9)) && !decide (n = 127)
def qtN (n : Nat) : Bool := stN n && !decide (n = 34)
def brN (n : Nat) : Bool := qtN n && (!decide (n = 44) && !decide (n = 59) && !decide (n = 58))
def mkN (n : Nat) : Bool := decide (n = 44) || decide (n = 59) || decide (n = 58)
theorem st_ctl (n : Nat) : stN n = !ctlN n := by
  unfold stN ctlN
  by_cases h1 : n < 32 <;> by_cases h2 : n = 9 <;> by_cases h3 : n = 127 <;> simp [h1, h2, h3] <;> omega
theorem qt_qv (c : UInt8) : qtN c.toNat = qvC c := by unfold qtN qvC; rw [st_ctl, Bool.and_comm]
theorem br_uv (c : UInt8) : brN c.toNat = uvC c := by unfold brN uvC; rw [qt_qv]
theorem nb_gr (n : Nat) : nbN n = (grN n || (decide (97 ≤ n) && decide (n ≤ 122))) := by
  unfold nbN letN digN grN
  generalize decide (65 ≤ n) = a1
  generalize decide (n ≤ 90) = a2
  generalize decide (48 ≤ n) = a3
  generalize decide (n ≤ 57) = a4
  generalize decide (n = 45) = a5
  generalize decide (97 ≤ n) = a6
  generalize decide (n ≤ 122) = a7
  revert a1 a2 a3 a4 a5 a6 a7
  decide
set_option maxHeartbeats 1000000 in
theorem pGreat_any (n : Nat) (hn : n < 256) (w : World) :
    Calls Tryd.prog 68 #[.int .u8 n] w fun e w' => e = .returned (.bool (grN n)) ∧ w' = w := by
  by_cases h5 : n = 45
  · subst h5
    go_enter Tryd.func68, Tryd.ntmps68
    go_wp2
    go_ret
    exact ⟨rfl, rfl⟩
  have b5 : ((n : Int) == 45) = false := by rw [beq_eq_false_iff_ne]; omega
  by_cases h1 : 65 ≤ n <;> by_cases h2 : n ≤ 90 <;> by_cases h3 : 48 ≤ n <;> by_cases h4 : n ≤ 57
  all_goals first
    | (exfalso; omega)
    | (go_enter Tryd.func68, Tryd.ntmps68
       go_wp2
       go_ret
       refine ⟨?_, rfl⟩
       simp [grN, h1, h2, h3, h4, h5] <;> omega)
set_option maxHeartbeats 1000000 in
theorem pName_any1 (n : Nat) (hn : n < 256) (w : World) :
    Calls Tryd.prog 54 #[.int .u8 n] w fun e w' => e = .returned (.bool (nbN n)) ∧ w' = w := by
  have cg := fun W => pGreat_any n hn W
  have e := Lib.hid (nb_gr n)
  generalize grN n = g at *
  by_cases h1 : 97 ≤ n <;> by_cases h2 : n ≤ 122 <;> cases g
  all_goals first
    | (exfalso; omega)
    | (go_enter Tryd.func54, Tryd.ntmps54
       go_wp2_with (go_at_call 68; ((with_reducible refine (cg _).mono ?_); rintro e w' ⟨rfl, hw⟩; subst w'))
       go_ret
       refine ⟨?_, rfl⟩
       simp [e.out, h1, h2] <;> omega)
set_option maxHeartbeats 1000000 in
theorem pStand_any (n : Nat) (hn : n < 256) (w : World) :
    Calls Tryd.prog 57 #[.int .u8 n] w fun e w' => e = .returned (.bool (stN n)) ∧ w' = w := by
  by_cases h2 : n = 9
  · subst h2
    go_enter Tryd.func57, Tryd.ntmps57
    go_wp2
    go_ret
    exact ⟨rfl, rfl⟩
  by_cases h3 : n = 127
  · subst h3
    go_enter Tryd.func57, Tryd.ntmps57
    go_wp2
    go_ret
    exact ⟨rfl, rfl⟩
  have b2 : ((n : Int) == 9) = false := by rw [beq_eq_false_iff_ne]; omega
  have b3 : ((n : Int) != 127) = true := by rw [bne_iff_ne]; omega
  have b4 : ((n : Int) == 127) = false := by rw [beq_eq_false_iff_ne]; omega
  by_cases h1 : 32 ≤ n
  all_goals
    (go_enter Tryd.func57, Tryd.ntmps57
     go_wp2
     go_ret
     refine ⟨?_, rfl⟩
     simp [stN, h1, h2, h3])
set_option maxHeartbeats 1000000 in
theorem pQuote_any (n : Nat) (hn : n < 256) (w : World) :
    Calls Tryd.prog 56 #[.int .u8 n] w fun e w' => e = .returned (.bool (qtN n)) ∧ w' = w := by
  have cg := fun W => pStand_any n hn W
  have e := Lib.hid (show qtN n = (stN n && !decide (n = 34)) from rfl)
  generalize stN n = g at *
  by_cases h1 : n = 34
  · have b3 : ((n : Int) != 34) = false := by simp [h1]
    have b4 : ((n : Int) == 34) = true := by simp [h1]
    have H1 := Lib.hid h1
    clear h1
    cases g
    all_goals
      (go_enter Tryd.func56, Tryd.ntmps56
       go_wp2_with (go_at_call 57; ((with_reducible refine (cg _).mono ?_); rintro e w' ⟨rfl, hw⟩; subst w'))
       go_ret
       refine ⟨?_, rfl⟩
       rw [e.out, decide_eq_true H1.out]
       rfl)
  · have b3 : ((n : Int) != 34) = true := by rw [bne_iff_ne]; omega
    have b4 : ((n : Int) == 34) = false := by rw [beq_eq_false_iff_ne]; omega
    cases g
    all_goals
      (go_enter Tryd.func56, Tryd.ntmps56
       go_wp2_with (go_at_call 57; ((with_reducible refine (cg _).mono ?_); rintro e w' ⟨rfl, hw⟩; subst w'))
       go_ret
       refine ⟨?_, rfl⟩
       simp [e.out, h1])
/-- What IndexByte tells of the marks. -/
theorem marks_ix (n : Nat) (hn : n < 256) : (decide (Lib.indexByte [44, 59, 58] (UInt8.ofNat n) < 0) = !mkN n) ∧ (decide (0 ≤ Lib.indexByte [44, 59, 58] (UInt8.ofNat n)) = mkN n) := by
  have : ∀ x : Fin 256, (decide (Lib.indexByte [44, 59, 58] (UInt8.ofNat x.val) < 0) = !mkN x.val) ∧ (decide (0 ≤ Lib.indexByte [44, 59, 58] (UInt8.ofNat x.val)) = mkN x.val) := by decide +kernel
  exact this ⟨n, hn⟩
set_option maxHeartbeats 1000000 in
theorem pBare_any (n : Nat) (hn : n < 256) (w : World) :
    Calls Tryd.prog 55 #[.int .u8 n] w fun e w' => e = .returned (.bool (brN n)) ∧ w' = w := by
  have cg := fun W => pQuote_any n hn W
  have hx := (marks_ix n hn).1
  have ci := fun W => Tryd.strings_IndexByte ⟨#[44, 59, 58]⟩ n W
  have e : Hid (brN n = (qtN n && !mkN n)) := Lib.hid (by unfold brN mkN; simp [Bool.and_assoc])
  rw [show ((n : Int)).toNat.toUInt8 = UInt8.ofNat n from by simp] at ci
  rw [show (⟨#[44, 59, 58]⟩ : ByteArray).data.toList = [44, 59, 58] from rfl] at ci
  generalize Lib.indexByte [44, 59, 58] (UInt8.ofNat n) = ix at *
  generalize qtN n = g at *
  generalize mkN n = k at *
  cases g <;> cases k
  all_goals
    (simp only [Bool.not_true, Bool.not_false] at hx
     go_enter Tryd.func55, Tryd.ntmps55
     go_wp2_with (first
       | (go_at_call 56; ((with_reducible refine (cg _).mono ?_); rintro e w' ⟨rfl, hw⟩; subst w'))
       | (go_at_call 31; ((with_reducible refine (ci _).mono ?_); rintro e w' ⟨rfl, hw⟩; subst w')))
     go_ret
     refine ⟨?_, rfl⟩
     simp [e.out])
set_option maxHeartbeats 1000000 in
/-- Whether all bytes of a text are such ones. -/
theorem hasOnly_any (g : Nat) (p : UInt8 → Bool) (eg : ∀ args W, (callFunc g args).run Tryd.prog W = .ok (.enter g args) W) (hp : ∀ (c : UInt8) (W : World), Calls Tryd.prog g #[.int .u8 c.toNat] W fun e w' => e = .returned (.bool (p c)) ∧ w' = W) (s : ByteArray) (hs : s.size ≤ 16777216) (w : World) :
    Calls Tryd.prog 61 #[.string s, .func (.func g) #[] #[]] w fun e w' => e = .returned (.bool (s.data.toList.all p)) ∧ w' = w := by
  have hlen := Lib.hid (bsize s)
  obtain ⟨B, hB⟩ : ∃ B, B = s.data.toList.all p := ⟨_, rfl⟩
  rw [← hB]
  have HB := Lib.hid hB
  clear hB
  go_enter Tryd.func61, Tryd.ntmps61
  go_wp2
  go_loop [8] (fun q => ∃ k : Nat, q = .int .i64 k ∧ k ≤ s.size ∧ Hid (B = (s.data.toList.drop k).all p)) (fun q => s.size - (intOf q).toNat)
  case atStart => exact ⟨0, rfl, Nat.zero_le _, Lib.hid (by rw [HB.out]; simp)⟩
  case round =>
    obtain ⟨k, rfl, hk, HK⟩ := hrel
    by_cases hlt : k < s.size
    · have hd : Hid ((s.data.toList.drop k).all p = (p s[k] && (s.data.toList.drop (k + 1)).all p)) := Lib.hid (by
        rw [List.drop_eq_getElem_cons (by rw [← hlen.out]; exact hlt), List.all_cons]; rfl)
      have cp := fun W => hp s[k] W
      generalize hpk : p s[k] = b at *
      cases b
      · have HE := Lib.hid (HK.out.trans hd.out)
        simp only [Bool.false_and] at HE
        clear HK hd
        go_wp2_with (go_at_fn g; ((with_reducible refine (cp _).mono ?_); rintro e w' ⟨rfl, hw⟩; subst w'))
        go_ret
        exact ⟨by rw [HE.out]; rfl, rfl⟩
      · have HE := Lib.hid (HK.out.trans hd.out)
        simp only [Bool.true_and] at HE
        clear HK hd
        go_wp2_with (go_at_fn g; ((with_reducible refine (cp _).mono ?_); rintro e w' ⟨rfl, hw⟩; subst w'))
        go_round
        case rel => exact ⟨k + 1, by go_num, by omega, HE⟩
        case measure => simp [intOf]; omega
    · obtain rfl : k = s.size := by omega
      go_wp2
      go_ret
      refine ⟨?_, rfl⟩
      rw [HK.out, List.drop_eq_nil_of_le (by rw [← hlen.out]; exact Nat.le_refl _)]
      rfl
end Go.Proofs.YtlfhhnjdfpgadaaDoor

/-
  Plain mathematics for layer 11: the width of the number that the model reads at a place of a text is the document's; a line cut into pieces.
-/
namespace Go.Proofs.YtlfhhnjdfpgadaaDoor
open Go.RowKit

/-- The bytes of a number, out of its first four bytes. -/
def runeN (b0 b1 b2 b3 : Nat) : Nat :=
  if b0 < 128 then 1
  else if 194 ≤ b0 ∧ b0 < 224 then (if 128 ≤ b1 ∧ b1 < 192 then 2 else 0)
  else if 224 ≤ b0 ∧ b0 < 240 then (if (128 ≤ b1 ∧ b1 < 192) ∧ (128 ≤ b2 ∧ b2 < 192) ∧ ¬ (b0 = 224 ∧ b1 < 160) ∧ ¬ (b0 = 237 ∧ 160 ≤ b1) then 3 else 0)
  else if 240 ≤ b0 ∧ b0 < 245 then (if (128 ≤ b1 ∧ b1 < 192) ∧ (128 ≤ b2 ∧ b2 < 192) ∧ (128 ≤ b3 ∧ b3 < 192) ∧ ¬ (b0 = 240 ∧ b1 < 144) ∧ ¬ (b0 = 244 ∧ 144 ≤ b1) then 4 else 0)
  else 0
theorem runeN_eq (l : List UInt8) : runeL l = runeN (byt l 0) (byt l 1) (byt l 2) (byt l 3) := by
  unfold runeL runeN
  simp only [cont_iff]
set_option maxHeartbeats 4000000 in
theorem dec_w (n b0 b1 b2 b3 : Nat) (h0 : b0 < 256) (k1 : ¬ 1 < n → b1 = 0) (k2 : ¬ 2 < n → b2 = 0) (k3 : ¬ 3 < n → b3 = 0) : (Lib.decodeN n b0 b1 b2 b3).2 = max 1 (runeN b0 b1 b2 b3) := by
  unfold Lib.decodeN runeN
  repeat' split
  all_goals first
    | rfl
    | (exfalso; omega)
theorem get_byt (s : ByteArray) (k : Nat) : (s.get! k).toNat = byt s.data.toList k := by
  unfold byt
  show (s.data[k]!).toNat = _
  rw [List.getD_eq_getElem?_getD, Array.getElem?_toList, getElem!_def]
  cases s.data[k]? <;> rfl
theorem byt_drop2 (l : List UInt8) (k i : Nat) : byt (l.drop k) i = byt l (k + i) := by
  unfold byt; simp [List.getD_eq_getElem?_getD]
/-- THE WIDTH IS THE DOCUMENT's. -/
theorem dec_step (s : ByteArray) (k : Nat) : (Utf8.decode s k).2 = stepL (s.data.toList.drop k) := by
  have hs := bsize s
  rw [Lib.decode_at, get_byt, get_byt, get_byt, get_byt]
  have out : ∀ j, s.size ≤ k + j → byt s.data.toList (k + j) = 0 := fun j h => byt_out (by omega)
  rw [dec_w _ _ _ _ _ (byt_lt _ _) (fun h => out 1 (by omega)) (fun h => out 2 (by omega)) (fun h => out 3 (by omega))]
  unfold stepL
  rw [runeN_eq, byt_drop2, byt_drop2, byt_drop2, byt_drop2]
  rfl
theorem dec_low (n b0 b1 b2 b3 : Nat) (h0 : 128 ≤ b0) : 128 ≤ (Lib.decodeN n b0 b1 b2 b3).1 ∧ (Lib.decodeN n b0 b1 b2 b3).1 ≤ 1114111 := by
  unfold Lib.decodeN
  rw [if_neg (by omega)]
  repeat' split
  all_goals (dsimp only; omega)
/-- A number above 127 stands where a byte above 127 does. -/
theorem dec_high (s : ByteArray) (k : Nat) (h : 128 ≤ byt s.data.toList k) : 128 ≤ (Utf8.decode s k).1 ∧ (Utf8.decode s k).1 ≤ 1114111 := by
  rw [Lib.decode_at]
  exact dec_low _ _ _ _ _ (by rw [get_byt]; exact h)
theorem dec_asc (s : ByteArray) (k : Nat) (h : byt s.data.toList k < 128) : Utf8.decode s k = (byt s.data.toList k, 1) := by
  rw [Lib.decode_at]
  unfold Lib.decodeN
  rw [if_pos (by rw [get_byt]; exact h), get_byt]

/-- Where a line is cut: the last of the places where numbers begin that is no further than so many bytes. -/
def cutF : Nat → List UInt8 → Nat → Nat → Nat → Nat
  | 0, _, _, _, cut => cut
  | f + 1, l, at_, most, cut => if l = [] then cut else if most < at_ then cut else cutF f (l.drop (stepL l)) (at_ + stepL l) most at_
def cutL (l : List UInt8) (most : Nat) : Nat := if l.length ≤ most then l.length else cutF l.length l 0 most 0
/-- The pieces of a line, each with what stands ahead of it. -/
def pieF : Nat → List UInt8 → List UInt8 → List (List UInt8)
  | 0, l, ah => [ah ++ l]
  | f + 1, l, ah => if (cutL l (75 - ah.length)) = l.length then [ah ++ l] else (ah ++ l.take (cutL l (75 - ah.length))) :: pieF f (l.drop (cutL l (75 - ah.length))) [32]
def pieL (l : List UInt8) : List (List UInt8) := pieF l.length l []
theorem foldF_fuel : ∀ (f g : Nat) (l : List UInt8) (n : Nat), l.length ≤ f → l.length ≤ g → foldF f l n = foldF g l n
  | 0, g, l, n, h1, h2 => by
    have : l = [] := List.eq_nil_of_length_eq_zero (by omega)
    subst this
    cases g <;> simp [foldF]
  | f + 1, 0, l, n, h1, h2 => by
    have : l = [] := List.eq_nil_of_length_eq_zero (by omega)
    subst this
    simp [foldF]
  | f + 1, g + 1, l, n, h1, h2 => by
    by_cases h : l = []
    · subst h; simp [foldF]
    · have hp := stepL_pos l
      have h0 : 0 < l.length := List.length_pos_iff.2 h
      rw [foldF, foldF, if_neg h, if_neg h, foldF_fuel f g (l.drop (stepL l)) _ (by simp; omega) (by simp; omega), foldF_fuel f g (l.drop (stepL l)) _ (by simp; omega) (by simp; omega)]
/-- From a place of the line on: so much of it goes into the piece that is begun. -/
theorem fold_cut (most : Nat) (hm : 4 ≤ most) : ∀ (f : Nat) (l pre : List UInt8) (n cut : Nat), l.length ≤ f → n + most = 75 + pre.length → pre.length ≤ most → most < pre.length + l.length →
    ∃ k, cutF f l pre.length most cut = pre.length + k ∧ k ≤ l.length ∧ pre.length + k ≤ most ∧ most < pre.length + k + 4 ∧ foldF f l n = l.take k ++ 13 :: 10 :: 32 :: foldF l.length (l.drop k) 1
  | 0, l, pre, n, cut, h1, h2, h3, h4 => by omega
  | f + 1, l, pre, n, cut, h1, h2, h3, h4 => by
    have h0 : 0 < l.length := by omega
    have hne : l ≠ [] := List.length_pos_iff.1 h0
    have hp := stepL_pos l
    have hle := stepL_le hne
    have e : l.take (stepL l) ++ l.drop (stepL l) = l := List.take_append_drop _ _
    by_cases hb : most < pre.length + stepL l
    · refine ⟨0, ?_, by omega, by omega, by omega, ?_⟩
      · rw [cutF, if_neg hne, if_neg (by omega)]
        cases f with
        | zero => rfl
        | succ f =>
          rw [cutF]
          by_cases hd : l.drop (stepL l) = []
          · rw [if_pos hd]; rfl
          · rw [if_neg hd, if_pos hb]; rfl
      · rw [foldF, if_neg hne, if_pos (by omega)]
        simp only [List.take_zero, List.nil_append, List.drop_zero]
        congr 3
        obtain ⟨m, hm2⟩ : ∃ m, l.length = m + 1 := ⟨l.length - 1, by omega⟩
        rw [hm2, foldF, if_neg hne, if_neg (by omega), foldF_fuel f m (l.drop (stepL l)) _ (by simp; omega) (by simp; omega)]
    · have hl2 : (pre ++ l.take (stepL l)).length = pre.length + stepL l := by simp; omega
      obtain ⟨k, a1, a2, a3, a4, a5⟩ := fold_cut most hm f (l.drop (stepL l)) (pre ++ l.take (stepL l)) (n + stepL l) pre.length (by simp; omega) (by rw [hl2]; omega) (by rw [hl2]; omega) (by rw [hl2]; simp; omega)
      rw [hl2] at a1 a3 a4
      simp only [List.length_drop] at a2
      refine ⟨stepL l + k, ?_, by omega, by omega, by omega, ?_⟩
      · rw [cutF, if_neg hne, if_neg (by omega), a1]; omega
      · rw [foldF, if_neg hne, if_neg (by omega), a5, List.drop_drop, ← List.append_assoc]
        congr 1
        · rw [List.take_add]
        · congr 3
          exact foldF_fuel _ _ _ _ (by simp only [List.length_drop]; omega) (by simp only [List.length_drop]; omega)
theorem fold_all : ∀ (f : Nat) (l : List UInt8) (n : Nat), l.length ≤ f → n + l.length ≤ 75 → foldF f l n = l
  | 0, l, n, h1, h2 => by
    have : l = [] := List.eq_nil_of_length_eq_zero (by omega)
    subst this; rfl
  | f + 1, l, n, h1, h2 => by
    by_cases h : l = []
    · subst h; simp [foldF]
    · have hp := stepL_pos l
      have hle := stepL_le h
      rw [foldF, if_neg h, if_neg (by omega), fold_all f _ _ (by simp; omega) (by simp; omega), List.take_append_drop]
theorem cut_big {l : List UInt8} {most : Nat} (hm : 4 ≤ most) (hm2 : most ≤ 75) (h : most < l.length) : 0 < cutL l most ∧ cutL l most < l.length ∧ cutL l most ≤ most ∧ foldF l.length l (75 - most) = l.take (cutL l most) ++ 13 :: 10 :: 32 :: foldF l.length (l.drop (cutL l most)) 1 := by
  obtain ⟨k, a1, a2, a3, a4, a5⟩ := fold_cut most hm l.length l [] (75 - most) 0 (Nat.le_refl _) (by simp; omega) (by simp) (by simpa using h)
  have e : cutL l most = k := by
    unfold cutL
    rw [if_neg (by omega)]
    simpa using a1
  simp only [List.length_nil, Nat.zero_add] at a3 a4
  rw [e]
  exact ⟨by omega, by omega, a3, a5⟩
theorem cut_small {l : List UInt8} {most : Nat} (h : l.length ≤ most) : cutL l most = l.length := by unfold cutL; rw [if_pos h]
/-- The pieces, each ended, are the line folded. -/
theorem pie_fold : ∀ (f : Nat) (l ah : List UInt8), l.length ≤ f → ah.length ≤ 1 → (pieF f l ah).flatMap (fun x => x ++ [13, 10]) = ah ++ (foldF l.length l ah.length ++ [13, 10])
  | 0, l, ah, h1, h2 => by
    have : l = [] := List.eq_nil_of_length_eq_zero (by omega)
    subst this
    simp [pieF, foldF]
  | f + 1, l, ah, h1, h2 => by
    rw [pieF]
    by_cases h : l.length ≤ 75 - ah.length
    · rw [if_pos (cut_small h), fold_all _ _ _ (Nat.le_refl _) (by omega)]
      simp
    · obtain ⟨a1, a2, a3, a4⟩ := cut_big (l := l) (most := 75 - ah.length) (by omega) (by omega) (by omega)
      rw [if_neg (by omega), List.flatMap_cons, pie_fold f _ [32] (by simp; omega) (by simp)]
      rw [show 75 - (75 - ah.length) = ah.length from by omega] at a4
      rw [a4]
      generalize cutL l (75 - ah.length) = k at *
      rw [foldF_fuel (l.drop k).length l.length _ _ (Nat.le_refl _) (by simp)]
      simp
theorem pieL_fold (l : List UInt8) : (pieL l).flatMap (fun x => x ++ [13, 10]) = lineF l := by
  unfold pieL lineF
  rw [pie_fold _ _ _ (Nat.le_refl _) (by simp)]
  rfl
end Go.Proofs.YtlfhhnjdfpgadaaDoor

/-
  The program's functions of layer 11: where a line is cut.
-/
namespace Go.Proofs.YtlfhhnjdfpgadaaDoor
open Go.RowKit

theorem cutF_end (f : Nat) (pos most cut : Nat) : cutF f [] pos most cut = cut := by cases f <;> simp [cutF]
theorem below_iter (w : World) (s : ByteArray) (pos : Nat) : Below w.heap.size w (w.iter s pos) := by
  unfold World.iter
  exact (Below.refl _ w).alloc (Nat.le_refl _) _
set_option maxRecDepth 100000 in
set_option maxHeartbeats 2000000 in
theorem firstCut_any (s : ByteArray) (hs : s.size ≤ 16777216) (most : Nat) (_hm : most ≤ 75) (w : World) :
    Calls Tryd.prog 46 #[.string s, .int .i64 most] w fun e w' => e = .returned (.int .i64 (cutL s.data.toList most)) ∧ Below w.heap.size w w' := by
  have hlen := Lib.hid (bsize s)
  by_cases h1 : s.size ≤ most
  · have E := Lib.hid (show cutL s.data.toList most = s.size by rw [cut_small (by rw [← hlen.out]; exact h1), hlen.out])
    go_enter Tryd.func46, Tryd.ntmps46
    go_wp2
    go_ret
    exact ⟨by rw [E.out]; rfl, Below.refl _ _⟩
  · have E := Lib.hid (show cutL s.data.toList most = cutF s.data.toList.length s.data.toList 0 most 0 by unfold cutL; rw [if_neg (by rw [← hlen.out]; omega)])
    generalize cutL s.data.toList most = K at E ⊢
    go_enter Tryd.func46, Tryd.ntmps46
    go_wp2
    go_loopg [5] s.size (fun g c wx => ∃ pos cut f : Nat, c = .int .i64 cut ∧ pos ≤ s.size ∧ s.size ≤ pos + g ∧ s.size ≤ pos + f ∧ wx = w.iter s pos ∧ Hid (K = cutF f (s.data.toList.drop pos) pos most cut))
    case atStart => exact ⟨0, 0, s.size, rfl, by omega, by omega, by omega, rfl, Lib.hid (by rw [E.out, ← hlen.out]; simp)⟩
    case round =>
      obtain ⟨pos, cut, f, rfl, hp, hg, hf, rfl, HK⟩ := hrel
      by_cases hlt : pos < s.size
      · have hwd := dec_step s pos
        have hne : s.data.toList.drop pos ≠ [] := by
          intro h; have := congrArg List.length h; rw [List.length_drop, ← hlen.out] at this; simp at this; omega
        have hp1 := stepL_pos (s.data.toList.drop pos)
        have hp2 := stepL_le hne
        rw [List.length_drop, ← hlen.out] at hp2
        obtain ⟨f', rfl⟩ : ∃ f', f = f' + 1 := ⟨f - 1, by omega⟩
        have hnx := fun ty => run_next_any (P := Tryd.prog) w s pos ty hlt
        rw [hwd] at hnx
        have HK2 := HK.out
        rw [cutF, if_neg hne, List.drop_drop] at HK2
        generalize stepL (s.data.toList.drop pos) = k at *
        generalize (Utf8.decode s pos).1 = r at *
        by_cases hb : most < pos
        · rw [if_pos hb] at HK2
          have HK3 := Lib.hid HK2
          clear HK2 HK hne hwd
          have hbi : (most : Int) < (pos : Int) := by omega
          go_wp2
          go_ret
          exact ⟨by rw [HK3.out]; rfl, below_iter _ _ _⟩
        · rw [if_neg hb] at HK2
          have HK3 := Lib.hid HK2
          clear HK2 HK hne hwd
          have hbi : ¬ (most : Int) < (pos : Int) := by omega
          go_wp2
          go_roundg (s.size - (pos + k))
          case measure => omega
          case rel => exact ⟨pos + k, pos, f', rfl, by omega, by omega, by omega, rfl, HK3⟩
      · have hnx := fun ty => run_next_end (P := Tryd.prog) w s pos ty hlt
        have HK2 : Hid (K = cut) := Lib.hid (by rw [HK.out, List.drop_eq_nil_of_le (by rw [← hlen.out]; omega), cutF_end])
        clear HK
        go_wp2
        go_ret
        exact ⟨by rw [HK2.out]; rfl, below_iter _ _ _⟩
end Go.Proofs.YtlfhhnjdfpgadaaDoor
