/-
  Contracts of Go's own library at this program, out of the library's shelf (laid, no walk).
-/
import Derived.Shelf.Strings.Builder1
import Derived.Shelf.Strings.Builder2
import Derived.Shelf.Strings.OnBuilder
import Derived.Shelf.Strings.BuilderF
import Derived.Shelf.Strings.BuilderK
import Derived.Shelf.LaysM
import Derived.Shelf.Strconv.Clone
import Derived.Shelf.Strings.Search1
import Derived.Shelf.Strings.Search2
import Derived.Shelf.Strings.Cut
import Derived.Shelf.Strings.Prefix
import Derived.Shelf.Strings.Runes
import Derived.Shelf.Strings.IndexAny
import Derived.Shelf.Strings.AsciiSet
import Derived.Shelf.Strings.IndexAnyAll
import Derived.Shelf.SlicesQ.IndexFunc
import Derived.Shelf.SlicesE.Equal
import Derived.Test.YtlfhhnjdfpgadaaGreatDoorProg
import Derived.Test.YtlfhhnjdfpgadaaGreatDoorG05
import Derived.Test.YtlfhhnjdfpgadaaGreatDoorG13
import Derived.Lib.DecodeN
namespace Go.Proofs
open Go.Shelf
def Tryz.lays169_ren : Go.Shelf.Ren := ⟨fun | 169 => 49 | n => n, fun | 70 => 72 | 9 => 9 | 0 => 0 | 72 => 75 | 37 => 73 | 127 => 94 | 3 => 3 | 5 => 5 | n => n, fun | n => n⟩
theorem Tryz.lays169 : Go.Proofs.Lays.n169 Tryz.prog Tryz.lays169_ren := {
  mixed := by kernel_rfl
  f169 := Tryz.func49.trans (congrArg some (by kernel_rfl))
  t0 := Tryz.underlying0
  a0 := Tryz.isAgg0
  z0 := Tryz.sizeOf0
  v0 := Tryz.zeroValue0
  t3 := Tryz.underlying3
  a3 := Tryz.isAgg3
  z3 := Tryz.sizeOf3
  v3 := Tryz.zeroValue3
  t9 := Tryz.underlying9
  a9 := Tryz.isAgg9
  z9 := Tryz.sizeOf9
  v9 := Tryz.zeroValue9
  t37 := Tryz.underlying73
  a37 := Tryz.isAgg73
  z37 := Tryz.sizeOf73
  v37 := Tryz.zeroValue73
  t70 := Tryz.underlying72
  a70 := Tryz.isAgg72
  z70 := Tryz.sizeOf72
  v70 := Tryz.zeroValue72
  t72 := Tryz.underlying75
  a72 := Tryz.isAgg75
  z72 := Tryz.sizeOf75
  v72 := Tryz.zeroValue75
  t127 := Tryz.underlying94
  a127 := Tryz.isAgg94
  z127 := Tryz.sizeOf94
  v127 := Tryz.zeroValue94 }
theorem Tryz.Builder_Extra_169 : Builder.Extra Tryz.prog Tryz.lays169_ren := {
  sizeBuilder := by kernel_rfl
  liesBuilder := by kernel_rfl
  t5 := Tryz.underlying5
  a5 := Tryz.isAgg5
  z5 := Tryz.sizeOf5
  v5 := Tryz.zeroValue5
  infoByte := by kernel_rfl
  cellsByte := by kernel_rfl
  sizeByte := by kernel_rfl
  neB5 := by decide }
def Tryz.lays158_ren : Go.Shelf.Ren := ⟨fun | 158 => 82 | 165 => 97 | 166 => 48 | 167 => 98 | 169 => 49 | 230 => 99 | 203 => 100 | 240 => 70 | 241 => 104 | 197 => 105 | 118 => 106 | 168 => 107 | 270 => 108 | 262 => 109 | 276 => 91 | 277 => 114 | 260 => 115 | 242 => 116 | 313 => 117 | 278 => 120 | 274 => 121 | 275 => 122 | n => n, fun | 9 => 9 | 4 => 4 | 3 => 3 | 5 => 5 | 72 => 75 | 0 => 0 | 76 => 79 | 75 => 78 | 107 => 110 | 70 => 72 | 20 => 20 | 37 => 73 | 127 => 94 | 21 => 21 | 105 => 112 | 164 => 104 | 162 => 123 | 203 => 121 | 119 => 127 | 46 => 106 | 139 => 130 | 138 => 129 | 51 => 124 | 160 => 131 | 208 => 143 | 206 => 141 | 80 => 81 | n => n, fun | 13 => 2 | 3 => 3 | 4 => 4 | n => n⟩
theorem Tryz.lays158 : Go.Proofs.Lays.n158 Tryz.prog Tryz.lays158_ren := {
  mixed := by kernel_rfl
  f118 := Tryz.func106.trans (congrArg some (by kernel_rfl))
  f158 := Tryz.func82.trans (congrArg some (by kernel_rfl))
  f165 := Tryz.func97.trans (congrArg some (by kernel_rfl))
  f166 := Tryz.func48.trans (congrArg some (by kernel_rfl))
  f167 := Tryz.func98.trans (congrArg some (by kernel_rfl))
  f168 := Tryz.func107.trans (congrArg some (by kernel_rfl))
  f169 := Tryz.func49.trans (congrArg some (by kernel_rfl))
  f197 := Tryz.func105.trans (congrArg some (by kernel_rfl))
  f203 := Tryz.func100.trans (congrArg some (by kernel_rfl))
  f230 := Tryz.func99.trans (congrArg some (by kernel_rfl))
  f240 := Tryz.func70.trans (congrArg some (by kernel_rfl))
  f241 := Tryz.func104.trans (congrArg some (by kernel_rfl))
  f242 := Tryz.func116.trans (congrArg some (by kernel_rfl))
  f260 := Tryz.func115.trans (congrArg some (by kernel_rfl))
  f262 := Tryz.func109.trans (congrArg some (by kernel_rfl))
  f270 := Tryz.func108.trans (congrArg some (by kernel_rfl))
  f274 := Tryz.func121.trans (congrArg some (by kernel_rfl))
  f275 := Tryz.func122.trans (congrArg some (by kernel_rfl))
  f276 := Tryz.func91.trans (congrArg some (by kernel_rfl))
  f277 := Tryz.func114.trans (congrArg some (by kernel_rfl))
  f278 := Tryz.func120.trans (congrArg some (by kernel_rfl))
  f313 := Tryz.func117.trans (congrArg some (by kernel_rfl))
  t0 := Tryz.underlying0
  a0 := Tryz.isAgg0
  z0 := Tryz.sizeOf0
  v0 := Tryz.zeroValue0
  t3 := Tryz.underlying3
  a3 := Tryz.isAgg3
  z3 := Tryz.sizeOf3
  v3 := Tryz.zeroValue3
  t4 := Tryz.underlying4
  a4 := Tryz.isAgg4
  z4 := Tryz.sizeOf4
  v4 := Tryz.zeroValue4
  t5 := Tryz.underlying5
  a5 := Tryz.isAgg5
  z5 := Tryz.sizeOf5
  v5 := Tryz.zeroValue5
  t9 := Tryz.underlying9
  a9 := Tryz.isAgg9
  z9 := Tryz.sizeOf9
  v9 := Tryz.zeroValue9
  t20 := Tryz.underlying20
  a20 := Tryz.isAgg20
  z20 := Tryz.sizeOf20
  v20 := Tryz.zeroValue20
  t21 := Tryz.underlying21
  a21 := Tryz.isAgg21
  z21 := Tryz.sizeOf21
  v21 := Tryz.zeroValue21
  t37 := Tryz.underlying73
  a37 := Tryz.isAgg73
  z37 := Tryz.sizeOf73
  v37 := Tryz.zeroValue73
  t46 := Tryz.underlying106
  a46 := Tryz.isAgg106
  z46 := Tryz.sizeOf106
  v46 := Tryz.zeroValue106
  t51 := Tryz.underlying124
  a51 := Tryz.isAgg124
  z51 := Tryz.sizeOf124
  v51 := Tryz.zeroValue124
  t70 := Tryz.underlying72
  a70 := Tryz.isAgg72
  z70 := Tryz.sizeOf72
  v70 := Tryz.zeroValue72
  t72 := Tryz.underlying75
  a72 := Tryz.isAgg75
  z72 := Tryz.sizeOf75
  v72 := Tryz.zeroValue75
  t75 := Tryz.underlying78
  a75 := Tryz.isAgg78
  z75 := Tryz.sizeOf78
  v75 := Tryz.zeroValue78
  t76 := Tryz.underlying79
  a76 := Tryz.isAgg79
  z76 := Tryz.sizeOf79
  v76 := Tryz.zeroValue79
  t105 := Tryz.underlying112
  a105 := Tryz.isAgg112
  z105 := Tryz.sizeOf112
  v105 := Tryz.zeroValue112
  t107 := Tryz.underlying110
  a107 := Tryz.isAgg110
  z107 := Tryz.sizeOf110
  v107 := Tryz.zeroValue110
  t119 := Tryz.underlying127
  a119 := Tryz.isAgg127
  z119 := Tryz.sizeOf127
  t127 := Tryz.underlying94
  a127 := Tryz.isAgg94
  z127 := Tryz.sizeOf94
  v127 := Tryz.zeroValue94
  t138 := Tryz.underlying129
  a138 := Tryz.isAgg129
  z138 := Tryz.sizeOf129
  v138 := Tryz.zeroValue129
  t139 := Tryz.underlying130
  a139 := Tryz.isAgg130
  z139 := Tryz.sizeOf130
  v139 := Tryz.zeroValue130
  t160 := Tryz.underlying131
  a160 := Tryz.isAgg131
  z160 := Tryz.sizeOf131
  v160 := Tryz.zeroValue131
  t162 := Tryz.underlying123
  a162 := Tryz.isAgg123
  z162 := Tryz.sizeOf123
  v162 := Tryz.zeroValue123
  t164 := Tryz.underlying104
  a164 := Tryz.isAgg104
  z164 := Tryz.sizeOf104
  v164 := Tryz.zeroValue104
  t203 := Tryz.underlying121
  a203 := Tryz.isAgg121
  z203 := Tryz.sizeOf121
  v203 := Tryz.zeroValue121
  t206 := Tryz.underlying141
  a206 := Tryz.isAgg141
  z206 := Tryz.sizeOf141
  v206 := Tryz.zeroValue141
  t208 := Tryz.underlying143
  a208 := Tryz.isAgg143
  z208 := Tryz.sizeOf143
  v208 := Tryz.zeroValue143
  g3 := by kernel_rfl
  g4 := by kernel_rfl
  g13 := by kernel_rfl }
theorem Tryz.Builder_Extra_158 : Builder.Extra Tryz.prog Tryz.lays158_ren := {
  sizeBuilder := by kernel_rfl
  liesBuilder := by kernel_rfl
  t5 := Tryz.underlying5
  a5 := Tryz.isAgg5
  z5 := Tryz.sizeOf5
  v5 := Tryz.zeroValue5
  infoByte := by kernel_rfl
  cellsByte := by kernel_rfl
  sizeByte := by kernel_rfl
  neB5 := by decide }
open Go.RowKit in
/-- strings.ToUpper: "ToUpper returns s with all Unicode letters mapped to their upper case.": ON ASCII TEXT OF AT MOST 2^47 BYTES. Below the heap's end the world is as it was: where a letter turns, the call makes a builder and its buffer. (LAID: no walk: one application.) -/
theorem Tryz.strings_ToUpper_ascii (s : ByteArray) (w : World) (hs : s.size ≤ 140737488355328) (hascii : ∀ (j : Nat) (b : UInt8), s.data.toList[j]? = some b → b.toNat < 128) :
    Calls Tryz.prog 82 #[.string s] w fun e w' => e = .returned (.string ⟨(Lib.toUpperA s.data.toList).toArray⟩) ∧ Below w.heap.size w w' := Any.strings_ToUpper_ascii Tryz.lays158 Tryz.Builder_Extra_158 s w hs hascii
def Tryz.lays137_ren : Go.Shelf.Ren := ⟨fun | 137 => 54 | 217 => 76 | 266 => 95 | n => n, fun | 9 => 9 | 5 => 5 | 3 => 3 | n => n, fun | n => n⟩
theorem Tryz.lays137 : Go.Proofs.Lays.n137 Tryz.prog Tryz.lays137_ren := {
  mixed := by kernel_rfl
  f137 := Tryz.func54.trans (congrArg some (by kernel_rfl))
  f217 := Tryz.func76.trans (congrArg some (by kernel_rfl))
  f266 := Tryz.func95.trans (congrArg some (by kernel_rfl))
  t3 := Tryz.underlying3
  a3 := Tryz.isAgg3
  z3 := Tryz.sizeOf3
  v3 := Tryz.zeroValue3
  t5 := Tryz.underlying5
  a5 := Tryz.isAgg5
  z5 := Tryz.sizeOf5
  v5 := Tryz.zeroValue5
  t9 := Tryz.underlying9
  a9 := Tryz.isAgg9
  z9 := Tryz.sizeOf9
  v9 := Tryz.zeroValue9 }
open Go.RowKit in
/-- strings.IndexByte: "IndexByte returns the index of the first instance of c in s, or -1 if c is not present in s.": IT RETURNS 'Lib.indexByte s c'; the world is as it was. (LAID: no walk: one application.) -/
theorem Tryz.strings_IndexByte (s : ByteArray) (c : Int) (w : World) :
    Calls Tryz.prog 54 #[.string s, .int .u8 c] w fun e w' => e = .returned (.int .i64 (Lib.indexByte s.data.toList c.toNat.toUInt8)) ∧ w' = w := Any.strings_IndexByte Tryz.lays137 s c w
open Go.RowKit in
/-- (*strings.Builder).String: "String returns the accumulated string.": OF A BUILDER THAT HOLDS AT LEAST ONE BYTE. ✋ THE MODEL FREEZES THOSE BYTES IN THE BUFFER (unsafe.String): a later write INTO them ends the model's run without an answer; a later append BEHIND them goes on. The statement's order of evaluation is drawn: one draw. THE FORM '_k': OVER 'Lib.IsBuilderF' (a builder that 'String()' may have read), AND WITH THE FRAME THAT REACHES ABOVE THE BUILDER: 'Lib.OthersKept': every block that is not b and is no row of uint8's stands as it stood: the iterator of a range among them. (LAID: no walk: one application.) -/
theorem Tryz.Builder_String_k (B b : Nat) (l : List UInt8) (w : World) (h : Lib.IsBuilderF 75 5 B b (Lib.byteCells l) w) (h0 : l ≠ []) :
    Calls Tryz.prog 49 #[.pointer (some ⟨b, 0, none⟩)] w fun e w' => e = .returned (.string ⟨l.toArray⟩) ∧ (Lib.IsBuilderF 75 5 B b (Lib.byteCells l) w' ∧ Below B w w' ∧ Lib.OthersKept 5 (some b) w w') := Any.Builder_String_k Tryz.lays169 Tryz.Builder_Extra_169 B b l w h h0
open Go.RowKit in
/-- (*strings.Builder).String OF A BUILDER THAT HOLDS NO BYTE: the empty string; THE FORM '_k': OVER 'Lib.IsBuilderF' (a builder that 'String()' may have read), AND WITH THE FRAME THAT REACHES ABOVE THE BUILDER: 'Lib.OthersKept': every block that is not b and is no row of uint8's stands as it stood: the iterator of a range among them. (LAID: no walk: one application.) -/
theorem Tryz.Builder_String_empty_k (B b : Nat) (w : World) (h : Lib.IsBuilderF 75 5 B b [] w) (hBw : B ≤ w.heap.size) :
    Calls Tryz.prog 49 #[.pointer (some ⟨b, 0, none⟩)] w fun e w' => e = .returned (.string ⟨#[]⟩) ∧ (Lib.IsBuilderF 75 5 B b [] w' ∧ Below B w w' ∧ Lib.OthersKept 5 (some b) w w') := Any.Builder_String_empty_k Tryz.lays169 Tryz.Builder_Extra_169 B b w h hBw
open Go.RowKit in
/-- (*strings.Builder).String: "String returns the accumulated string.": WHATEVER THE BUILDER HOLDS; THE FORM '_k': OVER 'Lib.IsBuilderF' (a builder that 'String()' may have read), AND WITH THE FRAME THAT REACHES ABOVE THE BUILDER: 'Lib.OthersKept': every block that is not b and is no row of uint8's stands as it stood: the iterator of a range among them. (LAID: no walk: one application.) -/
theorem Tryz.Builder_String_any_k (B b : Nat) (l : List UInt8) (w : World) (h : Lib.IsBuilderF 75 5 B b (Lib.byteCells l) w) (hBw : B ≤ w.heap.size) :
    Calls Tryz.prog 49 #[.pointer (some ⟨b, 0, none⟩)] w fun e w' => e = .returned (.string ⟨l.toArray⟩) ∧ (Lib.IsBuilderF 75 5 B b (Lib.byteCells l) w' ∧ Below B w w' ∧ Lib.OthersKept 5 (some b) w w') := Any.Builder_String_any_k Tryz.lays169 Tryz.Builder_Extra_169 B b l w h hBw
def Tryz.laysM316_ren : Go.Shelf.Ren := ⟨fun | 316 => 94 | n => n, fun | 9 => 9 | 3 => 3 | 4 => 4 | 37 => 73 | 0 => 0 | 127 => 94 | 5 => 5 | n => n, fun | n => n⟩
theorem Tryz.laysM316 : Go.Proofs.LaysM.n316 Tryz.prog Tryz.laysM316_ren := {
  mixed := by kernel_rfl
  f316 := Tryz.func94.trans (congrArg some (by kernel_rfl))
  t0 := Tryz.underlying0
  a0 := Tryz.isAgg0
  z0 := Tryz.sizeOf0
  v0 := Tryz.zeroValue0
  t3 := Tryz.underlying3
  a3 := Tryz.isAgg3
  z3 := Tryz.sizeOf3
  v3 := Tryz.zeroValue3
  t4 := Tryz.underlying4
  a4 := Tryz.isAgg4
  z4 := Tryz.sizeOf4
  v4 := Tryz.zeroValue4
  t9 := Tryz.underlying9
  a9 := Tryz.isAgg9
  z9 := Tryz.sizeOf9
  v9 := Tryz.zeroValue9
  t37 := Tryz.underlying73
  a37 := Tryz.isAgg73
  z37 := Tryz.sizeOf73
  v37 := Tryz.zeroValue73
  t127 := Tryz.underlying94
  a127 := Tryz.isAgg94
  z127 := Tryz.sizeOf94
  v127 := Tryz.zeroValue94
  t5 := Tryz.underlying5
  a5 := Tryz.isAgg5
  z5 := Tryz.sizeOf5
  v5 := Tryz.zeroValue5
  i0 := by kernel_rfl
  i3 := by kernel_rfl
  i4 := by kernel_rfl
  i5 := by kernel_rfl
  i9 := by kernel_rfl
  i37 := by kernel_rfl
  i127 := by kernel_rfl }
open Go.RowKit in
/-- internal/stringslite.Clone (what strings.Clone calls): "Clone returns a fresh copy of s.": THE SAME BYTES. Of what was there nothing has turned (a new row is laid, and frozen, where s is not empty). (LAID: no walk: one application.) -/
theorem Tryz.stringslite_Clone (s : ByteArray) (w : World) (hlim : s.size ≤ 281474976710656) :
    Calls Tryz.prog 94 #[.string s] w fun e w' => e = .returned (.string s) ∧ Below w.heap.size w w' := Any.stringslite_Clone Tryz.laysM316 s w hlim
def Tryz.lays145_ren : Go.Shelf.Ren := ⟨fun | 145 => 73 | 220 => 92 | 219 => 102 | 217 => 76 | 225 => 111 | 224 => 112 | 267 => 113 | 266 => 95 | 314 => 119 | n => n, fun | 9 => 9 | 4 => 4 | 59 => 95 | 3 => 3 | 5 => 5 | 46 => 106 | 146 => 125 | 51 => 124 | n => n, fun | 1 => 1 | n => n⟩
theorem Tryz.lays145 : Go.Proofs.Lays.n145 Tryz.prog Tryz.lays145_ren := {
  mixed := by kernel_rfl
  f145 := Tryz.func73.trans (congrArg some (by kernel_rfl))
  f217 := Tryz.func76.trans (congrArg some (by kernel_rfl))
  f219 := Tryz.func102.trans (congrArg some (by kernel_rfl))
  f220 := Tryz.func92.trans (congrArg some (by kernel_rfl))
  f224 := Tryz.func112.trans (congrArg some (by kernel_rfl))
  f225 := Tryz.func111.trans (congrArg some (by kernel_rfl))
  f266 := Tryz.func95.trans (congrArg some (by kernel_rfl))
  f267 := Tryz.func113.trans (congrArg some (by kernel_rfl))
  f314 := Tryz.func119.trans (congrArg some (by kernel_rfl))
  t3 := Tryz.underlying3
  a3 := Tryz.isAgg3
  z3 := Tryz.sizeOf3
  v3 := Tryz.zeroValue3
  t4 := Tryz.underlying4
  a4 := Tryz.isAgg4
  z4 := Tryz.sizeOf4
  v4 := Tryz.zeroValue4
  t5 := Tryz.underlying5
  a5 := Tryz.isAgg5
  z5 := Tryz.sizeOf5
  v5 := Tryz.zeroValue5
  t9 := Tryz.underlying9
  a9 := Tryz.isAgg9
  z9 := Tryz.sizeOf9
  v9 := Tryz.zeroValue9
  t46 := Tryz.underlying106
  a46 := Tryz.isAgg106
  z46 := Tryz.sizeOf106
  v46 := Tryz.zeroValue106
  t51 := Tryz.underlying124
  a51 := Tryz.isAgg124
  z51 := Tryz.sizeOf124
  v51 := Tryz.zeroValue124
  t59 := Tryz.underlying95
  a59 := Tryz.isAgg95
  z59 := Tryz.sizeOf95
  v59 := Tryz.zeroValue95
  t146 := Tryz.underlying125
  a146 := Tryz.isAgg125
  z146 := Tryz.sizeOf125
  v146 := Tryz.zeroValue125
  g1 := by kernel_rfl }
open Go.RowKit Go.Lib in
/-- strings.Cut: "Cut slices s around the first instance of sep, returning the text before and after sep. The found result reports whether sep appears in s. If sep does not appear in s, cut returns s, "", false.": IT RETURNS 'Lib.cut s sep'; the world is as it was but for the count of draws. (LAID: no walk: one application.) -/
theorem Tryz.strings_Cut (s sep : ByteArray) (m : Int) (w : World) (hs : s.size < 4294967281) (hm : w.cell? ⟨1, 0, none⟩ = some (.int .i64 m)) :
    Calls Tryz.prog 73 #[.string s, .string sep] w fun e w' => e = .returned (.tuple #[.string ⟨(Lib.cut s.data.toList sep.data.toList).1.toArray⟩, .string ⟨(Lib.cut s.data.toList sep.data.toList).2.1.toArray⟩, .bool (Lib.cut s.data.toList sep.data.toList).2.2]) ∧ ∃ n, w' = w.drewN n := Any.strings_Cut Tryz.lays145 s sep m w hs hm
def Tryz.lays102_ren : Go.Shelf.Ren := ⟨fun | 102 => 74 | 209 => 93 | 207 => 103 | n => n, fun | 9 => 9 | 4 => 4 | 3 => 3 | n => n, fun | n => n⟩
theorem Tryz.lays102 : Go.Proofs.Lays.n102 Tryz.prog Tryz.lays102_ren := {
  mixed := by kernel_rfl
  f102 := Tryz.func74.trans (congrArg some (by kernel_rfl))
  f207 := Tryz.func103.trans (congrArg some (by kernel_rfl))
  f209 := Tryz.func93.trans (congrArg some (by kernel_rfl))
  t3 := Tryz.underlying3
  a3 := Tryz.isAgg3
  z3 := Tryz.sizeOf3
  v3 := Tryz.zeroValue3
  t4 := Tryz.underlying4
  a4 := Tryz.isAgg4
  z4 := Tryz.sizeOf4
  v4 := Tryz.zeroValue4
  t9 := Tryz.underlying9
  a9 := Tryz.isAgg9
  z9 := Tryz.sizeOf9
  v9 := Tryz.zeroValue9 }
open Go.RowKit Go.Lib in
/-- strings.TrimSuffix: "TrimSuffix returns s without the provided trailing suffix string. If s doesn't end with suffix, s is returned unchanged.": IT RETURNS 'Lib.trimSuffix s suffix'; the world is as it was. (LAID: no walk: one application.) -/
theorem Tryz.strings_TrimSuffix (s p : ByteArray) (w : World) (hs : s.size ≤ 9223372036854775807) :
    Calls Tryz.prog 74 #[.string s, .string p] w fun e w' => e = .returned (.string ⟨(Lib.trimSuffix s.data.toList p.data.toList).toArray⟩) ∧ w' = w := Any.strings_TrimSuffix Tryz.lays102 s p w hs
def Tryz.lays152_ren : Go.Shelf.Ren := ⟨fun | 152 => 123 | 137 => 54 | 119 => 127 | 224 => 112 | 225 => 111 | 217 => 76 | 266 => 95 | n => n, fun | 9 => 9 | 21 => 21 | 3 => 3 | 4 => 4 | 5 => 5 | 0 => 0 | 46 => 106 | n => n, fun | n => n⟩
theorem Tryz.lays152 : Go.Proofs.Lays.n152 Tryz.prog Tryz.lays152_ren := {
  mixed := by kernel_rfl
  f119 := Tryz.func127.trans (congrArg some (by kernel_rfl))
  f137 := Tryz.func54.trans (congrArg some (by kernel_rfl))
  f152 := Tryz.func123.trans (congrArg some (by kernel_rfl))
  f217 := Tryz.func76.trans (congrArg some (by kernel_rfl))
  f224 := Tryz.func112.trans (congrArg some (by kernel_rfl))
  f225 := Tryz.func111.trans (congrArg some (by kernel_rfl))
  f266 := Tryz.func95.trans (congrArg some (by kernel_rfl))
  t0 := Tryz.underlying0
  a0 := Tryz.isAgg0
  z0 := Tryz.sizeOf0
  v0 := Tryz.zeroValue0
  t3 := Tryz.underlying3
  a3 := Tryz.isAgg3
  z3 := Tryz.sizeOf3
  v3 := Tryz.zeroValue3
  t4 := Tryz.underlying4
  a4 := Tryz.isAgg4
  z4 := Tryz.sizeOf4
  v4 := Tryz.zeroValue4
  t5 := Tryz.underlying5
  a5 := Tryz.isAgg5
  z5 := Tryz.sizeOf5
  v5 := Tryz.zeroValue5
  t9 := Tryz.underlying9
  a9 := Tryz.isAgg9
  z9 := Tryz.sizeOf9
  v9 := Tryz.zeroValue9
  t21 := Tryz.underlying21
  a21 := Tryz.isAgg21
  z21 := Tryz.sizeOf21
  v21 := Tryz.zeroValue21
  t46 := Tryz.underlying106
  a46 := Tryz.isAgg106
  z46 := Tryz.sizeOf106
  v46 := Tryz.zeroValue106 }
open Go.RowKit Go.Lib in
theorem Tryz.strings_IndexRune_ascii (s : ByteArray) (r : Int) (w : World) (h0 : 0 ≤ r) (h1 : r < 128) :
    Calls Tryz.prog 123 #[.string s, .int .i32 r] w fun e w' => e = .returned (.int .i64 (Lib.indexByte s.data.toList r.toNat.toUInt8)) ∧ w' = w := Any.strings_IndexRune_ascii Tryz.lays152 s r w h0 h1
def Tryz.lays226_ren : Go.Shelf.Ren := ⟨fun | 226 => 124 | n => n, fun | 3 => 3 | 4 => 4 | n => n, fun | n => n⟩
theorem Tryz.lays226 : Go.Proofs.Lays.n226 Tryz.prog Tryz.lays226_ren := {
  mixed := by kernel_rfl
  f226 := Tryz.func124.trans (congrArg some (by kernel_rfl))
  t3 := Tryz.underlying3
  a3 := Tryz.isAgg3
  z3 := Tryz.sizeOf3
  v3 := Tryz.zeroValue3
  t4 := Tryz.underlying4
  a4 := Tryz.isAgg4
  z4 := Tryz.sizeOf4
  v4 := Tryz.zeroValue4 }
open Go.RowKit Go.Lib in
theorem Tryz.strings_shouldUseASCIISet (n : Int) (w : World) :
    Calls Tryz.prog 124 #[.int .i64 n] w fun e w' => e = .returned (.bool (decide (8 < n))) ∧ w' = w := Any.strings_shouldUseASCIISet Tryz.lays226 n w
def Tryz.lays153_ren : Go.Shelf.Ren := ⟨fun | 153 => 118 | 152 => 123 | 226 => 124 | 227 => 125 | 228 => 126 | 137 => 54 | 119 => 127 | 224 => 112 | 225 => 111 | 217 => 76 | 266 => 95 | n => n, fun | 9 => 9 | 3 => 3 | 4 => 4 | 5 => 5 | 21 => 21 | 117 => 138 | 116 => 137 | 0 => 0 | 46 => 106 | 124 => 145 | n => n, fun | n => n⟩
theorem Tryz.lays153 : Go.Proofs.Lays.n153 Tryz.prog Tryz.lays153_ren := {
  mixed := by kernel_rfl
  f119 := Tryz.func127.trans (congrArg some (by kernel_rfl))
  f137 := Tryz.func54.trans (congrArg some (by kernel_rfl))
  f152 := Tryz.func123.trans (congrArg some (by kernel_rfl))
  f153 := Tryz.func118.trans (congrArg some (by kernel_rfl))
  f217 := Tryz.func76.trans (congrArg some (by kernel_rfl))
  f224 := Tryz.func112.trans (congrArg some (by kernel_rfl))
  f225 := Tryz.func111.trans (congrArg some (by kernel_rfl))
  f226 := Tryz.func124.trans (congrArg some (by kernel_rfl))
  f227 := Tryz.func125.trans (congrArg some (by kernel_rfl))
  f228 := Tryz.func126.trans (congrArg some (by kernel_rfl))
  f266 := Tryz.func95.trans (congrArg some (by kernel_rfl))
  t0 := Tryz.underlying0
  a0 := Tryz.isAgg0
  z0 := Tryz.sizeOf0
  v0 := Tryz.zeroValue0
  t3 := Tryz.underlying3
  a3 := Tryz.isAgg3
  z3 := Tryz.sizeOf3
  v3 := Tryz.zeroValue3
  t4 := Tryz.underlying4
  a4 := Tryz.isAgg4
  z4 := Tryz.sizeOf4
  v4 := Tryz.zeroValue4
  t5 := Tryz.underlying5
  a5 := Tryz.isAgg5
  z5 := Tryz.sizeOf5
  v5 := Tryz.zeroValue5
  t9 := Tryz.underlying9
  a9 := Tryz.isAgg9
  z9 := Tryz.sizeOf9
  v9 := Tryz.zeroValue9
  t21 := Tryz.underlying21
  a21 := Tryz.isAgg21
  z21 := Tryz.sizeOf21
  v21 := Tryz.zeroValue21
  t46 := Tryz.underlying106
  a46 := Tryz.isAgg106
  z46 := Tryz.sizeOf106
  v46 := Tryz.zeroValue106
  t116 := Tryz.underlying137
  a116 := Tryz.isAgg137
  z116 := Tryz.sizeOf137
  t117 := Tryz.underlying138
  a117 := Tryz.isAgg138
  z117 := Tryz.sizeOf138
  v117 := Tryz.zeroValue138
  t124 := Tryz.underlying145
  a124 := Tryz.isAgg145
  z124 := Tryz.sizeOf145
  v124 := Tryz.zeroValue145 }
open Go.RowKit Go.Lib in
theorem Tryz.strings_IndexAny_long (hv116 : ∀ w, (zeroValue 137).run Tryz.prog w = .ok (.agg (Array.replicate 256 (.bool false))) w) (s chars : ByteArray) (w : World) (h2 : 2 ≤ chars.size) (h8 : 8 < s.size) (hs : s.size < 4294967281) (hcs : chars.size < 4294967281) (hascii : ∀ (j : Nat) b, chars.data.toList[j]? = some b → b.toNat < 128) :
    Calls Tryz.prog 118 #[.string s, .string chars] w fun e w' => e = .returned (.int .i64 (Lib.indexAny s.data.toList chars.data.toList)) ∧ w' = ((w.alloc (.cells (Lib.setCells chars.data.toList) 137)).alloc (.cells (Lib.setCells chars.data.toList) 137)) := Any.strings_IndexAny_long Tryz.lays153 hv116 (by kernel_rfl) s chars w h2 h8 hs hcs hascii
def Tryz.laysSlE33_f62_ren : Go.Shelf.Ren := ⟨fun | 33 => 71 | n => n, fun | 22 => 46 | 23 => 9 | 4 => 4 | 3 => 3 | 0 => 0 | n => n, fun | n => n⟩
theorem Tryz.laysSlE33_f62 : Go.Proofs.SlLaysE.n33 Tryz.prog Tryz.laysSlE33_f62_ren := {
  mixed := by kernel_rfl
  f33 := ⟨Tryz.f71.name, by decide, Tryz.func71.trans (congrArg some (by kernel_rfl))⟩
  t0 := Tryz.underlying0
  a0 := Tryz.isAgg0
  z0 := Tryz.sizeOf0
  v0 := Tryz.zeroValue0
  t3 := Tryz.underlying3
  a3 := Tryz.isAgg3
  z3 := Tryz.sizeOf3
  v3 := Tryz.zeroValue3
  t4 := Tryz.underlying4
  a4 := Tryz.isAgg4
  z4 := Tryz.sizeOf4
  v4 := Tryz.zeroValue4
  t22 := Tryz.underlying46
  a22 := Tryz.isAgg46
  z22 := Tryz.sizeOf46
  v22 := Tryz.zeroValue46
  a23 := Tryz.isAgg9
  z23 := Tryz.sizeOf9 }
open Go.RowKit Go.Lib in
/-- slices.Equal: "Equal reports whether two slices are equal: the same length and all elements equal. .. Empty and nil slices are considered equal. Floating point NaNs are not considered equal.": IT RETURNS 'Lib.allEq eq (the one's elements) (the other's)'; the world is as it was but for the count of draws. (LAID AT THE INSTANCE 'slices.Equal[[]string,string]': no walk: one application.) -/
theorem Tryz.slices_Equal {α : Type} [Inhabited α] (enc : α → Value) (eq : α → α → Bool) (hne : NeqAt Tryz.prog 9 enc eq) (b1 o1 n c b2 o2 m d : Nat) (xs ys : List α) (w : World) (hx : n ≤ xs.length) (hy : m ≤ ys.length) (hbig : n ≤ 9223372036854775807) (hbig2 : m ≤ 9223372036854775807) (hc1 : ∀ j, j < xs.length → w.cell? ⟨b1, o1 + j, none⟩ = some (enc xs[j]!)) (hc2 : ∀ j, j < ys.length → w.cell? ⟨b2, o2 + j, none⟩ = some (enc ys[j]!)) :
    Calls Tryz.prog 71 #[.slice (some ⟨b1, o1, none⟩) n c, .slice (some ⟨b2, o2, none⟩) m d] w fun e w' => e = .returned (.bool (Lib.allEq eq (xs.take n) (ys.take m))) ∧ ∃ q, w' = w.drewN q := AnyE.slices_Equal Tryz.laysSlE33_f62 enc eq hne b1 o1 n c b2 o2 m d xs ys w hx hy hbig hbig2 hc1 hc2
open Go.RowKit Go.Lib in
theorem Tryz.Builder_WriteString_k (B b : Nat) (bs : List Value) (s : ByteArray) (w : World) (h : Lib.IsBuilderF 75 5 B b bs w) (hlen : bs.length + s.size ≤ 140737488355328) (hBw : B ≤ w.heap.size) :
    Calls Tryz.prog 48 #[.pointer (some ⟨b, 0, none⟩), .string s] w fun e w' => e = .returned (.tuple #[.int .i64 s.size, .nilIface]) ∧ (Lib.BuilderAtF 75 5 B b (.pointer (some ⟨b, 0, none⟩)) (bs ++ Lib.strCells s) w' ∧ Below B w w' ∧ Lib.OthersKept 5 (some b) w w') :=
  Any.Builder_WriteString_k (P := Tryz.prog) (ρ := Tryz.lays158_ren) { Tryz.lays158 with } Tryz.Builder_Extra_158 B b bs s w h hlen hBw
end Go.Proofs

/-
  The program's small functions of layer 11: which bytes may stand where, what has only such ones, names.
-/
namespace Go.Proofs.YtlfhhnjdfpgadaaGreatDoor
open Go.RowKit

/-- A byte of a name in great letters. -/
def grN (n : Nat) : Bool := (decide (65 ≤ n) && decide (n ≤ 90)) || (decide (48 ≤ n) && decide (n ≤ 57)) || decide (n = 45)
def stN (n : Nat) : Bool := (decide (32 ≤ n) || decide (n = 9)) && !decide (n = 127)
def qtN (n : Nat) : Bool := stN n && !decide (n = 34)
def brN (n : Nat) : Bool := qtN n && (!decide (n = 44) && !decide (n = 59) && !decide (n = 58))
def mkN (n : Nat) : Bool := decide (n = 44) || decide (n = 59) || decide (n = 58)
theorem st_ctl (n : Nat) : stN n = !ctlN n := by
  unfold stN ctlN
  by_cases h1 : n < 32 <;> by_cases h2 : n = 9 <;> by_cases h3 : n = 127 <;> simp [h1, h2, h3] <;> omega
theorem qt_qv (c : UInt8) : qtN c.toNat = qvC c := by unfold qtN qvC; rw [st_ctl, Bool.and_comm]
theorem br_uv (c : UInt8) : brN c.toNat = uvC c := by unfold brN uvC; rw [qt_qv]
theorem nb_gr (n : Nat) : nbN n = (grN n || (decide (97 ≤ n) && decide (n ≤ 122))) := by
  unfold nbN letN digN grN
  generalize decide (65 ≤ n) = a1
  generalize decide (n ≤ 90) = a2
  generalize decide (48 ≤ n) = a3
  generalize decide (n ≤ 57) = a4
  generalize decide (n = 45) = a5
  generalize decide (97 ≤ n) = a6
  generalize decide (n ≤ 122) = a7
  revert a1 a2 a3 a4 a5 a6 a7
  decide
set_option maxHeartbeats 1000000 in
theorem pGreat_any (n : Nat) (hn : n < 256) (w : World) :
    Calls Tryz.prog 96 #[.int .u8 n] w fun e w' => e = .returned (.bool (grN n)) ∧ w' = w := by
  by_cases h5 : n = 45
  · subst h5
    go_enter Tryz.func96, Tryz.ntmps96
    go_wp2
    go_ret
    exact ⟨rfl, rfl⟩
  have b5 : ((n : Int) == 45) = false := by rw [beq_eq_false_iff_ne]; omega
  by_cases h1 : 65 ≤ n <;> by_cases h2 : n ≤ 90 <;> by_cases h3 : 48 ≤ n <;> by_cases h4 : n ≤ 57
  all_goals first
    | (exfalso; omega)
    | (go_enter Tryz.func96, Tryz.ntmps96
       go_wp2
       go_ret
       refine ⟨?_, rfl⟩
       simp [grN, h1, h2, h3, h4, h5] <;> omega)
set_option maxHeartbeats 1000000 in
theorem pName_any1 (n : Nat) (hn : n < 256) (w : World) :
    Calls Tryz.prog 78 #[.int .u8 n] w fun e w' => e = .returned (.bool (nbN n)) ∧ w' = w := by
  have cg := fun W => pGreat_any n hn W
  have e := Lib.hid (nb_gr n)
  generalize grN n = g at *
  by_cases h1 : 97 ≤ n <;> by_cases h2 : n ≤ 122 <;> cases g
  all_goals first
    | (exfalso; omega)
    | (go_enter Tryz.func78, Tryz.ntmps78
       go_wp2_with (go_at_call 96; ((with_reducible refine (cg _).mono ?_); rintro e w' ⟨rfl, hw⟩; subst w'))
       go_ret
       refine ⟨?_, rfl⟩
       simp [e.out, h1, h2] <;> omega)
set_option maxHeartbeats 1000000 in
theorem pStand_any (n : Nat) (hn : n < 256) (w : World) :
    Calls Tryz.prog 81 #[.int .u8 n] w fun e w' => e = .returned (.bool (stN n)) ∧ w' = w := by
  by_cases h2 : n = 9
  · subst h2
    go_enter Tryz.func81, Tryz.ntmps81
    go_wp2
    go_ret
    exact ⟨rfl, rfl⟩
  by_cases h3 : n = 127
  · subst h3
    go_enter Tryz.func81, Tryz.ntmps81
    go_wp2
    go_ret
    exact ⟨rfl, rfl⟩
  have b2 : ((n : Int) == 9) = false := by rw [beq_eq_false_iff_ne]; omega
  have b3 : ((n : Int) != 127) = true := by rw [bne_iff_ne]; omega
  have b4 : ((n : Int) == 127) = false := by rw [beq_eq_false_iff_ne]; omega
  by_cases h1 : 32 ≤ n
  all_goals
    (go_enter Tryz.func81, Tryz.ntmps81
     go_wp2
     go_ret
     refine ⟨?_, rfl⟩
     simp [stN, h1, h2, h3])
set_option maxHeartbeats 1000000 in
theorem pQuote_any (n : Nat) (hn : n < 256) (w : World) :
    Calls Tryz.prog 80 #[.int .u8 n] w fun e w' => e = .returned (.bool (qtN n)) ∧ w' = w := by
  have cg := fun W => pStand_any n hn W
  have e := Lib.hid (show qtN n = (stN n && !decide (n = 34)) from rfl)
  generalize stN n = g at *
  by_cases h1 : n = 34
  · have b3 : ((n : Int) != 34) = false := by simp [h1]
    have b4 : ((n : Int) == 34) = true := by simp [h1]
    have H1 := Lib.hid h1
    clear h1
    cases g
    all_goals
      (go_enter Tryz.func80, Tryz.ntmps80
       go_wp2_with (go_at_call 81; ((with_reducible refine (cg _).mono ?_); rintro e w' ⟨rfl, hw⟩; subst w'))
       go_ret
       refine ⟨?_, rfl⟩
       rw [e.out, decide_eq_true H1.out]
       rfl)
  · have b3 : ((n : Int) != 34) = true := by rw [bne_iff_ne]; omega
    have b4 : ((n : Int) == 34) = false := by rw [beq_eq_false_iff_ne]; omega
    cases g
    all_goals
      (go_enter Tryz.func80, Tryz.ntmps80
       go_wp2_with (go_at_call 81; ((with_reducible refine (cg _).mono ?_); rintro e w' ⟨rfl, hw⟩; subst w'))
       go_ret
       refine ⟨?_, rfl⟩
       simp [e.out, h1])
/-- What IndexByte tells of the marks. -/
theorem marks_ix (n : Nat) (hn : n < 256) : (decide (Lib.indexByte [44, 59, 58] (UInt8.ofNat n) < 0) = !mkN n) ∧ (decide (0 ≤ Lib.indexByte [44, 59, 58] (UInt8.ofNat n)) = mkN n) := by
  have : ∀ x : Fin 256, (decide (Lib.indexByte [44, 59, 58] (UInt8.ofNat x.val) < 0) = !mkN x.val) ∧ (decide (0 ≤ Lib.indexByte [44, 59, 58] (UInt8.ofNat x.val)) = mkN x.val) := by decide +kernel
  exact this ⟨n, hn⟩
set_option maxHeartbeats 1000000 in
theorem pBare_any (n : Nat) (hn : n < 256) (w : World) :
    Calls Tryz.prog 79 #[.int .u8 n] w fun e w' => e = .returned (.bool (brN n)) ∧ w' = w := by
  have cg := fun W => pQuote_any n hn W
  have hx := (marks_ix n hn).1
  have ci := fun W => Tryz.strings_IndexByte ⟨#[44, 59, 58]⟩ n W
  have e : Hid (brN n = (qtN n && !mkN n)) := Lib.hid (by unfold brN mkN; simp [Bool.and_assoc])
  rw [show ((n : Int)).toNat.toUInt8 = UInt8.ofNat n from by simp] at ci
  rw [show (⟨#[44, 59, 58]⟩ : ByteArray).data.toList = [44, 59, 58] from rfl] at ci
  generalize Lib.indexByte [44, 59, 58] (UInt8.ofNat n) = ix at *
  generalize qtN n = g at *
  generalize mkN n = k at *
  cases g <;> cases k
  all_goals
    (simp only [Bool.not_true, Bool.not_false] at hx
     go_enter Tryz.func79, Tryz.ntmps79
     go_wp2_with (first
       | (go_at_call 80; ((with_reducible refine (cg _).mono ?_); rintro e w' ⟨rfl, hw⟩; subst w'))
       | (go_at_call 54; ((with_reducible refine (ci _).mono ?_); rintro e w' ⟨rfl, hw⟩; subst w')))
     go_ret
     refine ⟨?_, rfl⟩
     simp [e.out])
set_option maxHeartbeats 1000000 in
/-- Whether all bytes of a text are such ones. -/
theorem hasOnly_any (g : Nat) (p : UInt8 → Bool) (eg : ∀ args W, (callFunc g args).run Tryz.prog W = .ok (.enter g args) W) (hp : ∀ (c : UInt8) (W : World), Calls Tryz.prog g #[.int .u8 c.toNat] W fun e w' => e = .returned (.bool (p c)) ∧ w' = W) (s : ByteArray) (hs : s.size ≤ 16777216) (w : World) :
    Calls Tryz.prog 89 #[.string s, .func (.func g) #[] #[]] w fun e w' => e = .returned (.bool (s.data.toList.all p)) ∧ w' = w := by
  have hlen := Lib.hid (bsize s)
  obtain ⟨B, hB⟩ : ∃ B, B = s.data.toList.all p := ⟨_, rfl⟩
  rw [← hB]
  have HB := Lib.hid hB
  clear hB
  go_enter Tryz.func89, Tryz.ntmps89
  go_wp2
  go_loop [8] (fun q => ∃ k : Nat, q = .int .i64 k ∧ k ≤ s.size ∧ Hid (B = (s.data.toList.drop k).all p)) (fun q => s.size - (intOf q).toNat)
  case atStart => exact ⟨0, rfl, Nat.zero_le _, Lib.hid (by rw [HB.out]; simp)⟩
  case round =>
    obtain ⟨k, rfl, hk, HK⟩ := hrel
    by_cases hlt : k < s.size
    · have hd : Hid ((s.data.toList.drop k).all p = (p s[k] && (s.data.toList.drop (k + 1)).all p)) := Lib.hid (by
        rw [List.drop_eq_getElem_cons (by rw [← hlen.out]; exact hlt), List.all_cons]; rfl)
      have cp := fun W => hp s[k] W
      generalize hpk : p s[k] = b at *
      cases b
      · have HE := Lib.hid (HK.out.trans hd.out)
        simp only [Bool.false_and] at HE
        clear HK hd
        go_wp2_with (go_at_fn g; ((with_reducible refine (cp _).mono ?_); rintro e w' ⟨rfl, hw⟩; subst w'))
        go_ret
        exact ⟨by rw [HE.out]; rfl, rfl⟩
      · have HE := Lib.hid (HK.out.trans hd.out)
        simp only [Bool.true_and] at HE
        clear HK hd
        go_wp2_with (go_at_fn g; ((with_reducible refine (cp _).mono ?_); rintro e w' ⟨rfl, hw⟩; subst w'))
        go_round
        case rel => exact ⟨k + 1, by go_num, by omega, HE⟩
        case measure => simp [intOf]; omega
    · obtain rfl : k = s.size := by omega
      go_wp2
      go_ret
      refine ⟨?_, rfl⟩
      rw [HK.out, List.drop_eq_nil_of_le (by rw [← hlen.out]; exact Nat.le_refl _)]
      rfl
end Go.Proofs.YtlfhhnjdfpgadaaGreatDoor

/-
  Plain mathematics for layer 11: the width of the number that the model reads at a place of a text is the document's; a line cut into pieces.
-/
namespace Go.Proofs.YtlfhhnjdfpgadaaGreatDoor
open Go.RowKit

/-- The bytes of a number, out of its first four bytes. -/
def runeN (b0 b1 b2 b3 : Nat) : Nat :=
  if b0 < 128 then 1
  else if 194 ≤ b0 ∧ b0 < 224 then (if 128 ≤ b1 ∧ b1 < 192 then 2 else 0)
  else if 224 ≤ b0 ∧ b0 < 240 then (if (128 ≤ b1 ∧ b1 < 192) ∧ (128 ≤ b2 ∧ b2 < 192) ∧ ¬ (b0 = 224 ∧ b1 < 160) ∧ ¬ (b0 = 237 ∧ 160 ≤ b1) then 3 else 0)
  else if 240 ≤ b0 ∧ b0 < 245 then (if (128 ≤ b1 ∧ b1 < 192) ∧ (128 ≤ b2 ∧ b2 < 192) ∧ (128 ≤ b3 ∧ b3 < 192) ∧ ¬ (b0 = 240 ∧ b1 < 144) ∧ ¬ (b0 = 244 ∧ 144 ≤ b1) then 4 else 0)
  else 0
theorem runeN_eq (l : List UInt8) : runeL l = runeN (byt l 0) (byt l 1) (byt l 2) (byt l 3) := by
  unfold runeL runeN
  simp only [cont_iff]
set_option maxHeartbeats 4000000 in
theorem dec_w (n b0 b1 b2 b3 : Nat) (h0 : b0 < 256) (k1 : ¬ 1 < n → b1 = 0) (k2 : ¬ 2 < n → b2 = 0) (k3 : ¬ 3 < n → b3 = 0) : (Lib.decodeN n b0 b1 b2 b3).2 = max 1 (runeN b0 b1 b2 b3) := by
  unfold Lib.decodeN runeN
  repeat' split
  all_goals first
    | rfl
    | (exfalso; omega)
theorem get_byt (s : ByteArray) (k : Nat) : (s.get! k).toNat = byt s.data.toList k := by
  unfold byt
  show (s.data[k]!).toNat = _
  rw [List.getD_eq_getElem?_getD, Array.getElem?_toList, getElem!_def]
  cases s.data[k]? <;> rfl
theorem byt_drop2 (l : List UInt8) (k i : Nat) : byt (l.drop k) i = byt l (k + i) := by
  unfold byt; simp [List.getD_eq_getElem?_getD]
/-- THE WIDTH IS THE DOCUMENT's. -/
theorem dec_step (s : ByteArray) (k : Nat) : (Utf8.decode s k).2 = stepL (s.data.toList.drop k) := by
  have hs := bsize s
  rw [Lib.decode_at, get_byt, get_byt, get_byt, get_byt]
  have out : ∀ j, s.size ≤ k + j → byt s.data.toList (k + j) = 0 := fun j h => byt_out (by omega)
  rw [dec_w _ _ _ _ _ (byt_lt _ _) (fun h => out 1 (by omega)) (fun h => out 2 (by omega)) (fun h => out 3 (by omega))]
  unfold stepL
  rw [runeN_eq, byt_drop2, byt_drop2, byt_drop2, byt_drop2]
  rfl
theorem dec_low (n b0 b1 b2 b3 : Nat) (h0 : 128 ≤ b0) : 128 ≤ (Lib.decodeN n b0 b1 b2 b3).1 ∧ (Lib.decodeN n b0 b1 b2 b3).1 ≤ 1114111 := by
  unfold Lib.decodeN
  rw [if_neg (by omega)]
  repeat' split
  all_goals (dsimp only; omega)
/-- A number above 127 stands where a byte above 127 does. -/
theorem dec_high (s : ByteArray) (k : Nat) (h : 128 ≤ byt s.data.toList k) : 128 ≤ (Utf8.decode s k).1 ∧ (Utf8.decode s k).1 ≤ 1114111 := by
  rw [Lib.decode_at]
  exact dec_low _ _ _ _ _ (by rw [get_byt]; exact h)
theorem dec_asc (s : ByteArray) (k : Nat) (h : byt s.data.toList k < 128) : Utf8.decode s k = (byt s.data.toList k, 1) := by
  rw [Lib.decode_at]
  unfold Lib.decodeN
  rw [if_pos (by rw [get_byt]; exact h), get_byt]

/-- Where a line is cut: the last of the places where numbers begin that is no further than so many bytes. -/
def cutF : Nat → List UInt8 → Nat → Nat → Nat → Nat
  | 0, _, _, _, cut => cut
  | f + 1, l, at_, most, cut => if l = [] then cut else if most < at_ then cut else cutF f (l.drop (stepL l)) (at_ + stepL l) most at_
def cutL (l : List UInt8) (most : Nat) : Nat := if l.length ≤ most then l.length else cutF l.length l 0 most 0
/-- The pieces of a line, each with what stands ahead of it. -/
def pieF : Nat → List UInt8 → List UInt8 → List (List UInt8)
  | 0, l, ah => [ah ++ l]
  | f + 1, l, ah => if (cutL l (75 - ah.length)) = l.length then [ah ++ l] else (ah ++ l.take (cutL l (75 - ah.length))) :: pieF f (l.drop (cutL l (75 - ah.length))) [32]
def pieL (l : List UInt8) : List (List UInt8) := pieF l.length l []
theorem foldF_fuel : ∀ (f g : Nat) (l : List UInt8) (n : Nat), l.length ≤ f → l.length ≤ g → foldF f l n = foldF g l n
  | 0, g, l, n, h1, h2 => by
    have : l = [] := List.eq_nil_of_length_eq_zero (by omega)
    subst this
    cases g <;> simp [foldF]
  | f + 1, 0, l, n, h1, h2 => by
    have : l = [] := List.eq_nil_of_length_eq_zero (by omega)
    subst this
    simp [foldF]
  | f + 1, g + 1, l, n, h1, h2 => by
    by_cases h : l = []
    · subst h; simp [foldF]
    · have hp := stepL_pos l
      have h0 : 0 < l.length := List.length_pos_iff.2 h
      rw [foldF, foldF, if_neg h, if_neg h, foldF_fuel f g (l.drop (stepL l)) _ (by simp; omega) (by simp; omega), foldF_fuel f g (l.drop (stepL l)) _ (by simp; omega) (by simp; omega)]
/-- From a place of the line on: so much of it goes into the piece that is begun. -/
theorem fold_cut (most : Nat) (hm : 4 ≤ most) : ∀ (f : Nat) (l pre : List UInt8) (n cut : Nat), l.length ≤ f → n + most = 75 + pre.length → pre.length ≤ most → most < pre.length + l.length →
    ∃ k, cutF f l pre.length most cut = pre.length + k ∧ k ≤ l.length ∧ pre.length + k ≤ most ∧ most < pre.length + k + 4 ∧ foldF f l n = l.take k ++ 13 :: 10 :: 32 :: foldF l.length (l.drop k) 1
  | 0, l, pre, n, cut, h1, h2, h3, h4 => by omega
  | f + 1, l, pre, n, cut, h1, h2, h3, h4 => by
    have h0 : 0 < l.length := by omega
    have hne : l ≠ [] := List.length_pos_iff.1 h0
    have hp := stepL_pos l
    have hle := stepL_le hne
    have e : l.take (stepL l) ++ l.drop (stepL l) = l := List.take_append_drop _ _
    by_cases hb : most < pre.length + stepL l
    · refine ⟨0, ?_, by omega, by omega, by omega, ?_⟩
      · rw [cutF, if_neg hne, if_neg (by omega)]
        cases f with
        | zero => rfl
        | succ f =>
          rw [cutF]
          by_cases hd : l.drop (stepL l) = []
          · rw [if_pos hd]; rfl
          · rw [if_neg hd, if_pos hb]; rfl
      · rw [foldF, if_neg hne, if_pos (by omega)]
        simp only [List.take_zero, List.nil_append, List.drop_zero]
        congr 3
        obtain ⟨m, hm2⟩ : ∃ m, l.length = m + 1 := ⟨l.length - 1, by omega⟩
        rw [hm2, foldF, if_neg hne, if_neg (by omega), foldF_fuel f m (l.drop (stepL l)) _ (by simp; omega) (by simp; omega)]
    · have hl2 : (pre ++ l.take (stepL l)).length = pre.length + stepL l := by simp; omega
      obtain ⟨k, a1, a2, a3, a4, a5⟩ := fold_cut most hm f (l.drop (stepL l)) (pre ++ l.take (stepL l)) (n + stepL l) pre.length (by simp; omega) (by rw [hl2]; omega) (by rw [hl2]; omega) (by rw [hl2]; simp; omega)
      rw [hl2] at a1 a3 a4
      simp only [List.length_drop] at a2
      refine ⟨stepL l + k, ?_, by omega, by omega, by omega, ?_⟩
      · rw [cutF, if_neg hne, if_neg (by omega), a1]; omega
      · rw [foldF, if_neg hne, if_neg (by omega), a5, List.drop_drop, ← List.append_assoc]
        congr 1
        · rw [List.take_add]
        · congr 3
          exact foldF_fuel _ _ _ _ (by simp only [List.length_drop]; omega) (by simp only [List.length_drop]; omega)
theorem fold_all : ∀ (f : Nat) (l : List UInt8) (n : Nat), l.length ≤ f → n + l.length ≤ 75 → foldF f l n = l
  | 0, l, n, h1, h2 => by
    have : l = [] := List.eq_nil_of_length_eq_zero (by omega)
    subst this; rfl
  | f + 1, l, n, h1, h2 => by
    by_cases h : l = []
    · subst h; simp [foldF]
    · have hp := stepL_pos l
      have hle := stepL_le h
      rw [foldF, if_neg h, if_neg (by omega), fold_all f _ _ (by simp; omega) (by simp; omega), List.take_append_drop]
theorem cut_big {l : List UInt8} {most : Nat} (hm : 4 ≤ most) (hm2 : most ≤ 75) (h : most < l.length) : 0 < cutL l most ∧ cutL l most < l.length ∧ cutL l most ≤ most ∧ foldF l.length l (75 - most) = l.take (cutL l most) ++ 13 :: 10 :: 32 :: foldF l.length (l.drop (cutL l most)) 1 := by
  obtain ⟨k, a1, a2, a3, a4, a5⟩ := fold_cut most hm l.length l [] (75 - most) 0 (Nat.le_refl _) (by simp; omega) (by simp) (by simpa using h)
  have e : cutL l most = k := by
    unfold cutL
    rw [if_neg (by omega)]
    simpa using a1
  simp only [List.length_nil, Nat.zero_add] at a3 a4
  rw [e]
  exact ⟨by omega, by omega, a3, a5⟩
theorem cut_small {l : List UInt8} {most : Nat} (h : l.length ≤ most) : cutL l most = l.length := by unfold cutL; rw [if_pos h]
/-- The pieces, each ended, are the line folded. -/
theorem pie_fold : ∀ (f : Nat) (l ah : List UInt8), l.length ≤ f → ah.length ≤ 1 → (pieF f l ah).flatMap (fun x => x ++ [13, 10]) = ah ++ (foldF l.length l ah.length ++ [13, 10])
  | 0, l, ah, h1, h2 => by
    have : l = [] := List.eq_nil_of_length_eq_zero (by omega)
    subst this
    simp [pieF, foldF]
  | f + 1, l, ah, h1, h2 => by
    rw [pieF]
    by_cases h : l.length ≤ 75 - ah.length
    · rw [if_pos (cut_small h), fold_all _ _ _ (Nat.le_refl _) (by omega)]
      simp
    · obtain ⟨a1, a2, a3, a4⟩ := cut_big (l := l) (most := 75 - ah.length) (by omega) (by omega) (by omega)
      rw [if_neg (by omega), List.flatMap_cons, pie_fold f _ [32] (by simp; omega) (by simp)]
      rw [show 75 - (75 - ah.length) = ah.length from by omega] at a4
      rw [a4]
      generalize cutL l (75 - ah.length) = k at *
      rw [foldF_fuel (l.drop k).length l.length _ _ (Nat.le_refl _) (by simp)]
      simp
theorem pieL_fold (l : List UInt8) : (pieL l).flatMap (fun x => x ++ [13, 10]) = lineF l := by
  unfold pieL lineF
  rw [pie_fold _ _ _ (Nat.le_refl _) (by simp)]
  rfl
end Go.Proofs.YtlfhhnjdfpgadaaGreatDoor
