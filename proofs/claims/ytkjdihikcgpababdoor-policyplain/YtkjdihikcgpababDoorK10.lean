/-
  Contracts of the library, laid at this program.
-/
import Derived.Shelf.Strings.Builder1
import Derived.Shelf.Small.Utf8
import Derived.Shelf.Unicode.ValidAny
import Derived.Shelf.Small.Bits
import Derived.Shelf.Small.Strs
import Derived.Shelf.Strings.BuilderF
import Derived.Shelf.Strings.BuilderK
import Derived.Shelf.Strings.BuilderRune
import Derived.Shelf.Utf8.AppendRune
import Derived.Shelf.Utf8.AppendRunePlain
import Derived.Shelf.Strconv.Itoa0
import Derived.Shelf.Strconv.Itoa1
import Derived.Shelf.LaysM
import Derived.Shelf.Strconv.Itoa2
import Derived.Shelf.Strconv.Itoa3
import Derived.Shelf.Strings.Search1
import Derived.Shelf.Sort.Plain
import Derived.Shelf.Unicode.Decode
import Derived.Shelf.Strings.Runes
import Derived.Shelf.Unicode.DecodeSlow
import Derived.Shelf.Unicode.DecodeAny
import Derived.Shelf.Strings.BuilderCap
import Derived.Shelf.Slices.CompactS
import Derived.Shelf.Slices.Cells
import Derived.Shelf.Slices.In.SortNone
import Derived.Test.YtkjdihikcgpababDoorProg
import Derived.Test.YtkjdihikcgpababDoorK9
namespace Go.Proofs
open Go.Shelf
def Tryd.lays170_ren : Go.Shelf.Ren := ⟨fun | 170 => 67 | n => n, fun | 70 => 79 | 3 => 3 | 0 => 0 | 72 => 81 | 37 => 38 | 5 => 5 | n => n, fun | n => n⟩
theorem Tryd.lays170 : Go.Proofs.Lays.n170 Tryd.prog Tryd.lays170_ren := {
  mixed := by kernel_rfl
  f170 := Tryd.func67.trans (congrArg some (by kernel_rfl))
  t0 := Tryd.underlying0
  a0 := Tryd.isAgg0
  z0 := Tryd.sizeOf0
  v0 := Tryd.zeroValue0
  t3 := Tryd.underlying3
  a3 := Tryd.isAgg3
  z3 := Tryd.sizeOf3
  v3 := Tryd.zeroValue3
  t37 := Tryd.underlying38
  a37 := Tryd.isAgg38
  z37 := Tryd.sizeOf38
  v37 := Tryd.zeroValue38
  t70 := Tryd.underlying79
  a70 := Tryd.isAgg79
  z70 := Tryd.sizeOf79
  v70 := Tryd.zeroValue79
  t72 := Tryd.underlying81
  a72 := Tryd.isAgg81
  z72 := Tryd.sizeOf81
  v72 := Tryd.zeroValue81 }
def Tryd.lays169_ren : Go.Shelf.Ren := ⟨fun | 169 => 34 | n => n, fun | 70 => 79 | 9 => 9 | 0 => 0 | 72 => 81 | 37 => 38 | 127 => 104 | 3 => 3 | 5 => 5 | n => n, fun | n => n⟩
theorem Tryd.lays169 : Go.Proofs.Lays.n169 Tryd.prog Tryd.lays169_ren := {
  mixed := by kernel_rfl
  f169 := Tryd.func34.trans (congrArg some (by kernel_rfl))
  t0 := Tryd.underlying0
  a0 := Tryd.isAgg0
  z0 := Tryd.sizeOf0
  v0 := Tryd.zeroValue0
  t3 := Tryd.underlying3
  a3 := Tryd.isAgg3
  z3 := Tryd.sizeOf3
  v3 := Tryd.zeroValue3
  t9 := Tryd.underlying9
  a9 := Tryd.isAgg9
  z9 := Tryd.sizeOf9
  v9 := Tryd.zeroValue9
  t37 := Tryd.underlying38
  a37 := Tryd.isAgg38
  z37 := Tryd.sizeOf38
  v37 := Tryd.zeroValue38
  t70 := Tryd.underlying79
  a70 := Tryd.isAgg79
  z70 := Tryd.sizeOf79
  v70 := Tryd.zeroValue79
  t72 := Tryd.underlying81
  a72 := Tryd.isAgg81
  z72 := Tryd.sizeOf81
  v72 := Tryd.zeroValue81
  t127 := Tryd.underlying104
  a127 := Tryd.isAgg104
  z127 := Tryd.sizeOf104
  v127 := Tryd.zeroValue104 }
theorem Tryd.Builder_Extra_169 : Builder.Extra Tryd.prog Tryd.lays169_ren := {
  sizeBuilder := by kernel_rfl
  liesBuilder := by kernel_rfl
  t5 := Tryd.underlying5
  a5 := Tryd.isAgg5
  z5 := Tryd.sizeOf5
  v5 := Tryd.zeroValue5
  infoByte := by kernel_rfl
  cellsByte := by kernel_rfl
  sizeByte := by kernel_rfl
  neB5 := by decide }
def Tryd.lays119_ren : Go.Shelf.Ren := ⟨fun | 119 => 74 | n => n, fun | 21 => 21 | 4 => 4 | n => n, fun | n => n⟩
theorem Tryd.lays119 : Go.Proofs.Lays.n119 Tryd.prog Tryd.lays119_ren := {
  mixed := by kernel_rfl
  f119 := Tryd.func74.trans (congrArg some (by kernel_rfl))
  t4 := Tryd.underlying4
  a4 := Tryd.isAgg4
  z4 := Tryd.sizeOf4
  v4 := Tryd.zeroValue4
  t21 := Tryd.underlying21
  a21 := Tryd.isAgg21
  z21 := Tryd.sizeOf21
  v21 := Tryd.zeroValue21 }
/-- utf8.ValidRune: "ValidRune reports whether r can be legally encoded as UTF-8. Code points that are out of range or a surrogate half are illegal.": IT RETURNS 'Lib.validRune r'; the world is as it was. (LAID: no walk: one application.) -/
theorem Tryd.utf8_ValidRune (r : Int) (w : World) :
    Calls Tryd.prog 74 #[.int .i32 r] w fun e w' => e = .returned (.bool (Lib.validRune r)) ∧ w' = w := Any.utf8_ValidRune Tryd.lays119 r w
def Tryd.lays137_ren : Go.Shelf.Ren := ⟨fun | 137 => 88 | 217 => 94 | 266 => 95 | n => n, fun | 9 => 9 | 5 => 5 | 3 => 3 | n => n, fun | n => n⟩
theorem Tryd.lays137 : Go.Proofs.Lays.n137 Tryd.prog Tryd.lays137_ren := {
  mixed := by kernel_rfl
  f137 := Tryd.func88.trans (congrArg some (by kernel_rfl))
  f217 := Tryd.func94.trans (congrArg some (by kernel_rfl))
  f266 := Tryd.func95.trans (congrArg some (by kernel_rfl))
  t3 := Tryd.underlying3
  a3 := Tryd.isAgg3
  z3 := Tryd.sizeOf3
  v3 := Tryd.zeroValue3
  t5 := Tryd.underlying5
  a5 := Tryd.isAgg5
  z5 := Tryd.sizeOf5
  v5 := Tryd.zeroValue5
  t9 := Tryd.underlying9
  a9 := Tryd.isAgg9
  z9 := Tryd.sizeOf9
  v9 := Tryd.zeroValue9 }
open Go.RowKit in
/-- strings.IndexByte: "IndexByte returns the index of the first instance of c in s, or -1 if c is not present in s.": IT RETURNS 'Lib.indexByte s c'; the world is as it was. (LAID: no walk: one application.) -/
theorem Tryd.strings_IndexByte (s : ByteArray) (c : Int) (w : World) :
    Calls Tryd.prog 88 #[.string s, .int .u8 c] w fun e w' => e = .returned (.int .i64 (Lib.indexByte s.data.toList c.toNat.toUInt8)) ∧ w' = w := Any.strings_IndexByte Tryd.lays137 s c w
open Go.RowKit in
/-- (*strings.Builder).Len: "Len returns the number of accumulated bytes; b.Len() == len(b.String()).": the world is as it was. (THE FORM '_f': 'Lib.IsBuilderF'.) (LAID: no walk: one application.) -/
theorem Tryd.Builder_Len_f (B b : Nat) (bs : List Value) (w : World) (h : Lib.IsBuilderF 81 5 B b bs w) :
    Calls Tryd.prog 67 #[.pointer (some ⟨b, 0, none⟩)] w fun e w' => e = .returned (.int .i64 bs.length) ∧ w' = w := Any.Builder_Len_f Tryd.lays170 B b bs w h
open Go.RowKit in
/-- (*strings.Builder).String: "String returns the accumulated string.": WHATEVER THE BUILDER HOLDS; THE FORM '_k': OVER 'Lib.IsBuilderF' (a builder that 'String()' may have read), AND WITH THE FRAME THAT REACHES ABOVE THE BUILDER: 'Lib.OthersKept': every block that is not b and is no row of uint8's stands as it stood: the iterator of a range among them. (LAID: no walk: one application.) -/
theorem Tryd.Builder_String_any_k (B b : Nat) (l : List UInt8) (w : World) (h : Lib.IsBuilderF 81 5 B b (Lib.byteCells l) w) (hBw : B ≤ w.heap.size) :
    Calls Tryd.prog 34 #[.pointer (some ⟨b, 0, none⟩)] w fun e w' => e = .returned (.string ⟨l.toArray⟩) ∧ (Lib.IsBuilderF 81 5 B b (Lib.byteCells l) w' ∧ Below B w w' ∧ Lib.OthersKept 5 (some b) w w') := Any.Builder_String_any_k Tryd.lays169 Tryd.Builder_Extra_169 B b l w h hBw
def Tryd.lays242_ren : Go.Shelf.Ren := ⟨fun | 242 => 82 | 278 => 91 | n => n, fun | 37 => 38 | 21 => 21 | 51 => 99 | 4 => 4 | 5 => 5 | 46 => 78 | n => n, fun | n => n⟩
theorem Tryd.lays242 : Go.Proofs.Lays.n242 Tryd.prog Tryd.lays242_ren := {
  mixed := by kernel_rfl
  f242 := Tryd.func82.trans (congrArg some (by kernel_rfl))
  f278 := Tryd.func91.trans (congrArg some (by kernel_rfl))
  t4 := Tryd.underlying4
  a4 := Tryd.isAgg4
  z4 := Tryd.sizeOf4
  v4 := Tryd.zeroValue4
  t5 := Tryd.underlying5
  a5 := Tryd.isAgg5
  z5 := Tryd.sizeOf5
  v5 := Tryd.zeroValue5
  t21 := Tryd.underlying21
  a21 := Tryd.isAgg21
  z21 := Tryd.sizeOf21
  v21 := Tryd.zeroValue21
  t37 := Tryd.underlying38
  a37 := Tryd.isAgg38
  z37 := Tryd.sizeOf38
  v37 := Tryd.zeroValue38
  t46 := Tryd.underlying78
  a46 := Tryd.isAgg78
  z46 := Tryd.sizeOf78
  v46 := Tryd.zeroValue78
  t51 := Tryd.underlying99
  a51 := Tryd.isAgg99
  z51 := Tryd.sizeOf99
  v51 := Tryd.zeroValue99 }
open Go.RowKit in
/-- unicode/utf8.AppendRune: "AppendRune appends the UTF-8 encoding of r to the end of p and returns the extended buffer. If the rune is out of range, it appends the encoding of RuneError.": ONTO A ROW OF BYTES THAT THE CALL OWNS (its head frozen or not): EVERY int32: 'Lib.runeCells r' goes in behind what the row holds; the world: one new block (the bytes as the call's variadic argument), then what 'append' does to the row. (LAID: no walk: one application.) -/
theorem Tryd.utf8_AppendRune_row (B : Nat) (v : Value) (n : Nat) (xs : List Value) (r : Int) (hr0 : -2147483648 ≤ r) (hr1 : r ≤ 2147483647) (w : World) (hown : w.ownsRowF B 5 1 v n xs) (hlen : n + 4 ≤ 140737488355328) (hBw : B ≤ w.heap.size) :
    Calls Tryd.prog 82 #[v, .int .i32 r] w fun e w' => ∃ v', e = .returned v' ∧ w'.ownsRowF B 5 1 v' (n + (Lib.runeCells r).length) (xs ++ Lib.runeCells r) ∧ ∃ o, (w.alloc o).grownBy w' v.ownBlock := Any.utf8_AppendRune_row Tryd.lays242 (by kernel_rfl) B v n xs r hr0 hr1 w hown hlen hBw
def Tryd.laysM171_ren : Go.Shelf.Ren := ⟨fun | 171 => 47 | 243 => 57 | 246 => 69 | 283 => 77 | 284 => 78 | 285 => 79 | 286 => 80 | 129 => 45 | 317 => 84 | 318 => 85 | 319 => 86 | 320 => 87 | 337 => 92 | 338 => 93 | n => n, fun | 3 => 3 | 9 => 9 | 2 => 2 | 4 => 4 | 171 => 136 | 0 => 0 | 53 => 101 | 37 => 38 | 5 => 5 | 173 => 138 | 212 => 143 | 51 => 99 | 20 => 20 | 213 => 144 | 46 => 78 | 232 => 148 | 233 => 149 | n => n, fun | 17 => 2 | 18 => 4 | 19 => 5 | n => n⟩
theorem Tryd.laysM171 : Go.Proofs.LaysM.n171 Tryd.prog Tryd.laysM171_ren := {
  mixed := by kernel_rfl
  f129 := Tryd.func45.trans (congrArg some (by kernel_rfl))
  f171 := Tryd.func47.trans (congrArg some (by kernel_rfl))
  f243 := Tryd.func57.trans (congrArg some (by kernel_rfl))
  f246 := Tryd.func69.trans (congrArg some (by kernel_rfl))
  f283 := Tryd.func77.trans (congrArg some (by kernel_rfl))
  f284 := Tryd.func78.trans (congrArg some (by kernel_rfl))
  f285 := Tryd.func79.trans (congrArg some (by kernel_rfl))
  f286 := Tryd.func80.trans (congrArg some (by kernel_rfl))
  f317 := Tryd.func84.trans (congrArg some (by kernel_rfl))
  f318 := Tryd.func85.trans (congrArg some (by kernel_rfl))
  f319 := Tryd.func86.trans (congrArg some (by kernel_rfl))
  f320 := Tryd.func87.trans (congrArg some (by kernel_rfl))
  f337 := Tryd.func92.trans (congrArg some (by kernel_rfl))
  f338 := Tryd.func93.trans (congrArg some (by kernel_rfl))
  t0 := Tryd.underlying0
  a0 := Tryd.isAgg0
  z0 := Tryd.sizeOf0
  v0 := Tryd.zeroValue0
  t2 := Tryd.underlying2
  a2 := Tryd.isAgg2
  z2 := Tryd.sizeOf2
  v2 := Tryd.zeroValue2
  t3 := Tryd.underlying3
  a3 := Tryd.isAgg3
  z3 := Tryd.sizeOf3
  v3 := Tryd.zeroValue3
  t4 := Tryd.underlying4
  a4 := Tryd.isAgg4
  z4 := Tryd.sizeOf4
  v4 := Tryd.zeroValue4
  t5 := Tryd.underlying5
  a5 := Tryd.isAgg5
  z5 := Tryd.sizeOf5
  v5 := Tryd.zeroValue5
  t9 := Tryd.underlying9
  a9 := Tryd.isAgg9
  z9 := Tryd.sizeOf9
  v9 := Tryd.zeroValue9
  t20 := Tryd.underlying20
  a20 := Tryd.isAgg20
  z20 := Tryd.sizeOf20
  v20 := Tryd.zeroValue20
  t37 := Tryd.underlying38
  a37 := Tryd.isAgg38
  z37 := Tryd.sizeOf38
  v37 := Tryd.zeroValue38
  t46 := Tryd.underlying78
  a46 := Tryd.isAgg78
  z46 := Tryd.sizeOf78
  v46 := Tryd.zeroValue78
  t51 := Tryd.underlying99
  a51 := Tryd.isAgg99
  z51 := Tryd.sizeOf99
  v51 := Tryd.zeroValue99
  t53 := Tryd.underlying101
  a53 := Tryd.isAgg101
  z53 := Tryd.sizeOf101
  v53 := Tryd.zeroValue101
  t171 := Tryd.underlying136
  a171 := Tryd.isAgg136
  z171 := Tryd.sizeOf136
  v171 := Tryd.zeroValue136
  t173 := Tryd.underlying138
  a173 := Tryd.isAgg138
  z173 := Tryd.sizeOf138
  v173 := Tryd.zeroValue138
  t212 := Tryd.underlying143
  a212 := Tryd.isAgg143
  z212 := Tryd.sizeOf143
  v212 := Tryd.zeroValue143
  t213 := Tryd.underlying144
  a213 := Tryd.isAgg144
  z213 := Tryd.sizeOf144
  t232 := Tryd.underlying148
  a232 := Tryd.isAgg148
  z232 := Tryd.sizeOf148
  v232 := Tryd.zeroValue148
  t233 := Tryd.underlying149
  a233 := Tryd.isAgg149
  z233 := Tryd.sizeOf149
  v233 := Tryd.zeroValue149
  g17 := by kernel_rfl
  g18 := by kernel_rfl
  g19 := by kernel_rfl
  i0 := by kernel_rfl
  i2 := by kernel_rfl
  i3 := by kernel_rfl
  i4 := by kernel_rfl
  i5 := by kernel_rfl
  i9 := by kernel_rfl
  i20 := by kernel_rfl
  i37 := by kernel_rfl
  i46 := by kernel_rfl
  i51 := by kernel_rfl
  i53 := by kernel_rfl
  i171 := by kernel_rfl
  i173 := by kernel_rfl
  i212 := by kernel_rfl
  i232 := by kernel_rfl
  i233 := by kernel_rfl
  m17 := by kernel_rfl
  m18 := by kernel_rfl
  m19 := by kernel_rfl }
open Go.RowKit Go.Sort Go.Lib in
/-- strconv.Itoa: "Itoa is equivalent to FormatInt(int64(i), 10).": i's DECIMAL NUMERAL ('Lib.itoa': a '-' where i is negative, then the digits), FOR EVERY int. The world behind the call: the world before it, new blocks behind the heap (the library's 'var a [24]byte'), draws. (LAID: no walk: one application.) -/
theorem Tryd.strconv_Itoa (n : Int) (h0 : -9223372036854775808 ≤ n) (h1 : n ≤ 9223372036854775807) (w : World) (htab : Lib.TabIs Tryd.prog w "internal/strconv.uint64pow10" .u64 Lib.pow10Tab) :
    Calls Tryd.prog 47 #[.int .i64 n] w fun e w' => e = .returned (.string ⟨(Lib.itoa n).toArray⟩) ∧ ∃ k os, w' = grow (w.drewN k) os := Any.strconv_Itoa Tryd.laysM171 n h0 h1 w htab
def Tryd.lays190_ren : Go.Shelf.Ren := ⟨fun | 190 => 26 | 125 => 30 | 258 => 29 | 128 => 44 | 129 => 45 | 302 => 35 | 303 => 36 | 304 => 37 | 305 => 38 | 306 => 39 | 307 => 40 | 308 => 41 | 309 => 42 | 310 => 43 | 333 => 49 | 329 => 50 | 330 => 51 | 334 => 52 | 335 => 53 | 336 => 54 | 344 => 59 | n => n, fun | 31 => 22 | 9 => 9 | 3 => 3 | 46 => 78 | 0 => 0 | 51 => 99 | 53 => 101 | 4 => 4 | 183 => 91 | 182 => 90 | 131 => 96 | 5 => 5 | 218 => 105 | 222 => 109 | 228 => 117 | 229 => 118 | n => n, fun | n => n⟩
theorem Tryd.lays190 : Go.Proofs.Lays.n190 Tryd.prog Tryd.lays190_ren := {
  mixed := by kernel_rfl
  f125 := Tryd.func30.trans (congrArg some (by kernel_rfl))
  f128 := Tryd.func44.trans (congrArg some (by kernel_rfl))
  f129 := Tryd.func45.trans (congrArg some (by kernel_rfl))
  f190 := Tryd.func26.trans (congrArg some (by kernel_rfl))
  f258 := Tryd.func29.trans (congrArg some (by kernel_rfl))
  f302 := Tryd.func35.trans (congrArg some (by kernel_rfl))
  f303 := Tryd.func36.trans (congrArg some (by kernel_rfl))
  f304 := Tryd.func37.trans (congrArg some (by kernel_rfl))
  f305 := Tryd.func38.trans (congrArg some (by kernel_rfl))
  f306 := Tryd.func39.trans (congrArg some (by kernel_rfl))
  f307 := Tryd.func40.trans (congrArg some (by kernel_rfl))
  f308 := Tryd.func41.trans (congrArg some (by kernel_rfl))
  f309 := Tryd.func42.trans (congrArg some (by kernel_rfl))
  f310 := Tryd.func43.trans (congrArg some (by kernel_rfl))
  f329 := Tryd.func50.trans (congrArg some (by kernel_rfl))
  f330 := Tryd.func51.trans (congrArg some (by kernel_rfl))
  f333 := Tryd.func49.trans (congrArg some (by kernel_rfl))
  f334 := Tryd.func52.trans (congrArg some (by kernel_rfl))
  f335 := Tryd.func53.trans (congrArg some (by kernel_rfl))
  f336 := Tryd.func54.trans (congrArg some (by kernel_rfl))
  f344 := Tryd.func59.trans (congrArg some (by kernel_rfl))
  t0 := Tryd.underlying0
  a0 := Tryd.isAgg0
  z0 := Tryd.sizeOf0
  v0 := Tryd.zeroValue0
  t3 := Tryd.underlying3
  a3 := Tryd.isAgg3
  z3 := Tryd.sizeOf3
  v3 := Tryd.zeroValue3
  t4 := Tryd.underlying4
  a4 := Tryd.isAgg4
  z4 := Tryd.sizeOf4
  v4 := Tryd.zeroValue4
  t5 := Tryd.underlying5
  a5 := Tryd.isAgg5
  z5 := Tryd.sizeOf5
  v5 := Tryd.zeroValue5
  t9 := Tryd.underlying9
  a9 := Tryd.isAgg9
  z9 := Tryd.sizeOf9
  v9 := Tryd.zeroValue9
  t31 := Tryd.underlying22
  a31 := Tryd.isAgg22
  z31 := Tryd.sizeOf22
  v31 := Tryd.zeroValue22
  t46 := Tryd.underlying78
  a46 := Tryd.isAgg78
  z46 := Tryd.sizeOf78
  v46 := Tryd.zeroValue78
  t51 := Tryd.underlying99
  a51 := Tryd.isAgg99
  z51 := Tryd.sizeOf99
  v51 := Tryd.zeroValue99
  t53 := Tryd.underlying101
  a53 := Tryd.isAgg101
  z53 := Tryd.sizeOf101
  v53 := Tryd.zeroValue101
  t131 := Tryd.underlying96
  a131 := Tryd.isAgg96
  z131 := Tryd.sizeOf96
  v131 := Tryd.zeroValue96
  t182 := Tryd.underlying90
  a182 := Tryd.isAgg90
  z182 := Tryd.sizeOf90
  v182 := Tryd.zeroValue90
  t183 := Tryd.underlying91
  a183 := Tryd.isAgg91
  z183 := Tryd.sizeOf91
  v183 := Tryd.zeroValue91
  t218 := Tryd.underlying105
  a218 := Tryd.isAgg105
  z218 := Tryd.sizeOf105
  v218 := Tryd.zeroValue105
  t222 := Tryd.underlying109
  a222 := Tryd.isAgg109
  z222 := Tryd.sizeOf109
  v222 := Tryd.zeroValue109
  t228 := Tryd.underlying117
  a228 := Tryd.isAgg117
  z228 := Tryd.sizeOf117
  v228 := Tryd.zeroValue117
  t229 := Tryd.underlying118
  a229 := Tryd.isAgg118
  z229 := Tryd.sizeOf118
  v229 := Tryd.zeroValue118 }
open Go.Sort Go.RowKit in
theorem Tryd.slices_Sort_string (blk off cap : Nat) (ss : List (List UInt8)) (w : World) (hH : Holds encStr w blk off ss.toArray) (hblk : blk < w.heap.size) (hsz : ss.length < 4611686018427387904) :
    Calls Tryd.prog 26 #[.slice (some ⟨blk, off, none⟩) ss.length cap] w fun e w' =>
      e = .returned (.tuple #[]) ∧ ∃ n os, w' = grow (putRow encStr (Sort.ahead w n) blk off (ss.mergeSort fun x y => decide (x ≤ y)).toArray) os := Any.slices_Sort_string Tryd.lays190 blk off cap ss w hH hblk hsz
def Tryd.lays197_ren : Go.Shelf.Ren := ⟨fun | 197 => 76 | 260 => 83 | n => n, fun | 9 => 9 | 21 => 21 | 3 => 3 | 4 => 4 | 5 => 5 | 105 => 134 | 119 => 128 | 0 => 0 | 46 => 78 | 139 => 131 | 138 => 130 | n => n, fun | 3 => 0 | 4 => 1 | n => n⟩
theorem Tryd.lays197 : Go.Proofs.Lays.n197 Tryd.prog Tryd.lays197_ren := {
  mixed := by kernel_rfl
  f197 := Tryd.func76.trans (congrArg some (by kernel_rfl))
  f260 := Tryd.func83.trans (congrArg some (by kernel_rfl))
  t0 := Tryd.underlying0
  a0 := Tryd.isAgg0
  z0 := Tryd.sizeOf0
  v0 := Tryd.zeroValue0
  t3 := Tryd.underlying3
  a3 := Tryd.isAgg3
  z3 := Tryd.sizeOf3
  v3 := Tryd.zeroValue3
  t4 := Tryd.underlying4
  a4 := Tryd.isAgg4
  z4 := Tryd.sizeOf4
  v4 := Tryd.zeroValue4
  t5 := Tryd.underlying5
  a5 := Tryd.isAgg5
  z5 := Tryd.sizeOf5
  v5 := Tryd.zeroValue5
  t9 := Tryd.underlying9
  a9 := Tryd.isAgg9
  z9 := Tryd.sizeOf9
  v9 := Tryd.zeroValue9
  t21 := Tryd.underlying21
  a21 := Tryd.isAgg21
  z21 := Tryd.sizeOf21
  v21 := Tryd.zeroValue21
  t46 := Tryd.underlying78
  a46 := Tryd.isAgg78
  z46 := Tryd.sizeOf78
  v46 := Tryd.zeroValue78
  t105 := Tryd.underlying134
  a105 := Tryd.isAgg134
  z105 := Tryd.sizeOf134
  v105 := Tryd.zeroValue134
  t119 := Tryd.underlying128
  a119 := Tryd.isAgg128
  z119 := Tryd.sizeOf128
  t138 := Tryd.underlying130
  a138 := Tryd.isAgg130
  z138 := Tryd.sizeOf130
  v138 := Tryd.zeroValue130
  t139 := Tryd.underlying131
  a139 := Tryd.isAgg131
  z139 := Tryd.sizeOf131
  v139 := Tryd.zeroValue131
  g3 := by kernel_rfl
  g4 := by kernel_rfl }
def Tryd.lays152_ren : Go.Shelf.Ren := ⟨fun | 152 => 81 | 137 => 88 | 119 => 74 | 224 => 89 | 225 => 90 | 217 => 94 | 266 => 95 | n => n, fun | 9 => 9 | 21 => 21 | 3 => 3 | 4 => 4 | 5 => 5 | 0 => 0 | 46 => 78 | n => n, fun | n => n⟩
theorem Tryd.lays152 : Go.Proofs.Lays.n152 Tryd.prog Tryd.lays152_ren := {
  mixed := by kernel_rfl
  f119 := Tryd.func74.trans (congrArg some (by kernel_rfl))
  f137 := Tryd.func88.trans (congrArg some (by kernel_rfl))
  f152 := Tryd.func81.trans (congrArg some (by kernel_rfl))
  f217 := Tryd.func94.trans (congrArg some (by kernel_rfl))
  f224 := Tryd.func89.trans (congrArg some (by kernel_rfl))
  f225 := Tryd.func90.trans (congrArg some (by kernel_rfl))
  f266 := Tryd.func95.trans (congrArg some (by kernel_rfl))
  t0 := Tryd.underlying0
  a0 := Tryd.isAgg0
  z0 := Tryd.sizeOf0
  v0 := Tryd.zeroValue0
  t3 := Tryd.underlying3
  a3 := Tryd.isAgg3
  z3 := Tryd.sizeOf3
  v3 := Tryd.zeroValue3
  t4 := Tryd.underlying4
  a4 := Tryd.isAgg4
  z4 := Tryd.sizeOf4
  v4 := Tryd.zeroValue4
  t5 := Tryd.underlying5
  a5 := Tryd.isAgg5
  z5 := Tryd.sizeOf5
  v5 := Tryd.zeroValue5
  t9 := Tryd.underlying9
  a9 := Tryd.isAgg9
  z9 := Tryd.sizeOf9
  v9 := Tryd.zeroValue9
  t21 := Tryd.underlying21
  a21 := Tryd.isAgg21
  z21 := Tryd.sizeOf21
  v21 := Tryd.zeroValue21
  t46 := Tryd.underlying78
  a46 := Tryd.isAgg78
  z46 := Tryd.sizeOf78
  v46 := Tryd.zeroValue78 }
open Go.RowKit Go.Lib in
theorem Tryd.strings_IndexRune_ascii (s : ByteArray) (r : Int) (w : World) (h0 : 0 ≤ r) (h1 : r < 128) :
    Calls Tryd.prog 81 #[.string s, .int .i32 r] w fun e w' => e = .returned (.int .i64 (Lib.indexByte s.data.toList r.toNat.toUInt8)) ∧ w' = w := Any.strings_IndexRune_ascii Tryd.lays152 s r w h0 h1
open Go.RowKit Go.Lib in
/-- **unicode/utf8.DecodeRuneInString AT EVERY STRING.** (LAID: no walk: one application.) -/
theorem Tryd.utf8_DecodeRuneInString (s : ByteArray) (w : World) (hT : Lib.Utf8Tabs 0 1 w) :
    Calls Tryd.prog 76 #[.string s] w fun e w' => e = .returned (.tuple #[.int .i32 (Lib.decodeGo s).1, .int .i64 (Lib.decodeGo s).2]) ∧ Below w.heap.size w w' := Any.utf8_DecodeRuneInString Tryd.lays197 s w hT
def Tryd.lays194_ren : Go.Shelf.Ren := ⟨fun | 194 => 27 | n => n, fun | 31 => 22 | 9 => 9 | 3 => 3 | 4 => 4 | 0 => 0 | n => n, fun | n => n⟩
theorem Tryd.lays194 : Go.Proofs.Lays.n194 Tryd.prog Tryd.lays194_ren := {
  mixed := by kernel_rfl
  f194 := Tryd.func27.trans (congrArg some (by kernel_rfl))
  t0 := Tryd.underlying0
  a0 := Tryd.isAgg0
  z0 := Tryd.sizeOf0
  v0 := Tryd.zeroValue0
  t3 := Tryd.underlying3
  a3 := Tryd.isAgg3
  z3 := Tryd.sizeOf3
  v3 := Tryd.zeroValue3
  t4 := Tryd.underlying4
  a4 := Tryd.isAgg4
  z4 := Tryd.sizeOf4
  v4 := Tryd.zeroValue4
  t9 := Tryd.underlying9
  a9 := Tryd.isAgg9
  z9 := Tryd.sizeOf9
  v9 := Tryd.zeroValue9
  t31 := Tryd.underlying22
  a31 := Tryd.isAgg22
  z31 := Tryd.sizeOf22
  v31 := Tryd.zeroValue22 }
open Go.RowKit Go.Lib Go.Sort in
/-- slices.Compact at []string: "Compact replaces consecutive runs of equal elements with a single copy. This is like the uniq command found on Unix. Compact modifies the contents of the slice s and returns the modified slice, which may have a smaller length. Compact zeroes the elements between the new length and the original length. The result preserves the nilness of s.": IT RETURNS THE SLICE CUT TO 'Lib.compact zs'; ITS CELLS HOLD 'Lib.compact zs', THEN ZERO VALUES up to the old length; all else is as it was, but for the count of draws. IN THE WORDS OF slices.Sort's CONTRACT ('Holds', 'putRow'): so the everyday 'slices.Sort(xs); xs = slices.Compact(xs)' goes from the one contract to the other. It asks 'zs.length ≤ cap' (every slice's: the reslicing 's[:k]' looks at it). Length 0, nil: '.._empty'. (LAID: no walk: one application.) -/
theorem Tryd.slices_Compact_string (blk off cap : Nat) (zs : List (List UInt8)) (w : World) (hH : Holds encStr w blk off zs.toArray) (hsz : zs.length ≤ 9223372036854775807) (hcap : zs.length ≤ cap) :
    Calls Tryd.prog 27 #[.slice (some ⟨blk, off, none⟩) zs.length cap] w fun e w' => e = .returned (.slice (some ⟨blk, off, none⟩) (Lib.compact zs).length cap) ∧ ∃ q, w' = putRow encStr (Sort.ahead w q) blk off (Lib.compact zs ++ List.replicate (zs.length - (Lib.compact zs).length) []).toArray := Any.slices_Compact_string Tryd.lays194 blk off cap zs w hH hsz hcap
open Go.RowKit Go.Lib Go.Sort in
/-- The same at a slice of length 0, a nil one too: it comes back as it is. (LAID: no walk: one application.) -/
theorem Tryd.slices_Compact_string_empty (a : Option Addr) (cap : Nat) (w : World) :
    Calls Tryd.prog 27 #[.slice a 0 cap] w fun e w' => e = .returned (.slice a 0 cap) ∧ w' = w := Any.slices_Compact_string_empty Tryd.lays194 a cap w
open Go.RowKit Go.Sort in
/-- .. and plain. (LAID: no walk: one application.) -/
theorem Tryd.slices_Sort_string_none (p : Option Addr) (cap : Nat) (w : World) :
    Calls Tryd.prog 26 #[.slice p 0 cap] w fun e w' => e = .returned (.tuple #[]) ∧ w' = w := Any.slices_Sort_string_none Tryd.lays190 p cap w
def Tryd.lays196_ren : Go.Shelf.Ren := ⟨fun | 196 => 60 | 259 => 70 | n => n, fun | 9 => 9 | 4 => 4 | 3 => 3 | 5 => 5 | 12 => 12 | 119 => 128 | 0 => 0 | 46 => 78 | 139 => 131 | 138 => 130 | 53 => 101 | n => n, fun | 3 => 0 | 4 => 1 | n => n⟩
theorem Tryd.lays196 : Go.Proofs.Lays.n196 Tryd.prog Tryd.lays196_ren := {
  mixed := by kernel_rfl
  f196 := Tryd.func60.trans (congrArg some (by kernel_rfl))
  f259 := Tryd.func70.trans (congrArg some (by kernel_rfl))
  t0 := Tryd.underlying0
  a0 := Tryd.isAgg0
  z0 := Tryd.sizeOf0
  v0 := Tryd.zeroValue0
  t3 := Tryd.underlying3
  a3 := Tryd.isAgg3
  z3 := Tryd.sizeOf3
  v3 := Tryd.zeroValue3
  t4 := Tryd.underlying4
  a4 := Tryd.isAgg4
  z4 := Tryd.sizeOf4
  v4 := Tryd.zeroValue4
  t5 := Tryd.underlying5
  a5 := Tryd.isAgg5
  z5 := Tryd.sizeOf5
  v5 := Tryd.zeroValue5
  t9 := Tryd.underlying9
  a9 := Tryd.isAgg9
  z9 := Tryd.sizeOf9
  v9 := Tryd.zeroValue9
  t12 := Tryd.underlying12
  a12 := Tryd.isAgg12
  z12 := Tryd.sizeOf12
  v12 := Tryd.zeroValue12
  t46 := Tryd.underlying78
  a46 := Tryd.isAgg78
  z46 := Tryd.sizeOf78
  v46 := Tryd.zeroValue78
  t53 := Tryd.underlying101
  a53 := Tryd.isAgg101
  z53 := Tryd.sizeOf101
  v53 := Tryd.zeroValue101
  t119 := Tryd.underlying128
  a119 := Tryd.isAgg128
  z119 := Tryd.sizeOf128
  t138 := Tryd.underlying130
  a138 := Tryd.isAgg130
  z138 := Tryd.sizeOf130
  v138 := Tryd.zeroValue130
  t139 := Tryd.underlying131
  a139 := Tryd.isAgg131
  z139 := Tryd.sizeOf131
  v139 := Tryd.zeroValue131
  g3 := by kernel_rfl
  g4 := by kernel_rfl }
end Go.Proofs
/-
  Policy: a set of texts in memory; what is in it; sorted.
-/
namespace Go.Proofs.YtkjdihikcgpababDoor
open Go.RowKit Go.Sort Go.Lib
theorem Tryd.undX : Tryd.prog.underlying 22 = some (.slice 9) := by kernel_rfl
theorem Tryd.infoX : (Tryd.prog.info? 9).map (fun i => (i.zero, i.size, i.bytes)) = some (some (.string ⟨#[]⟩), 1, 16) := by kernel_rfl
theorem Tryd.undM : Tryd.prog.underlying 66 = some (.map 9 72) := by kernel_rfl
theorem Tryd.undStr : Tryd.prog.underlying 9 = some .string := by kernel_rfl
theorem lawK : Go.Maps.Keyed Tryd.prog 9 := Go.Maps.string_keyed Tryd.undStr
theorem zeroU (w : World) : (zeroValue 72).run Tryd.prog w = .ok (.agg #[]) w := by kernel_rfl
theorem run_mkm (k : IntKind) (n : Int) (w : World) : (Instr.makeMap 66 (some (.int k n))).run Tryd.prog w = .ok (.map (some w.heap.size)) (w.alloc (.map #[] 0)) := by
  simp [Instr.makeMap, run_underlying Tryd.undM, asInt, asIntOf, Result.andThen]
theorem keyX {s : Tx} (h : s.length ≤ maxLen) : keyOf Tryd.prog 9 (encStr s) = some (.string s) := by
  have := WideMaps.keyOf_string_mk Tryd.undStr (s := ⟨s.toArray⟩) (by simpa [ByteArray.size] using h)
  simpa using this
theorem owns_below {H : Type} {k : TypeId} {R : Value → Option (DataW H × List MemPlace)} {b n : Nat} {D : DataW H} {w w' : World} (h : w.ownsMap Tryd.prog k R b n D) (hb : Below w.heap.size w w') : w'.ownsMap Tryd.prog k R b n D := by
  obtain ⟨es, clock, h1, h2⟩ := h
  have hlt : b < w.heap.size := (Array.getElem?_eq_some_iff.1 h1).1
  exact ⟨es, clock, (hb.block b hlt).trans h1, h2⟩
/-- The map in block b is the set of the texts of L. -/
def SetM (w : World) (b : Nat) (n : Nat) (L : List Tx) : Prop := w.ownsMap (H := Unit) Tryd.prog 9 unitElem b n (setD L)
set_option maxHeartbeats 4000000 in
theorem setOf_any {w : World} (v : Value) (L : List Tx) (hv : TxS w v L) (hL : L.length ≤ 1048576) :
    Calls Tryd.prog 20 #[v] w fun e w' => e = .returned (.map (some w.heap.size)) ∧ SetM w' w.heap.size L.length L ∧ Below w.heap.size w w' := by
  obtain ⟨n, hn⟩ : ∃ n, L.length = n := ⟨_, rfl⟩
  obtain ⟨a, c, rfl, hc⟩ := hv.form
  rw [hn] at hv hL hc ⊢
  have HX : Hid (TxS w (.slice a n c) L) := hv
  have hmm := run_mkm
  clear hv
  go_enter Tryd.func20, Tryd.ntmps20
  go_wp2
  go_loopw [11] (fun iv wr => ∃ i : Nat, iv = .int .i64 (i : Int) ∧ i ≤ n ∧ SetM wr w.heap.size i (L.take i) ∧ Below w.heap.size w wr) (fun iv _ => n - (intOf iv).toNat)
  case atStart => exact ⟨0, rfl, Nat.zero_le _, World.ownsMap_made _ _ _ _, (Below.refl _ _).alloc (Nat.le_refl _) _⟩
  case round =>
    obtain ⟨i, rfl, hi, hS, hbl⟩ := hrel
    by_cases hlt : i < n
    · have hltI : (i : Int) < (n : Int) := by omega
      obtain ⟨b, off, rfl, q0, hsl⟩ := (HX.out.below hbl).at (by omega : i < L.length)
      obtain ⟨s, hs⟩ : ∃ s, L[i]'(by omega) = s := ⟨_, rfl⟩
      rw [hs] at q0 hsl
      have HS : Hid (SetM wr w.heap.size i (L.take i) ∧ Below w.heap.size w wr) := ⟨hS, hbl⟩
      have HT : Hid (L.take (i + 1) = L.take i ++ [s]) := by rw [List.take_succ_eq_append_getElem (by omega), hs]; exact rfl
      clear hS hbl hs
      go_wp2_with (first
        | (at_mapUpdate; refine wpList_mapUpdate_own _ rfl _ _ _ 66 rfl 9 72 lawK Tryd.undM (unitElem (H := Unit)) w.heap.size i (setD (L.take i)) rfl HS.out.1 (by unfold maxLen; omega) _ _ _ rfl rfl (keyX hsl) _ [] unitElem_mk ?_; intro w1 hown1 hgrow1)
        | go_in)
      go_roundw
      case rel => exact ⟨i + 1, by go_num, by omega, by unfold SetM; rw [HT.out, setD_snoc]; exact hown1, HS.out.2.grown hgrow1 HS.out.2.size (fun j hj => by cases hj; exact Nat.le_refl _)⟩
      case measure => simp [intOf]; omega
    · obtain rfl : i = n := by omega
      go_wp2
      go_ret
      exact ⟨rfl, by rw [List.take_of_length_le (Nat.le_of_eq hn)] at hS; exact hS, hbl⟩
set_option maxHeartbeats 4000000 in
theorem has_any {w : World} (b n : Nat) (L : List Tx) (s : Tx) (hS : SetM w b n L) (hs : s.length ≤ maxLen) :
    Calls Tryd.prog 22 #[.map (some b), encStr s] w fun e w' => e = .returned (.bool (decide (s ∈ L))) ∧ Below w.heap.size w w' := by
  have HS : Hid (SetM w b n L) := hS
  clear hS
  go_enter Tryd.func22, Tryd.ntmps22
  go_wp2_with (first
    | (at_lookup; refine wpList_lookup_own_unit _ rfl _ _ 66 rfl 9 72 lawK Tryd.undM (zeroU _) b n (setD L) rfl HS.out _ _ rfl (keyX hs) ?_; rw [has_setD])
    | go_in)
  go_ret
  exact ⟨rfl, (Below.refl _ _).alloc (Nat.le_refl _) _⟩
end Go.Proofs.YtkjdihikcgpababDoor
/-
  Policy: sorted.
-/
namespace Go.Proofs.YtkjdihikcgpababDoor
open Go.RowKit Go.Sort Go.Lib
theorem Sort_any {w : World} (b n : Nat) (L : List Tx) (hn : L.length = n) (hn2 : n ≤ 1048576) (hA : Blk 9 w b (L.map encStr)) :
    Calls Tryd.prog 26 #[.slice (some ⟨b, 0, none⟩) n n] w fun e w' => e = .returned (.tuple #[]) ∧ Blk 9 w' b ((L.mergeSort fun x y => decide (x ≤ y)).map encStr) ∧ Upd w w' b := by
  subst hn
  refine (Tryd.slices_Sort_string b 0 _ L w (holds_tx hA (by rw [List.take_of_length_le (by simp)])) hA.lt (by omega)).mono ?_
  rintro e w3 ⟨rfl, m, os, rfl⟩
  refine ⟨rfl, ?_, upd_putRow _ m os⟩
  have := blk_grow (blk_putRow hA (L.mergeSort fun x y => decide (x ≤ y)) (by simp) m) os
  rw [ms_len, List.drop_of_length_le (by simp), List.append_nil] at this
  exact this
theorem Compact_any {w : World} (b n : Nat) (M : List Tx) (hn : M.length = n) (hn2 : n ≤ 1048576) (hs : ∀ s ∈ M, s.length ≤ maxLen) (hA : Blk 9 w b (M.map encStr)) :
    Calls Tryd.prog 27 #[.slice (some ⟨b, 0, none⟩) n n] w fun e w' => ∃ r, e = .returned r ∧ TxS w' r (compact M) ∧ Upd w w' b := by
  subst hn
  have hcl : (compact M).length ≤ M.length := by
    have : (compact M).length ≤ (List.range M.length).length := by
      unfold compact compactUpTo
      rw [List.length_map]
      exact List.length_filter_le _ _
    simpa using this
  have hcs : ∀ s ∈ compact M, s.length ≤ maxLen := by
    intro s h
    unfold compact compactUpTo at h
    obtain ⟨j, hj, rfl⟩ := List.mem_map.1 h
    have hj2 : j < M.length := by have := (List.mem_filter.1 hj).1; simpa using this
    have : M.toArray[j]! = M[j] := by simp [getElem!_pos, hj2]
    rw [this]
    exact hs _ (List.getElem_mem _)
  refine (Tryd.slices_Compact_string b 0 _ M w (holds_tx hA (by rw [List.take_of_length_le (by simp)])) (by omega) (Nat.le_refl _)).mono ?_
  rintro e w3 ⟨rfl, m, rfl⟩
  have h1 := blk_putRow hA (compact M ++ List.replicate (M.length - (compact M).length) []) (by simp; omega) m
  refine ⟨_, rfl, TxS.ofBlk h1 _ _ rfl hcl (by simp) hcs, ?_⟩
  have h2 := upd_putRow (w := w) (b := b) (compact M ++ List.replicate (M.length - (compact M).length) []).toArray m #[]
  rw [grow_empty] at h2
  exact h2
end Go.Proofs.YtkjdihikcgpababDoor
/-
  Policy: sorted, walked.
-/
namespace Go.Proofs.YtkjdihikcgpababDoor
open Go.RowKit Go.Sort Go.Lib
theorem szX : (Tryd.prog.info? 9).map (·.size) = some 1 := by kernel_rfl
set_option maxRecDepth 20000 in
set_option maxHeartbeats 4000000 in
theorem sorted_any {w : World} (v : Value) (L : List Tx) (hv : TxS w v L) (hL : L.length ≤ 1048576) :
    Calls Tryd.prog 24 #[v] w fun e w' => ∃ r, e = .returned r ∧ TxS w' r (srt L) ∧ Below w.heap.size w w' := by
  obtain ⟨n, hn⟩ : ∃ n, L.length = n := ⟨_, rfl⟩
  obtain ⟨B, hB⟩ : ∃ B, w.heap.size = B := ⟨_, rfl⟩
  obtain ⟨a, c, rfl, hc⟩ := hv.form
  rw [hn] at hv hL hc ⊢
  have HX : Hid (TxS w (.slice a n c) L ∧ L.length = n ∧ w.heap.size = B) := ⟨hv, hn, hB⟩
  have HS : Hid (∀ w2 : World, Blk 9 w2 B (L.map encStr) → Calls Tryd.prog 26 #[.slice (some ⟨B, 0, none⟩) n n] w2 fun e w' => e = .returned (.tuple #[]) ∧ Blk 9 w' B ((L.mergeSort fun x y => decide (x ≤ y)).map encStr) ∧ Upd w2 w' B) := fun w2 h => Sort_any B n L hn hL h
  have HC : Hid (∀ w2 : World, Blk 9 w2 B ((L.mergeSort fun x y => decide (x ≤ y)).map encStr) → Calls Tryd.prog 27 #[.slice (some ⟨B, 0, none⟩) n n] w2 fun e w' => ∃ r, e = .returned r ∧ TxS w' r (srt L) ∧ Upd w2 w' B) := fun w2 h => Compact_any B n _ (by rw [ms_len, hn]) hL (fun s hs => hv.2 s ((ms_mem L s).1 hs)) h
  have HM : Hid (∀ w' : World, Blk 9 w' w.heap.size (List.replicate n (.string ⟨#[]⟩)) → Below w.heap.size w w' → Blk 9 w' B (List.replicate n (.string ⟨#[]⟩)) ∧ Below B w w') := fun w' h1 h2 => by rw [hB] at h1 h2; exact ⟨h1, h2⟩
  have HR : Hid (∀ w1 : World, Below B w w1 → Src Tryd.prog 1 22 (.slice a n c) n (L.map encStr) w1) := fun w1 h => by
    have := (hv.below (by rw [hB]; exact h)).src (t := 22) Tryd.undX
    rw [hn] at this
    exact this
  clear hv hn
  rw [hB]
  go_enter Tryd.func24, Tryd.ntmps24
  go_wp2_with (first
    | (at_make; refine wpList_mkV w rfl (.tmp 5) (.tmp 5) 22 rfl (.string ⟨#[]⟩) rfl 9 16 Tryd.undX Tryd.infoX n rfl rfl (by omega) (by omega) ?_; intro w1 hA1 hb1; rw [hB]; obtain ⟨hA1, hb1⟩ := HM.out w1 hA1 hb1)
    | (refine wpList_cpV rfl (.tmp 7) (.tmp 8) 22 rfl 9 Tryd.undX szX B n n 9 (List.replicate n (.string ⟨#[]⟩)) (L.map encStr) hA1 rfl (.slice a n c) rfl (HR.out w1 hb1) ⟨_, _, rfl⟩ (by simp) ?_; intro w2 hA2 hU2)
    | (go_at_call 26; refine (HS.out _ hA2).mono ?_; rintro e w3 ⟨rfl, hA3, hU3⟩)
    | (go_at_call 27; refine (HC.out _ hA3).mono ?_; rintro e w4 ⟨r, rfl, hr, hU4⟩)
    | go_in)
  go_ret
  have hsz : B ≤ w1.heap.size := by rw [← hB]; exact hb1.size
  exact ⟨_, rfl, hr, (((hb1.grown hU2 hsz (fun j hj => by cases hj; exact Nat.le_refl _)).grown hU3 (Nat.le_trans hsz hU2.size) (fun j hj => by cases hj; exact Nat.le_refl _)).grown hU4 (Nat.le_trans (Nat.le_trans hsz hU2.size) hU3.size) (fun j hj => by cases hj; exact Nat.le_refl _))⟩
end Go.Proofs.YtkjdihikcgpababDoor
/-
  Policy: what of a list is admitted.
-/
namespace Go.Proofs.YtkjdihikcgpababDoor
open Go.RowKit Go.Sort Go.Lib
theorem tx_beq (s t : Tx) : ((⟨s.toArray⟩ : ByteArray) == ⟨t.toArray⟩) = decide (s = t) := by
  by_cases h : s = t
  · subst h
    simp [MapKept.bytes_beq]
  · rw [decide_eq_false h]
    apply Bool.eq_false_iff.2
    intro he
    rw [MapKept.bytes_beq] at he
    simp at he
    exact h he
theorem src_oneP {w : World} {b : Nat} {x : Value} {T : TypeId} (hA : Blk T w b [x]) (ho : x.oneCell' = true) : Src Tryd.prog 1 22 (.slice (some ⟨b, 0, none⟩) 1 1) [x].length [x] w := by
  refine Src.ofSlice w Tryd.undX _ _ _ _ (by simp) (fun j u hj => ?_) (by simpa using ho)
  have hadd : (⟨b, 0, none⟩ : Addr).add j = ⟨b, j, none⟩ := by simp [Addr.add] <;> omega
  rw [hadd, hA.cell j, hj]
theorem blk_nwP {e : TypeId} {w : World} {b : Nat} {cs : Array Value} {xs : List Value} (hb : b = w.heap.size) (h : cs = xs.toArray) : Blk e (w.alloc (.cells cs e)) b xs := by subst hb; subst h; exact Blk.new e w _
set_option maxRecDepth 20000 in
set_option maxHeartbeats 4000000 in
theorem admitted_any {w : World} (b m : Nat) (S L : List Tx) (v : Value) (hS : SetM w b m S) (hv : TxS w v L) (hL : L.length ≤ 1048576) :
    Calls Tryd.prog 21 #[.map (some b), v] w fun e w' => ∃ r, e = .returned r ∧ VRow 9 w.heap.size w' r ((adm S L).map encStr) ∧ Below w.heap.size w w' := by
  obtain ⟨n, hn⟩ : ∃ n, L.length = n := ⟨_, rfl⟩
  obtain ⟨a, c, rfl, hc⟩ := hv.form
  rw [hn] at hv hL hc ⊢
  have HX : Hid (TxS w (.slice a n c) L ∧ L.length = n ∧ SetM w b m S) := ⟨hv, hn, hS⟩
  have HH : Hid (∀ (w1 : World) (s : Tx), Below w.heap.size w w1 → s.length ≤ maxLen → Calls Tryd.prog 22 #[.map (some b), encStr s] w1 fun e w' => e = .returned (.bool (decide (s ∈ S))) ∧ Below w1.heap.size w1 w') := fun w1 s h hs => has_any b m S s (owns_below hS h) hs
  clear hv hn hS
  go_enter Tryd.func21, Tryd.ntmps21
  go_wp2_with (first
    | (go_at_call 22; refine (HH.out _ anyP (Below.refl _ _) (by unfold anyP maxLen; decide)).mono ?_; rintro e w1 ⟨rfl, hb1⟩)
    | go_in)
  obtain ⟨all, hall⟩ : ∃ q, decide (anyP ∈ S) = q := ⟨_, rfl⟩
  rw [hall]
  have HA : Hid (decide (anyP ∈ S) = all ∧ Below w.heap.size w w1) := ⟨hall, hb1⟩
  clear hall hb1
  go_loopw [6, 13] (fun mv iv wr => ∃ i : Nat, iv = .int .i64 (i : Int) ∧ i ≤ n ∧ VRow 9 w.heap.size wr mv ((adm S (L.take i)).map encStr) ∧ Below w.heap.size w wr) (fun _ iv _ => n - (intOf iv).toNat)
  case atStart => exact ⟨0, rfl, Nat.zero_le _, VRow.nil _ _ _, HA.out.2⟩
  case round =>
    obtain ⟨i, rfl, hi, hR, hbl⟩ := hrel
    by_cases hlt : i < n
    · have hltI : (i : Int) < (n : Int) := by omega
      have hiL : i < L.length := by rw [HX.out.2.1]; exact hlt
      obtain ⟨b', off, rfl, q0, hsl⟩ := (HX.out.1.below hbl).at hiL
      obtain ⟨s, hs⟩ : ∃ s, L[i] = s := ⟨_, rfl⟩
      rw [hs] at q0 hsl
      have HT : Hid (adm S (L.take (i + 1)) = adm S (L.take i) ++ adm S [s]) := by rw [List.take_succ_eq_append_getElem hiL, adm_app, hs]; exact rfl
      have hal : (adm S (L.take i)).length ≤ 1048576 := by have := adm_len S (L.take i); rw [List.length_take] at this; omega
      have HS : Hid (VRow 9 w.heap.size wr u6 ((adm S (L.take i)).map encStr) ∧ Below w.heap.size w wr ∧ (adm S (L.take i)).length ≤ 1048576) := ⟨hR, hbl, hal⟩
      clear hR hbl hs hal
      by_cases h1 : s = [50, 46, 53, 46, 50, 57, 46, 51, 50, 46, 48]
      · have HN : Hid (adm S [s] = []) := by rw [h1]; simp [Hid, adm, anyP]
        go_wp2
        go_roundw
        case rel => exact ⟨i + 1, by go_num, by omega, by rw [HT.out, HN.out, List.append_nil]; exact HS.out.1, HS.out.2.1⟩
        case measure => simp [intOf]; omega
      · have h1b : (s == [50, 46, 53, 46, 50, 57, 46, 51, 50, 46, 48]) = false := by simpa using h1
        cases all with
        | true =>
          have HN : Hid (adm S [s] = [s]) := by have h := HA.out.1; unfold Hid adm; rw [h]; simp [anyP, h1]
          have HP : Hid (VRow 9 w.heap.size (wr.alloc (.cells #[encStr s] 9)) u6 ((adm S (L.take i)).map encStr) ∧ Below w.heap.size w (wr.alloc (.cells #[encStr s] 9)) ∧ w.heap.size ≤ (wr.alloc (.cells #[encStr s] 9)).heap.size) := ⟨HS.out.1.alloc _, HS.out.2.1.alloc HS.out.2.1.size _, (HS.out.2.1.alloc HS.out.2.1.size _).size⟩
          go_wp2_with (first
            | (at_builtin; refine wpList_apv rfl (.tmp 27) (.tmp 29) 22 22 rfl (.string ⟨#[]⟩) rfl 9 16 Tryd.undX Tryd.infoX (by decide) w.heap.size u6 ((adm S (L.take i)).map encStr) rfl HP.out.1 _ [encStr s] rfl (src_oneP (T := 9) (blk_nwP rfl rfl) rfl) (by have := HS.out.2.2; simp; omega) HP.out.2.2 ?_; intro v' w3 hV hG)
            | go_in)
          go_roundw
          case rel => exact ⟨i + 1, by go_num, by omega, by rw [HT.out, HN.out, List.map_append]; exact hV, (HP.out.2.1).trans (hG.below HP.out.1 HP.out.2.2)⟩
          case measure => simp [intOf]; omega
        | false =>
          by_cases h2 : s ∈ S
          · have HN : Hid (adm S [s] = [s]) := by have h := HA.out.1; unfold Hid adm; simp [anyP, h1, h2]
            have hd2 : decide (s ∈ S) = true := decide_eq_true h2
            have HPf : Hid (∀ w2 : World, Below wr.heap.size wr w2 → VRow 9 w.heap.size (w2.alloc (.cells #[encStr s] 9)) u6 ((adm S (L.take i)).map encStr) ∧ Below w.heap.size w (w2.alloc (.cells #[encStr s] 9)) ∧ w.heap.size ≤ (w2.alloc (.cells #[encStr s] 9)).heap.size) := fun w2 h =>
              have h1 := HS.out.2.1.trans (h.mono HS.out.2.1.size)
              ⟨(HS.out.1.below h).alloc _, h1.alloc h1.size _, (h1.alloc h1.size _).size⟩
            clear h2
            go_wp2_with (first
              | (go_at_call 22; refine (HH.out _ s HS.out.2.1 hsl).mono ?_; rintro e w2 ⟨rfl, hb2⟩; rw [hd2]; have HP := HPf.out w2 hb2; have HP : Hid _ := HP)
              | (at_builtin; refine wpList_apv rfl (.tmp 27) (.tmp 29) 22 22 rfl (.string ⟨#[]⟩) rfl 9 16 Tryd.undX Tryd.infoX (by decide) w.heap.size u6 ((adm S (L.take i)).map encStr) rfl HP.out.1 _ [encStr s] rfl (src_oneP (T := 9) (blk_nwP rfl rfl) rfl) (by have := HS.out.2.2; simp; omega) HP.out.2.2 ?_; intro v' w3 hV hG)
              | go_in)
            go_roundw
            case rel => exact ⟨i + 1, by go_num, by omega, by rw [HT.out, HN.out, List.map_append]; exact hV, (HP.out.2.1).trans (hG.below HP.out.1 HP.out.2.2)⟩
            case measure => simp [intOf]; omega
          · have HN : Hid (adm S [s] = []) := by have h := HA.out.1; unfold Hid adm; rw [h]; simp [h2]
            have hd2 : decide (s ∈ S) = false := decide_eq_false h2
            clear h2
            go_wp2_with (first
              | (go_at_call 22; refine (HH.out _ s HS.out.2.1 hsl).mono ?_; rintro e w2 ⟨rfl, hb2⟩; rw [hd2])
              | go_in)
            go_roundw
            case rel => exact ⟨i + 1, by go_num, by omega, by rw [HT.out, HN.out, List.append_nil]; exact HS.out.1.below hb2, HS.out.2.1.trans (hb2.mono HS.out.2.1.size)⟩
            case measure => simp [intOf]; omega
    · obtain rfl : i = n := by omega
      have hltI : ¬ (i : Int) < (i : Int) := by omega
      have HS : Hid (VRow 9 w.heap.size wr u6 ((adm S L).map encStr) ∧ Below w.heap.size w wr) := ⟨by rw [List.take_of_length_le (Nat.le_of_eq HX.out.2.1)] at hR; exact hR, hbl⟩
      clear hR hbl
      go_wp2
      go_ret
      exact ⟨_, rfl, HS.out.1, HS.out.2⟩
end Go.Proofs.YtkjdihikcgpababDoor
