/- Contracts of the library's functions, laid at this program: tables of numbers, each fact the program's own or the kernel's comparison. -/
import Derived.Shelf.Strings.Builder1
import Derived.Shelf.Strings.Builder2
import Derived.Shelf.Strings.OnBuilder
import Derived.Shelf.Small.Strs
import Derived.Shelf.Strings.BuilderF
import Derived.Shelf.Strconv.Atoi
import Derived.Shelf.Strconv.Itoa0
import Derived.Shelf.Strconv.Itoa1
import Derived.Shelf.LaysM
import Derived.Shelf.Strconv.Itoa2
import Derived.Shelf.Strconv.Itoa3
import Derived.Shelf.Strconv.AtoiErrFast
import Derived.Shelf.Strconv.ParseIntEmpty
import Derived.Shelf.Strconv.AtoiFail
import Derived.Shelf.Strconv.Clone
import Derived.Shelf.Strconv.SyntaxError
import Derived.Shelf.LaysC
import Derived.Shelf.Strconv.ToError
import Derived.Shelf.Strconv.Lower
import Derived.Shelf.Strconv.ParseUint10
import Derived.Shelf.Strconv.ParseUint10Empty
import Derived.Shelf.Strconv.ParseUint10Any
import Derived.Shelf.Strconv.ParseInt10
import Derived.Shelf.Strconv.AtoiLong
import Derived.Shelf.Strconv.AtoiInnerAll
import Derived.Shelf.Strconv.RangeError
import Derived.Shelf.Strconv.ToErrorRange
import Derived.Shelf.Strconv.AtoiAll
import Derived.Shelf.Strings.Search1
import Derived.Shelf.Strings.Search2
import Derived.Shelf.Strings.Search3
import Derived.Shelf.Strings.Shaped
import Derived.Shelf.Strings.Prefix
import Derived.Test.YtnoppoifepbchaaDoorProg
namespace Go.Proofs

open Go.Shelf
def Tryd.laysC172_ren : Go.Shelf.Ren := ⟨fun | 172 => 111 | 244 => 131 | 245 => 132 | 247 => 140 | 279 => 141 | 280 => 142 | 281 => 143 | 282 => 144 | 287 => 150 | 316 => 151 | 171 => 72 | 205 => 152 | 321 => 155 | 322 => 156 | 243 => 102 | 246 => 129 | 283 => 136 | 284 => 137 | 285 => 138 | 286 => 139 | 129 => 146 | 317 => 145 | 318 => 147 | 319 => 148 | 320 => 149 | 337 => 153 | 338 => 154 | n => n, fun | 9 => 9 | 3 => 3 | 75 => 89 | 76 => 90 | 4 => 4 | 5 => 5 | 167 => 151 | 37 => 63 | 0 => 0 | 85 => 152 | 2 => 2 | 168 => 154 | 53 => 68 | 175 => 161 | 46 => 138 | 210 => 165 | 127 => 118 | 145 => 171 | 143 => 169 | 21 => 21 | 171 => 146 | 173 => 149 | 212 => 158 | 51 => 143 | 20 => 20 | 213 => 159 | 232 => 172 | 233 => 173 | 80 => 95 | n => n, fun | 15 => 2 | 16 => 3 | 17 => 1 | 18 => 4 | 19 => 5 | n => n⟩
theorem Tryd.laysC172 : Go.Proofs.LaysC.n172 Tryd.prog Tryd.laysC172_ren := {
 mixed := by kernel_rfl
 f129 := Tryd.func146.trans (congrArg some (by kernel_rfl))
 f171 := Tryd.func72.trans (congrArg some (by kernel_rfl))
 f172 := Tryd.func111.trans (congrArg some (by kernel_rfl))
 f205 := Tryd.func152.trans (congrArg some (by kernel_rfl))
 f243 := Tryd.func102.trans (congrArg some (by kernel_rfl))
 f244 := Tryd.func131.trans (congrArg some (by kernel_rfl))
 f245 := Tryd.func132.trans (congrArg some (by kernel_rfl))
 f246 := Tryd.func129.trans (congrArg some (by kernel_rfl))
 f247 := Tryd.func140.trans (congrArg some (by kernel_rfl))
 f279 := Tryd.func141.trans (congrArg some (by kernel_rfl))
 f280 := Tryd.func142.trans (congrArg some (by kernel_rfl))
 f281 := Tryd.func143.trans (congrArg some (by kernel_rfl))
 f282 := Tryd.func144.trans (congrArg some (by kernel_rfl))
 f283 := Tryd.func136.trans (congrArg some (by kernel_rfl))
 f284 := Tryd.func137.trans (congrArg some (by kernel_rfl))
 f285 := Tryd.func138.trans (congrArg some (by kernel_rfl))
 f286 := Tryd.func139.trans (congrArg some (by kernel_rfl))
 f287 := Tryd.func150.trans (congrArg some (by kernel_rfl))
 f316 := Tryd.func151.trans (congrArg some (by kernel_rfl))
 f317 := Tryd.func145.trans (congrArg some (by kernel_rfl))
 f318 := Tryd.func147.trans (congrArg some (by kernel_rfl))
 f319 := Tryd.func148.trans (congrArg some (by kernel_rfl))
 f320 := Tryd.func149.trans (congrArg some (by kernel_rfl))
 f321 := Tryd.func155.trans (congrArg some (by kernel_rfl))
 f322 := Tryd.func156.trans (congrArg some (by kernel_rfl))
 f337 := Tryd.func153.trans (congrArg some (by kernel_rfl))
 f338 := Tryd.func154.trans (congrArg some (by kernel_rfl))
 t0 := Tryd.underlying0
 a0 := Tryd.isAgg0
 z0 := Tryd.sizeOf0
 v0 := Tryd.zeroValue0
 t2 := Tryd.underlying2
 a2 := Tryd.isAgg2
 z2 := Tryd.sizeOf2
 v2 := Tryd.zeroValue2
 t3 := Tryd.underlying3
 a3 := Tryd.isAgg3
 z3 := Tryd.sizeOf3
 v3 := Tryd.zeroValue3
 t4 := Tryd.underlying4
 a4 := Tryd.isAgg4
 z4 := Tryd.sizeOf4
 v4 := Tryd.zeroValue4
 t5 := Tryd.underlying5
 a5 := Tryd.isAgg5
 z5 := Tryd.sizeOf5
 v5 := Tryd.zeroValue5
 t9 := Tryd.underlying9
 a9 := Tryd.isAgg9
 z9 := Tryd.sizeOf9
 v9 := Tryd.zeroValue9
 t20 := Tryd.underlying20
 a20 := Tryd.isAgg20
 z20 := Tryd.sizeOf20
 v20 := Tryd.zeroValue20
 t21 := Tryd.underlying21
 a21 := Tryd.isAgg21
 z21 := Tryd.sizeOf21
 v21 := Tryd.zeroValue21
 t37 := Tryd.underlying63
 a37 := Tryd.isAgg63
 z37 := Tryd.sizeOf63
 v37 := Tryd.zeroValue63
 t46 := Tryd.underlying138
 a46 := Tryd.isAgg138
 z46 := Tryd.sizeOf138
 v46 := Tryd.zeroValue138
 t51 := Tryd.underlying143
 a51 := Tryd.isAgg143
 z51 := Tryd.sizeOf143
 v51 := Tryd.zeroValue143
 t53 := Tryd.underlying68
 a53 := Tryd.isAgg68
 z53 := Tryd.sizeOf68
 v53 := Tryd.zeroValue68
 t75 := Tryd.underlying89
 a75 := Tryd.isAgg89
 z75 := Tryd.sizeOf89
 v75 := Tryd.zeroValue89
 t76 := Tryd.underlying90
 a76 := Tryd.isAgg90
 z76 := Tryd.sizeOf90
 v76 := Tryd.zeroValue90
 t85 := Tryd.underlying152
 a85 := Tryd.isAgg152
 z85 := Tryd.sizeOf152
 v85 := Tryd.zeroValue152
 t127 := Tryd.underlying118
 a127 := Tryd.isAgg118
 z127 := Tryd.sizeOf118
 v127 := Tryd.zeroValue118
 t143 := Tryd.underlying169
 a143 := Tryd.isAgg169
 z143 := Tryd.sizeOf169
 v143 := Tryd.zeroValue169
 t145 := Tryd.underlying171
 a145 := Tryd.isAgg171
 z145 := Tryd.sizeOf171
 v145 := Tryd.zeroValue171
 t167 := Tryd.underlying151
 a167 := Tryd.isAgg151
 z167 := Tryd.sizeOf151
 v167 := Tryd.zeroValue151
 t168 := Tryd.underlying154
 a168 := Tryd.isAgg154
 z168 := Tryd.sizeOf154
 v168 := Tryd.zeroValue154
 t171 := Tryd.underlying146
 a171 := Tryd.isAgg146
 z171 := Tryd.sizeOf146
 v171 := Tryd.zeroValue146
 t173 := Tryd.underlying149
 a173 := Tryd.isAgg149
 z173 := Tryd.sizeOf149
 v173 := Tryd.zeroValue149
 t175 := Tryd.underlying161
 a175 := Tryd.isAgg161
 z175 := Tryd.sizeOf161
 v175 := Tryd.zeroValue161
 t210 := Tryd.underlying165
 a210 := Tryd.isAgg165
 z210 := Tryd.sizeOf165
 v210 := Tryd.zeroValue165
 t212 := Tryd.underlying158
 a212 := Tryd.isAgg158
 z212 := Tryd.sizeOf158
 v212 := Tryd.zeroValue158
 t213 := Tryd.underlying159
 a213 := Tryd.isAgg159
 z213 := Tryd.sizeOf159
 t232 := Tryd.underlying172
 a232 := Tryd.isAgg172
 z232 := Tryd.sizeOf172
 v232 := Tryd.zeroValue172
 t233 := Tryd.underlying173
 a233 := Tryd.isAgg173
 z233 := Tryd.sizeOf173
 v233 := Tryd.zeroValue173
 g15 := by kernel_rfl
 g16 := by kernel_rfl
 g17 := by kernel_rfl
 g18 := by kernel_rfl
 g19 := by kernel_rfl
 t80 := Tryd.underlying95
 a80 := Tryd.isAgg95
 z80 := Tryd.sizeOf95
 v80 := Tryd.zeroValue95
 i0 := by kernel_rfl
 i2 := by kernel_rfl
 i3 := by kernel_rfl
 i4 := by kernel_rfl
 i5 := by kernel_rfl
 i9 := by kernel_rfl
 i20 := by kernel_rfl
 i21 := by kernel_rfl
 i37 := by kernel_rfl
 i46 := by kernel_rfl
 i51 := by kernel_rfl
 i53 := by kernel_rfl
 i75 := by kernel_rfl
 i76 := by kernel_rfl
 i80 := by kernel_rfl
 i85 := by kernel_rfl
 i127 := by kernel_rfl
 i143 := by kernel_rfl
 i145 := by kernel_rfl
 i167 := by kernel_rfl
 i168 := by kernel_rfl
 i171 := by kernel_rfl
 i173 := by kernel_rfl
 i175 := by kernel_rfl
 i210 := by kernel_rfl
 i212 := by kernel_rfl
 i232 := by kernel_rfl
 i233 := by kernel_rfl
 m15 := by kernel_rfl
 m16 := by kernel_rfl
 m17 := by kernel_rfl
 m18 := by kernel_rfl
 m19 := by kernel_rfl
 c0 := by kernel_rfl
 c2 := by kernel_rfl
 c3 := by kernel_rfl
 c4 := by kernel_rfl
 c5 := by kernel_rfl
 c9 := by kernel_rfl
 c20 := by kernel_rfl
 c21 := by kernel_rfl
 c37 := by kernel_rfl
 c46 := by kernel_rfl
 c51 := by kernel_rfl
 c53 := by kernel_rfl
 c75 := by kernel_rfl
 c76 := by kernel_rfl
 c80 := by kernel_rfl
 c85 := by kernel_rfl
 c127 := by kernel_rfl
 c143 := by kernel_rfl
 c145 := by kernel_rfl
 c167 := by kernel_rfl
 c168 := by kernel_rfl
 c171 := by kernel_rfl
 c173 := by kernel_rfl
 c175 := by kernel_rfl
 c210 := by kernel_rfl
 c212 := by kernel_rfl
 c213 := by kernel_rfl
 c232 := by kernel_rfl
 c233 := by kernel_rfl }
open Go.RowKit in
theorem Tryd.strconv_Atoi_ok (s : ByteArray) (hmax : s.size ≤ 9223372036854775806) (v : Int) (h : Lib.atoiAll s.data.toList = .ok v) (w : World) :
  Calls Tryd.prog 111 #[.string s] w fun e w' => e = .returned (.tuple #[.int .i64 v, .nilIface]) ∧ (w' = w ∨ ∃ t, w' = Lib.bytesWorld w 5 t) := Any.strconv_Atoi_ok Tryd.laysC172 s hmax v h w
open Go.RowKit in
theorem Tryd.strconv_Atoi_range (s : ByteArray) (hlim : s.size ≤ 281474976710656) (h : Lib.atoiAll s.data.toList = .range) (ev : Value) (w : World) (hv : w.cell? ⟨3, 0, none⟩ = some ev) (hev : ev = .nilIface ∨ ∃ te pe, ev = .iface te pe) :
  Calls Tryd.prog 111 #[.string s] w fun e w' => ∃ N, e = .returned (.tuple #[.int .i64 (Lib.atoiSat s.data.toList), .iface 154 (.pointer (some ⟨N, 0, none⟩))]) ∧ w.heap.size ≤ N ∧ w'.heap[N]? = some (.cells #[.string ⟨#[65, 116, 111, 105]⟩, .string s, ev] 165 (0, 0)) ∧ Below w.heap.size w w' := Any.strconv_Atoi_range Tryd.laysC172 s hlim h ev w hv hev
end Go.Proofs
