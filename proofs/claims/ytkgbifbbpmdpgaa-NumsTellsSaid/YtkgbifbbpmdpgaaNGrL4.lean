/- The source of a grammar by numbers, walked. -/
import Derived.Test.YtkgbifbbpmdpgaaNGrW3
import Derived.Test.YtkgbifbbpmdpgaaNBox
import Derived.Deep.RegionLaw
import Derived.Deep.OwnRows
import Derived.Deep.CutRange
import Derived.Deep.CutBlock
import Derived.Outline
import Derived.IntWalk
import Derived.Deep.DeepCutAuto
import Derived.Deep.Cut
set_option linter.unusedVariables false
set_option linter.unusedSimpArgs false
namespace Go.Proofs.Ytkgbifbbpmdpgaa

open List renaming getElem_toArray → gA, getElem_cons_succ → gB, getElem_cons_zero → gC, setIfInBounds_toArray → gD, set_cons_zero → gE, set_cons_succ → gF
open Go.RowKit
def SrcGo (s : So) (w : World) (e : Ending) (w' : World) : Prop := ∃ (d r : Option Addr) (n1 c1 n2 c2 : Nat) (S : Nat → Prop), e = .returned (.agg #[.string ⟨#[]⟩, .slice d n1 c1, .slice r n2 c2, .string ⟨#[]⟩]) ∧
 Firm S w' (fun X => SoV X (.agg #[.string ⟨#[]⟩, .slice d n1 c1, .slice r n2 c2, .string ⟨#[]⟩]) s) ∧ (∀ b, S b → w.heap.size ≤ b) ∧ Below w.heap.size w w'
def RRow (xs : List Value) (n : Nat) : Prop := ∀ i, i < n → xs[i * 3]? = some (.string (gNonB i)) ∧ xs[i * 3 + 2]? = some (.int .i64 0)
theorem RRow.set {xs : List Value} {n m : Nat} {u : Value} (h : RRow xs n) : RRow (xs.set (m * 3 + 1) u) n := by
 intro i hi
 rw [List.getElem?_set_ne (by omega), List.getElem?_set_ne (by omega)]
 exact h i hi
theorem RRow.push {xs : List Value} {n : Nat} {u : Value} (h : RRow xs n) (hl : xs.length = n * 3) : RRow (xs ++ [.string (gNonB n), u, .int .i64 0]) (n + 1) := by
 intro i hi
 by_cases e : i < n
 · rw [List.getElem?_append_left (by omega), List.getElem?_append_left (by omega)]
   exact h i e
 · obtain rfl : i = n := by omega
   rw [List.getElem?_append_right (by omega), List.getElem?_append_right (by omega), show i * 3 - xs.length = 0 by omega, show i * 3 + 2 - xs.length = 2 by omega]
   exact ⟨rfl, rfl⟩
theorem gRuleInfo : (Try.prog.info? 74).map (fun i => (i.zero, i.size, i.bytes)) = some (some (.agg #[.string ByteArray.empty, .slice none 0 0, .int .i64 0]), 3, 48) := by kernel_rfl
theorem gAltInfo : (Try.prog.info? 71).map (fun i => (i.zero, i.size, i.bytes)) = some (some (.agg #[.slice none 0 0, .string ByteArray.empty, .bool false, .int .i64 0, .int .i64 0, .int .i64 0]), 6, 72) := by kernel_rfl
theorem gPartInfo : (Try.prog.info? 78).map (fun i => (i.zero, i.size, i.bytes)) = some (some (.agg #[.string ByteArray.empty, .bool false, .int .i64 0, .int .i64 0, .string ByteArray.empty, .int .i64 0]), 6, 64) := by kernel_rfl
theorem gBoolInfo : (Try.prog.info? 4).map (fun i => (i.zero, i.size, i.bytes)) = some (some (.bool false), 1, 1) := by kernel_rfl
theorem gSrcInfo : (Try.prog.info? 25).map (·.size) = some 4 := by kernel_rfl
structure SrcM (W4 : World) (Bs Bh N : Nat) (dv rvs : Value) (f : Nat → Bool) (W : World) : Prop where
 turns : Turns (fun b => b = Bs ∨ b = Bh) W4 W
 box : W.heap[Bs]? = some (.cells #[.string ⟨#[]⟩, dv, rvs, .string ⟨#[]⟩] 25 (0, 0))
 has : W.rowIs Bh 4 N (fun i => .bool (f i))
theorem SrcM.ahead {W4 W V : World} {Bs Bh N : Nat} {dv rvs : Value} {f : Nat → Bool} (h : SrcM W4 Bs Bh N dv rvs f W) (hb : Below W.heap.size W V) : SrcM W4 Bs Bh N dv rvs f V :=
 ⟨h.turns.trans (Turns.of_below (S := fun b => b = Bs ∨ b = Bh) hb) (fun _ _ h => h), (hb.block Bs (Array.getElem?_eq_some_iff.1 h.box).1).trans h.box, h.has.of_block (hb.block Bh h.has.lt)⟩
theorem SrcM.old {W4 W : World} {Bs Bh N : Nat} {dv rvs : Value} {f : Nat → Bool} (h : SrcM W4 Bs Bh N dv rvs f W) {p : Addr} {u : Value} (hp : W4.cell? p = some u) (h1 : p.block ≠ Bs) (h2 : p.block ≠ Bh) : W.cell? p = some u :=
 (h.turns.cell (World.block_lt_of_cell? _ _ hp) (fun e => e.elim h1 h2)).trans hp
theorem SrcM.grown {W4 W V : World} {Bs Bh N : Nat} {dv rvs : Value} {f : Nat → Bool} {row : Option Nat} (h : SrcM W4 Bs Bh N dv rvs f W) (hg : W.grownBy V row) (hr : ∀ k, row = some k → W4.heap.size ≤ k) (h1 : Bs < W4.heap.size) (h2 : Bh < W4.heap.size) : SrcM W4 Bs Bh N dv rvs f V := by
 have hk : ∀ b, b < W4.heap.size → V.heap[b]? = W.heap[b]? := fun b hb => hg.block b (Nat.lt_of_lt_of_le hb h.turns.size) (fun e => by have := hr b e.symm; omega)
 exact ⟨h.turns.trans (Turns.of_grown (S := fun b => row = some b) hg (fun k hk _ => hk)) (fun b hb e => by have := hr b e; omega), (hk Bs h1).trans h.box, h.has.of_block (hk Bh h2)⟩
theorem SrcM.store {W4 W : World} {Bs Bh N : Nat} {dv rvs : Value} {f : Nat → Bool} (h : SrcM W4 Bs Bh N dv rvs f W) (hne : Bh ≠ Bs) (new : Value) : SrcM W4 Bs Bh N dv new f (W.setCell ⟨Bs, 2, none⟩ new) :=
 ⟨h.turns.setCell (.inl (.inl rfl)) new, block_setCell (j := 2) h.box, h.has.setOther hne new⟩
theorem SrcM.other {W4 W : World} {Bs Bh N : Nat} {dv rvs : Value} {f : Nat → Bool} (h : SrcM W4 Bs Bh N dv rvs f W) {p : Addr} (hp : W4.heap.size ≤ p.block) (h1 : Bs < W4.heap.size) (h2 : Bh < W4.heap.size) (u : Value) : SrcM W4 Bs Bh N dv rvs f (W.setCell p u) :=
 ⟨h.turns.setCell (.inr hp) u, (Below.heap_setCell _ _ _ _ (by omega)).trans h.box, h.has.setOther (by omega) u⟩
theorem SrcM.mark {W4 W : World} {Bs Bh N k : Nat} {dv rvs : Value} {f : Nat → Bool} (h : SrcM W4 Bs Bh N dv rvs f W) (hne : Bs ≠ Bh) (b : Bool) : SrcM W4 Bs Bh N dv rvs (fun j => if j = k then b else f j) (W.setCell ⟨Bh, k, none⟩ (.bool b)) := by
 refine ⟨h.turns.setCell (.inl (.inr rfl)) _, (Below.heap_setCell _ _ _ _ hne).trans h.box, ?_⟩
 have := h.has.set k (.bool b)
 rwa [show (fun j => if j = k then Value.bool b else .bool (f j)) = fun j => Value.bool (if j = k then b else f j) from funext (fun j => by split <;> rfl)] at this
theorem getD_at {α : Type} {l : List α} {k : Nat} {x y : α} (h : l[k]? = some x) : l.getD k y = x := by rw [List.getD_eq_getElem?_getD, h]; rfl
theorem plain_step {N : Nat} {r : List Int} {j : Nat} (hj : 1 ≤ j) : plainG N r j = (plainG N r (j - 1) && plainS (symG (r.getD j 0) N)) := by
 obtain ⟨c, rfl⟩ : ∃ c, j = c + 1 := ⟨j - 1, by omega⟩
 rfl
theorem parts_step {N : Nat} {r : List Int} {ia : Bool} {j : Nat} (hj : 1 ≤ j) : partsG N r ia j = partsG N r ia (j - 1) ++ [ptS (symG (r.getD j 0) N)] ++ (if j = 1 ∧ ia = true then [ptC codeA] else []) := by
 obtain ⟨c, rfl⟩ : ∃ c, j = c + 1 := ⟨j - 1, by omega⟩
 show partsG N r ia c ++ [ptS (symG (r.getD (c + 1) 0) N)] ++ (if c = 0 ∧ ia = true then [ptC codeA] else []) = partsG N r ia c ++ [ptS (symG (r.getD (c + 1) 0) N)] ++ (if c + 1 = 1 ∧ ia = true then [ptC codeA] else [])
 by_cases h : c = 0
 · subst h; simp
 · rw [if_neg (fun e => h e.1), if_neg (fun e => h (by omega))]
theorem gParts_len {N : Nat} {r : List Int} {ia : Bool} : ∀ j, (partsG N r ia j).length ≤ 2 * j
 | 0 => Nat.le_refl _
 | c + 1 => by
   have h := gParts_len (N := N) (r := r) (ia := ia) c
   show (partsG N r ia c ++ [ptS (symG (r.getD (c + 1) 0) N)] ++ (if c = 0 ∧ ia = true then [ptC codeA] else [])).length ≤ _
   split <;> simp <;> omega
theorem getD_set {α : Type} {l : List α} {k : Nat} {x d : α} (hk : k < l.length) : (fun j => (l.set k x).getD j d) = fun j => if j = k then x else l.getD j d := by
 funext j
 rw [List.getD_eq_getElem?_getD, List.getD_eq_getElem?_getD]
 by_cases e : j = k
 · subst e
   rw [List.getElem?_set_self hk, if_pos rfl]; rfl
 · rw [List.getElem?_set_ne (Ne.symm e), if_neg e]
theorem rSt_small (g : Gr) (nons : Nat) : ∀ i k, ((rSt g nons i).1.getD k []).length ≤ i
 | 0, k => by
   show ((List.replicate nons ([] : List Al)).getD k []).length ≤ 0
   rw [List.getD_eq_getElem?_getD, List.getElem?_replicate]
   split <;> simp
 | i + 1, k => by
   have h := rSt_small g nons i
   show ((rStep nons (g.rules.getD i []) (innA g.inner i) (innB g.inner i) (rSt g nons i)).1.getD k []).length ≤ _
   unfold rStep
   split
   · have := h k; omega
   · simp only
     generalize (((g.rules.getD i []).getD 0 0) % (nons : Int)).toNat = m
     have hk := h k
     have hm := h m
     rw [List.getD_eq_getElem?_getD]
     by_cases e : m = k
     · subst e
       by_cases hl : m < (rSt g nons i).1.length
       · rw [List.getElem?_set_self hl]
         have hm' := hm
         rw [List.getD_eq_getElem?_getD] at hm'
         simp; omega
       · rw [List.getElem?_eq_none (by simp; omega)]; simp
     · rw [List.getElem?_set_ne e, ← List.getD_eq_getElem?_getD]; omega
theorem GrowRow.keepX {α : Type} {base : Nat} {E : TypeId} {size j : Nat} {E2 : TypeId} {size2 : Nat} {R2 : World → List Value → α → Prop} {S : Nat → Prop} {w w' : World} {v : Value} {xs : List Value} {ll : List (List α)} (h : GrowRow base E size j E2 size2 R2 S w v xs ll)
  (hk : ∀ b, base ≤ b → b < w.heap.size → w'.heap[b]? = w.heap[b]?) : GrowRow base E size j E2 size2 R2 S w' v xs ll := by
 refine ⟨row_kept h.own (fun k e => hk k (h.own.lt k e).1 (h.own.lt k e).2), fun i l hl => ?_, h.top, h.two, h.apart, fun b hb => ⟨(h.low b hb).1, ?_⟩⟩
 · obtain ⟨u, ys, h1, h2⟩ := h.each i l hl
   refine ⟨u, ys, h1, h2.keep (fun b hb => ?_)⟩
   rcases hb with hb | hb
   · exact hk b (h.low b hb).1 (h.low b hb).2
   · exact hk b (h2.own.lt b hb).1 (h2.own.lt b hb).2
 · have h1 := hk b (h.low b hb).1 (h.low b hb).2
   rw [Array.getElem?_eq_getElem (h.low b hb).2] at h1
   exact (Array.getElem?_eq_some_iff.1 h1).1
theorem take_drop3 {xs : List Value} {i : Nat} {a b c : Value} (ha : xs[i * 3]? = some a) (hb : xs[i * 3 + 1]? = some b) (hc : xs[i * 3 + 2]? = some c) : (xs.drop (i * 3)).take 3 = [a, b, c] := by
 apply List.ext_getElem?
 intro q
 rw [List.getElem?_take, List.getElem?_drop]
 match q with
 | 0 => simpa using ha
 | 1 => simpa using hb
 | 2 => simpa using hc
 | q + 3 => simp; omega
theorem take_drop4 {xs : List Value} {i : Nat} {a b c d : Value} (ha : xs[i * 4]? = some a) (hb : xs[i * 4 + 1]? = some b) (hc : xs[i * 4 + 2]? = some c) (hd : xs[i * 4 + 3]? = some d) : (xs.drop (i * 4)).take 4 = [a, b, c, d] := by
 apply List.ext_getElem?
 intro q
 rw [List.getElem?_take, List.getElem?_drop]
 match q with
 | 0 => simpa using ha
 | 1 => simpa using hb
 | 2 => simpa using hc
 | 3 => simpa using hd
 | q + 4 => simp; omega
theorem decls_list {base : Nat} {X : World} {v : Value} {xs : List Value} {st : List (Int × List Sm)} (h : GrowRow base 64 4 2 68 4 smR (fun _ => False) X v xs (st.map (·.2))) (hd : DRow xs st) : DcsV X v (st.map dcOf) := by
 refine h.list (by omega) (by omega) (by simp) (fun i y l u hy hl hu hL => ?_)
 rw [List.getElem?_map] at hy hl
 obtain ⟨p, hp, rfl⟩ := Option.map_eq_some_iff.1 hy
 rw [hp] at hl
 cases hl
 obtain ⟨h1, h2, h3⟩ := hd i p hp
 rw [take_drop4 h1 h2 hu h3]
 exact ⟨u, rfl, hL⟩
theorem rules_list {base N : Nat} {S : Nat → Prop} {X : World} {v : Value} {xs : List Value} {als : List (List Al)} (h : GrowRow base 74 3 1 71 6 alR S X v xs als) (hd : RRow xs N) (hN : als.length = N) : RlsV X v ((List.range N).map (rlG als)) := by
 refine h.list (by omega) (by omega) (by simp [hN]) (fun i y l u hy hl hu hL => ?_)
 have hi : i < N := by rw [← hN]; exact (List.getElem?_eq_some_iff.1 hl).1
 rw [List.getElem?_map, List.getElem?_range hi] at hy
 cases hy
 obtain ⟨h1, h2⟩ := hd i hi
 rw [take_drop3 h1 hu h2]
 refine ⟨u, ?_, ?_⟩
 · rfl
 · show ListV 6 alR X u (als.getD i [])
   rw [getD_at hl]; exact hL
theorem glist_one {α : Type} {R : World → List Value → α → Prop} {w : World} {B size : Nat} {cs : Array Value} {T : TypeId} {x : α} (h : w.heap[B]? = some (.cells cs T (0, 0))) (hs : cs.size = size) (hR : R w cs.toList x) : ListV size R w (.slice (some ⟨B, 0, none⟩) 1 1) [x] := by
 refine ⟨_, 1, rfl, Nat.le_refl _, by omega, fun e => (by cases e), fun i y hy => ?_⟩
 obtain rfl : i = 0 := by have := (List.getElem?_eq_some_iff.1 hy).1; simp at this; omega
 obtain rfl : x = y := by simpa using hy
 refine ⟨B, 0, cs.toList, rfl, by simpa using hs, hR, fun j hj => ?_⟩
 rw [show 0 + 0 * size + j = j by omega, cell_of_row w B j cs T (0, 0) h, List.getD_eq_getElem?_getD, Array.getElem?_toList, Array.getElem?_eq_getElem (by omega)]; rfl
theorem fSt_small (has : List Bool) (bare : Bool) (als : List (List Al)) (m : Nat) (h : ∀ k, (als.getD k []).length ≤ m) : ∀ i k, ((fSt has bare als i).getD k []).length ≤ m + i
 | 0, k => h k
 | i + 1, k => by
   have h1 := fSt_small has bare als m h i
   show ((fStep has bare i (fSt has bare als i)).getD k []).length ≤ _
   unfold fStep
   split
   · have hk := h1 k
     have hi := h1 i
     rw [List.getD_eq_getElem?_getD]
     by_cases e : i = k
     · subst e
       by_cases hl : i < (fSt has bare als i).length
       · rw [List.getElem?_set_self hl]
         simp only [Option.getD_some, List.length_append, List.length_singleton]; omega
       · rw [List.getElem?_eq_none (by simp; omega)]; simp
     · rw [List.getElem?_set_ne e, ← List.getD_eq_getElem?_getD]; omega
   · have := h1 k; omega
def blockOf (n : Nat) : Code → Option Code
 | .block i b => match Nat.beq i n with
   | true => some (.block i b)
   | false => blockOf n b
 | .seq a b => match blockOf n a with
   | some c => some c
   | none => blockOf n b
 | .cond _ a b => match blockOf n a with
   | some c => some c
   | none => blockOf n b
 | .loop b => blockOf n b
 | .scope b => blockOf n b
 | _ => none
set_option maxRecDepth 100000 in
set_option maxHeartbeats 100000000 in
theorem src_loop4 {w W4 W1 : World} {gb : Bool} {N Bs Bh : Nat} {da : Option Addr} {dl dc : Nat} {rvs : Value} {fs : Nat → List (List Al)} {hasL : List Bool} {M9 : Nat} {xs : List Value} {S : Nat → Prop}
  {v0 v2 v6 v7 v8 v9 v10 v11 v12 v14 v15 v16 v17 v18 v19 v20 v21 v22 v23 v24 v25 v26 v27 v28 v29 v30 v31 v32 v33 v34 v35 v36 v37 v38 v39 v40 v41 v42 v43 v44 v45 v46 v47 v48 v49 v50 v51 v52 v53 v54 v55 v56 v57 v58 v59 v60 v61 v62 v63 v64 v65 v66 v67 v68 v69 v70 v71 v72 v73 v74 v75 v76 v77 v78 v79 v80 v81 v82 v83 v84 v85 v86 v87 v88 v89 v90 v91 v92 v93 v94 v95 v96 v97 v98 v99 v100 v101 v102 v103 v104 v105 v106 v107 v108 v109 v110 v111 v112 v113 v114 v115 v116 v117 v118 v119 v120 v121 v122 v123 v124 v125 v126 v127 v128 v129 v130 v131 v132 v133 v134 v135 v136 v137 v138 v139 v140 v141 v142 v143 v144 v145 v146 v147 v148 v149 v150 v151 v152 v153 v154 v155 v156 v157 v158 v159 v160 v161 v162 v163 v164 v165 v166 v167 v168 v169 v170 v171 v172 v173 v174 v175 v176 v177 v178 v179 v180 v181 v182 v183 v184 v185 v186 v187 v188 v189 v190 v191 v192 v193 v194 v195 v196 v197 v198 v199 v200 v201 v202 v203 v204 v205 v206 v207 v208 v209 v210 v211 v212 v213 v214 v215 v216 : Value} {K : Act → World → Prop} {RE : Ending → World → Prop}
  (hN14 : 1 ≤ N ∧ N ≤ 4) (hb4 : Below w.heap.size w W4) (hB1 : Bs < W4.heap.size) (hB2 : Bh < W4.heap.size) (hB3 : Bh ≠ Bs) (hB4 : w.heap.size + 1 < Bs) (hB5 : w.heap.size + 1 < Bh) (hB6 : Bs < Bh)
  (hm9 : M9 ≤ 9) (HFS : Hid (∀ i k, ((fs i).getD k []).length ≤ M9 + i)) (HFL : Hid (∀ i, (fs i).length = N)) (HF1 : Hid (∀ i, fs (i + 1) = fStep hasL gb i (fs i)))
  (g4 : Hid (∀ V, Turns (fun b => b = Bs ∨ b = Bh) W4 V → V.cell? ⟨w.heap.size, 4, none⟩ = some (.bool gb)))
  (hM : SrcM W4 Bs Bh N (.slice da dl dc) rvs (fun i => hasL.getD i false) W1) (hG : GrowRow W4.heap.size 74 3 1 71 6 alR S W1 rvs xs (fs 0)) (HR : Hid (RRow xs N))
  (hK : ∀ (x13 x173 x174 x175 x176 x177 x178 x179 x180 x181 x182 x183 x184 x185 x186 x187 x188 x189 x190 x191 x192 x193 x194 x195 x196 x197 x198 x199 x200 x201 x202 x203 x204 x205 x206 x207 x208 x209 x210 x211 x212 x213 x214 x215 : Value) (wx : World), (∃ (xs : List Value) (S : Nat → Prop), SrcM W4 Bs Bh N (.slice da dl dc) rvs (fun i => hasL.getD i false) wx ∧ GrowRow W4.heap.size 74 3 1 71 6 alR S wx rvs xs (fs N) ∧ Hid (RRow xs N)) → K { tmps := List.toArray (v0 :: (.pointer (some ⟨w.heap.size, 0, none⟩) : Value) :: v2 :: (.int .i64 (N : Int) : Value) :: (.pointer (some ⟨Bs, 0, none⟩) : Value) :: (.slice (some ⟨Bh, 0, none⟩) N N : Value) :: v6 :: v7 :: v8 :: v9 :: v10 :: v11 :: v12 :: x13 :: v14 :: v15 :: v16 :: v17 :: v18 :: v19 :: v20 :: v21 :: v22 :: v23 :: v24 :: v25 :: v26 :: v27 :: v28 :: v29 :: v30 :: v31 :: v32 :: v33 :: v34 :: v35 :: v36 :: v37 :: v38 :: v39 :: v40 :: v41 :: v42 :: v43 :: v44 :: v45 :: v46 :: v47 :: v48 :: v49 :: v50 :: v51 :: v52 :: v53 :: v54 :: v55 :: v56 :: v57 :: v58 :: v59 :: v60 :: v61 :: v62 :: v63 :: v64 :: v65 :: v66 :: v67 :: v68 :: v69 :: v70 :: v71 :: v72 :: v73 :: v74 :: v75 :: v76 :: v77 :: v78 :: v79 :: v80 :: v81 :: v82 :: v83 :: v84 :: v85 :: v86 :: v87 :: v88 :: v89 :: v90 :: v91 :: v92 :: v93 :: v94 :: v95 :: v96 :: v97 :: v98 :: v99 :: v100 :: v101 :: v102 :: v103 :: v104 :: v105 :: v106 :: v107 :: v108 :: v109 :: v110 :: v111 :: v112 :: v113 :: v114 :: v115 :: v116 :: v117 :: v118 :: v119 :: v120 :: v121 :: v122 :: v123 :: v124 :: v125 :: v126 :: v127 :: v128 :: v129 :: v130 :: v131 :: v132 :: v133 :: v134 :: v135 :: v136 :: v137 :: v138 :: v139 :: v140 :: v141 :: v142 :: v143 :: v144 :: v145 :: v146 :: v147 :: v148 :: v149 :: v150 :: v151 :: v152 :: v153 :: v154 :: v155 :: v156 :: v157 :: v158 :: v159 :: v160 :: v161 :: v162 :: v163 :: v164 :: v165 :: v166 :: v167 :: v168 :: v169 :: v170 :: v171 :: v172 :: x173 :: x174 :: x175 :: x176 :: x177 :: x178 :: x179 :: x180 :: x181 :: x182 :: x183 :: x184 :: x185 :: x186 :: x187 :: x188 :: x189 :: x190 :: x191 :: x192 :: x193 :: x194 :: x195 :: x196 :: x197 :: x198 :: x199 :: x200 :: x201 :: x202 :: x203 :: x204 :: x205 :: x206 :: x207 :: x208 :: x209 :: x210 :: x211 :: x212 :: x213 :: x214 :: x215 :: v216 :: []), defers := [] } wx) :
  Code.wp Try.prog ((blockOf 6 (Try.f12.body.getD .skip)).getD .skip) (Exit.then K (bodyPost Try.prog Try.f12 RE)) { tmps := List.toArray (v0 :: (.pointer (some ⟨w.heap.size, 0, none⟩) : Value) :: v2 :: (.int .i64 (N : Int) : Value) :: (.pointer (some ⟨Bs, 0, none⟩) : Value) :: (.slice (some ⟨Bh, 0, none⟩) N N : Value) :: v6 :: v7 :: v8 :: v9 :: v10 :: v11 :: v12 :: (.int .i64 0 : Value) :: v14 :: v15 :: v16 :: v17 :: v18 :: v19 :: v20 :: v21 :: v22 :: v23 :: v24 :: v25 :: v26 :: v27 :: v28 :: v29 :: v30 :: v31 :: v32 :: v33 :: v34 :: v35 :: v36 :: v37 :: v38 :: v39 :: v40 :: v41 :: v42 :: v43 :: v44 :: v45 :: v46 :: v47 :: v48 :: v49 :: v50 :: v51 :: v52 :: v53 :: v54 :: v55 :: v56 :: v57 :: v58 :: v59 :: v60 :: v61 :: v62 :: v63 :: v64 :: v65 :: v66 :: v67 :: v68 :: v69 :: v70 :: v71 :: v72 :: v73 :: v74 :: v75 :: v76 :: v77 :: v78 :: v79 :: v80 :: v81 :: v82 :: v83 :: v84 :: v85 :: v86 :: v87 :: v88 :: v89 :: v90 :: v91 :: v92 :: v93 :: v94 :: v95 :: v96 :: v97 :: v98 :: v99 :: v100 :: v101 :: v102 :: v103 :: v104 :: v105 :: v106 :: v107 :: v108 :: v109 :: v110 :: v111 :: v112 :: v113 :: v114 :: v115 :: v116 :: v117 :: v118 :: v119 :: v120 :: v121 :: v122 :: v123 :: v124 :: v125 :: v126 :: v127 :: v128 :: v129 :: v130 :: v131 :: v132 :: v133 :: v134 :: v135 :: v136 :: v137 :: v138 :: v139 :: v140 :: v141 :: v142 :: v143 :: v144 :: v145 :: v146 :: v147 :: v148 :: v149 :: v150 :: v151 :: v152 :: v153 :: v154 :: v155 :: v156 :: v157 :: v158 :: v159 :: v160 :: v161 :: v162 :: v163 :: v164 :: v165 :: v166 :: v167 :: v168 :: v169 :: v170 :: v171 :: v172 :: v173 :: v174 :: v175 :: v176 :: v177 :: v178 :: v179 :: v180 :: v181 :: v182 :: v183 :: v184 :: v185 :: v186 :: v187 :: v188 :: v189 :: v190 :: v191 :: v192 :: v193 :: v194 :: v195 :: v196 :: v197 :: v198 :: v199 :: v200 :: v201 :: v202 :: v203 :: v204 :: v205 :: v206 :: v207 :: v208 :: v209 :: v210 :: v211 :: v212 :: v213 :: v214 :: v215 :: v216 :: []), defers := [] } W1 := by
 conv => arg 2; whnf
 go_cut [13] from 173 to 215 (fun (x13 : Value) wx => ∃ (xs : List Value) (S : Nat → Prop), SrcM W4 Bs Bh N (.slice da dl dc) rvs (fun i => hasL.getD i false) wx ∧ GrowRow W4.heap.size 74 3 1 71 6 alR S wx rvs xs (fs N) ∧ Hid (RRow xs N))
 case first =>
  go_wp2_with fail
  go_loopw [13] (fun x13 W => ∃ (k : Nat) (xs : List Value) (S : Nat → Prop), k ≤ N ∧ x13 = .int .i64 k ∧ SrcM W4 Bs Bh N (.slice da dl dc) rvs (fun i => hasL.getD i false) W ∧ GrowRow W4.heap.size 74 3 1 71 6 alR S W rvs xs (fs k) ∧ Hid (RRow xs N)) (fun x13 _ => N - (intOf x13).toNat)
  case atStart => exact ⟨0, xs, S, Nat.zero_le _, rfl, hM, hG, HR⟩
  case round =>
   clear hM hG HR
   obtain ⟨k, xs, S, hk, rfl, hM, hG, HR⟩ := hrel
   rename World => W
   by_cases hlt : k < N
   · have i1 : (k : Int) < (N : Int) := by omega
     have HStep := HF1.out k
     have hlk := HFL.out k
     have hll := HFS.out k k
     have hllk : (fs k)[k]? = some ((fs k).getD k []) := by rw [List.getD_eq_getElem?_getD, List.getElem?_eq_getElem (by rw [hlk]; exact hlt)]; rfl
     have hownN := hG.own
     rw [hlk] at hownN
     obtain ⟨g, cap, hrv, hg1, hg2⟩ := hownN.form (by omega)
     obtain ⟨u, us, hu, hU⟩ := hG.each k _ hllk
     have hug : some g ≠ u.ownBlock := fun h => hG.top k u g (by rw [hlk]; exact hlt) hu h.symm (by rw [hrv]; rfl)
     have hus : some Bs ≠ u.ownBlock := fun h => by have := (hU.own.lt Bs h.symm).1; omega
     have hltG := own_lt hG
     obtain ⟨ua, uc, hue⟩ := rd_slice hU.own
     subst hrv
     have hgs : g ≠ Bs := by omega
     have cu0 : W.cell? ⟨g, k * 3 + 1, none⟩ = some u := (hownN.cellAt (k * 3 + 1) (by omega)).trans hu
     have s2 : W.cell? ⟨Bs, 2, none⟩ = some (.slice (some ⟨g, 0, none⟩) N cap) := cell_of_row _ _ 2 _ _ _ hM.box
     have hhc := hM.has.cell (i := k) hlt
     have g4c := g4.out _ hM.turns
     have hWs := hM.turns.size
     unfold fStep at HStep
     have HSt := Lib.hid HStep
     generalize (fs k).getD k [] = LU at HSt hllk hU hll hue
     have hUo := hU.own
     generalize hln : LU.length = ln at HSt hll hue hUo
     subst hue
     have cuu := cu0
     have HLit := Lib.hid (fun W => gLit_any k (by omega) W)
     unfold LitIs at HLit
     generalize hasL.getD k false = hb at hhc HSt
     obtain ⟨i0, hi, iz0, iz1, iz2⟩ := rd_info gAltInfo
     have hn1m : ln + 1 ≤ maxLen := by unfold maxLen; omega
     have hn2m : (ln + 1) * 72 ≤ 140737488355328 := by omega
     clear HStep cu0 HFL HFS HF1 g4
     go_upto_region 30 with fail
     go_cut [197] from 173 to 215 (fun (x197 : Value) wx => ∃ bb : Bool, x197 = .bool bb ∧ (bb = true ↔ (ln = 0 ∨ (hb = false ∧ gb = false))) ∧ wx = W)
     case first =>
      clear HSt hltG hG hM HR hU hUo hllk hownN
      by_cases hl0 : ln = 0
      · have e0 : ((ln : Int) == 0) = true := by rw [beq_iff_eq]; omega
        go_wp2_with fail
        go_meet
        case rel => exact ⟨true, (by first | rfl | trivial), ⟨fun _ => .inl hl0, fun _ => (by first | rfl | trivial)⟩, rfl⟩
      · have e0 : ((ln : Int) == 0) = false := by rw [beq_eq_false_iff_ne]; omega
        cases hb with
        | true =>
          go_wp2_with fail
          go_meet
          case rel => exact ⟨false, (by first | rfl | trivial), ⟨fun e => (by cases e), fun e => (by rcases e with e | ⟨e, _⟩; exact absurd e hl0; cases e)⟩, rfl⟩
        | false =>
          cases gb with
          | true =>
            go_wp2_with fail
            go_meet
            case rel => exact ⟨false, (by first | rfl | trivial), ⟨fun e => (by cases e), fun e => (by rcases e with e | ⟨_, e⟩; exact absurd e hl0; cases e)⟩, rfl⟩
          | false =>
            go_wp2_with fail
            go_meet
            case rel => exact ⟨true, (by first | rfl | trivial), ⟨fun _ => (by right; simp), fun _ => (by first | rfl | trivial)⟩, rfl⟩
     case rest =>
      obtain ⟨bb, rfl, hbb, rfl⟩ := hcut
      rename World => W
      clear hhc g4c
      cases bb with
      | false =>
        have HAt : Hid (fs (k + 1) = fs k) := Lib.hid (by rw [HSt.out, if_neg (fun e => by have := hbb.2 e; cases this)])
        go_wp2_with fail
        go_round
        case rel => exact ⟨k + 1, xs, S, by omega, by go_num, hM, by rw [HAt.out]; exact hG, HR⟩
        case measure => simp [intOf]; omega
      | true =>
        have HAt : Hid (fs (k + 1) = (fs k).set k (LU ++ [litA k])) := Lib.hid (by rw [HSt.out, if_pos (hbb.1 rfl)])
        clear HSt hbb
        go_upto_region 31 with fail
        refine wp_region_held_drew (S := (fun X => X.cell? ⟨Bs, 2, none⟩ = some (.slice (some ⟨g, 0, none⟩) N cap))) (by as_aux_lemma => kernel_rfl) ?hS0 (fun hHeld => ?hR0)
        case hS0 => exact s2
        case hR0 =>
         refine tk 0 ?_
         try simp only [Act.put, gA, gB, gC, gD, gE, gF]
         refine tk 1 ?_
         try simp only [Act.put, gA, gB, gC, gD, gE, gF]
         refine tk 2 ?_
         try simp only [Act.put, gA, gB, gC, gD, gE, gF]
         refine tk 3 ?_
         try simp only [Act.put, gA, gB, gC, gD, gE, gF]
         refine tk 4 ?_
         try simp only [Act.put, gA, gB, gC, gD, gE, gF]
         refine tk 5 ?_
         try simp only [Act.put, gA, gB, gC, gD, gE, gF]
         refine tk 6 ?_
         try simp only [Act.put, gA, gB, gC, gD, gE, gF]
         refine tk 7 ?_
         try simp only [Act.put, gA, gB, gC, gD, gE, gF]
         refine tk 9 ?_
         try simp only [Act.put, gA, gB, gC, gD, gE, gF]
         refine wpAnyH_ready (rs := [8, 10]) (by as_aux_lemma => kernel_rfl) (by simp) ?_
         refine AllReadyH.cons rfl (fun K hK => ?_) ?_
         · try simp only [gA, gB, gC]
           go_simp
           refine hK.out _ _ s2 (fun hHeld => ?_)
           clear hK K
           try simp only [Act.put, gA, gB, gC, gD, gE, gF]
           refine wpAnyH_ready (rs := [10]) (by as_aux_lemma => kernel_rfl) (by simp) ?_
           refine AllReadyH.cons rfl (fun K hK => ?_) .nil
           try simp only [gA, gB, gC]
           go_simp
           go_at_call 34
           (refine (HLit.out _).mono ?_)
           rintro e w9 ⟨rfl, hb9⟩
           have h9 : Below W.heap.size W w9 := (Below.refl W.heap.size W).drew.trans hb9
           have h9s := h9.size
           have s9 : w9.cell? ⟨Bs, 2, none⟩ = some (.slice (some ⟨g, 0, none⟩) N cap) := (h9.cell (World.block_lt_of_cell? _ _ s2)).trans s2
           have c9 : w9.cell? ⟨g, k * 3 + 1, none⟩ = some (.slice ua ln uc) := (h9.cell (World.block_lt_of_cell? _ _ cuu)).trans cuu
           have sP := rdCell_alloc s9 (.cells #[.string (gLetB k), .bool true, .int .i64 0, .int .i64 0, .string ⟨#[]⟩, .int .i64 0] 78)
           have cP := rdCell_alloc c9 (.cells #[.string (gLetB k), .bool true, .int .i64 0, .int .i64 0, .string ⟨#[]⟩, .int .i64 0] 78)
           have sA := rdCell_alloc sP (.cells #[.slice (some ⟨w9.heap.size, 0, none⟩) 1 1, .string ⟨#[]⟩, .bool false, .int .i64 0, .int .i64 0, .int .i64 0] 71)
           have cA := rdCell_alloc cP (.cells #[.slice (some ⟨w9.heap.size, 0, none⟩) 1 1, .string ⟨#[]⟩, .bool false, .int .i64 0, .int .i64 0, .int .i64 0] 71)
           have kP := h9.alloc h9.size (.cells #[.string (gLetB k), .bool true, .int .i64 0, .int .i64 0, .string ⟨#[]⟩, .int .i64 0] 78)
           have k3 := kP.alloc kP.size (.cells #[.slice (some ⟨w9.heap.size, 0, none⟩) 1 1, .string ⟨#[]⟩, .bool false, .int .i64 0, .int .i64 0, .int .i64 0] 71)
           have hUa := own_below hUo k3
           have frA := (own_below hownN k3).frozenAt (k * 3 + 1)
           have hn4m : ((w9.alloc (.cells #[.string (gLetB k), .bool true, .int .i64 0, .int .i64 0, .string ⟨#[]⟩, .int .i64 0] 78)).alloc (.cells #[.slice (some ⟨w9.heap.size, 0, none⟩) 1 1, .string ⟨#[]⟩, .bool false, .int .i64 0, .int .i64 0, .int .i64 0] 71)).heap.size = w9.heap.size + 2 := by simp
           have hsP : (w9.alloc (.cells #[.string (gLetB k), .bool true, .int .i64 0, .int .i64 0, .string ⟨#[]⟩, .int .i64 0] 78)).heap.size = w9.heap.size + 1 := by simp
           have hP3 := heap_keep (w9.alloc (.cells #[.string (gLetB k), .bool true, .int .i64 0, .int .i64 0, .string ⟨#[]⟩, .int .i64 0] 78)) (.cells #[.slice (some ⟨w9.heap.size, 0, none⟩) 1 1, .string ⟨#[]⟩, .bool false, .int .i64 0, .int .i64 0, .int .i64 0] 71) (heap_made w9 #[.string (gLetB k), .bool true, .int .i64 0, .int .i64 0, .string ⟨#[]⟩, .int .i64 0] 78 _ rfl)
           have hnw : ∀ j u, ([.slice (some ⟨w9.heap.size, 0, none⟩) 1 1, .string ⟨#[]⟩, .bool false, .int .i64 0, .int .i64 0, .int .i64 0] : List Value)[j]? = some u → ((w9.alloc (.cells #[.string (gLetB k), .bool true, .int .i64 0, .int .i64 0, .string ⟨#[]⟩, .int .i64 0] 78)).alloc (.cells #[.slice (some ⟨w9.heap.size, 0, none⟩) 1 1, .string ⟨#[]⟩, .bool false, .int .i64 0, .int .i64 0, .int .i64 0] 71)).cell? ((⟨w9.heap.size + 1, 0, none⟩ : Addr).add j) = some u := by (rw [← hsP]; exact rd_news _ [.slice (some ⟨w9.heap.size, 0, none⟩) 1 1, .string ⟨#[]⟩, .bool false, .int .i64 0, .int .i64 0, .int .i64 0] _)
           have hSx : ∀ b, b = w9.heap.size → W4.heap.size ≤ b ∧ (Value.slice (some ⟨g, 0, none⟩) N cap).ownBlock ≠ some b ∧ ∀ i' u', i' < (fs k).length → xs[i' * 3 + 1]? = some u' → u'.ownBlock ≠ some b := fun b hb => ⟨by omega, fun e => by have := hltG.1 b e; omega, fun i' u' h1 h2 e => by have := hltG.2 i' u' b h1 h2 e; omega⟩
           have hgl : g < ((w9.alloc (.cells #[.string (gLetB k), .bool true, .int .i64 0, .int .i64 0, .string ⟨#[]⟩, .int .i64 0] 78)).alloc (.cells #[.slice (some ⟨w9.heap.size, 0, none⟩) 1 1, .string ⟨#[]⟩, .bool false, .int .i64 0, .int .i64 0, .int .i64 0] 71)).heap.size := by rw [hn4m]; have := hltG.1 g rfl; omega
           have hn3m : W4.heap.size ≤ ((w9.alloc (.cells #[.string (gLetB k), .bool true, .int .i64 0, .int .i64 0, .string ⟨#[]⟩, .int .i64 0] 78)).alloc (.cells #[.slice (some ⟨w9.heap.size, 0, none⟩) 1 1, .string ⟨#[]⟩, .bool false, .int .i64 0, .int .i64 0, .int .i64 0] 71)).heap.size := by rw [hn4m]; omega
           go_wp2_with fail
           refine hK.out _ _ s9 (fun hHeld => ?_)
           clear hK K
           try simp only [Act.put, gA, gB, gC, gD, gE, gF]
           refine tk 11 ?_
           try simp only [Act.put, gA, gB, gC, gD, gE, gF]
           refine wpAnyH_ready (rs := [12]) (by as_aux_lemma => kernel_rfl) (by simp) ?_
           refine AllReadyH.cons rfl (fun K hK => ?_) .nil
           try simp only [gA, gB, gC]
           go_simp
           refine hK.out _ _ sP (fun hHeld => ?_)
           clear hK K
           try simp only [Act.put, gA, gB, gC, gD, gE, gF]
           refine tk 13 ?_
           try simp only [Act.put, gA, gB, gC, gD, gE, gF]
           refine wpAnyH_ready (rs := [14]) (by as_aux_lemma => kernel_rfl) (by simp) ?_
           refine AllReadyH.cons rfl (fun K hK => ?_) .nil
           try simp only [gA, gB, gC]
           go_simp
           refine hK.out _ _ sA (fun hHeld => ?_)
           clear hK K
           try simp only [Act.put, gA, gB, gC, gD, gE, gF]
           refine wpAnyH_ready (rs := [15]) (by as_aux_lemma => kernel_rfl) (by simp) ?_
           refine AllReadyH.cons rfl (fun K hK => ?_) .nil
           skip
           refine step_append_lies _ (by rfl) _ _ _ (by rfl) W4.heap.size 71 i0 (.agg #[.slice none 0 0, .string ByteArray.empty, .bool false, .int .i64 0, .int .i64 0, .int .i64 0]) 6 72 Try.underlying72 hi iz0 iz1 iz2 rfl (by omega) (.slice ua ln uc) ln us (by rfl) hUa
             ⟨w9.heap.size + 1, 0, none⟩ 1 1 [.slice (some ⟨w9.heap.size, 0, none⟩) 1 1, .string ⟨#[]⟩, .bool false, .int .i64 0, .int .i64 0, .int .i64 0] (by rfl) (by rfl) hnw (by simp [Value.oneCell']) (by omega) hn1m hn2m hn3m (w9.heap.size + 2) hn4m ?_
           intro gg cap2 w5 hown5 hgrow5 hat hlt5
           have f5 : w5.cell? ⟨g, k * 3 + 1, none⟩ = some (.slice ua ln uc) := hgrow5.cell cA hug
           have k5 : w5.cell? ⟨Bs, 2, none⟩ = some (.slice (some ⟨g, 0, none⟩) N cap) := hgrow5.cell sA hus
           have r5 : w5.frozen? ⟨g, k * 3 + 1, none⟩ = false := (hgrow5.frozen_far ⟨g, k * 3 + 1, none⟩ hgl hug).trans frA
           refine hK.out _ _ k5 (fun hHeld => ?_)
           clear hK K
           try simp only [Act.put, gA, gB, gC, gD, gE, gF]
           refine tk 16 ?_
           try simp only [Act.put, gA, gB, gC, gD, gE, gF]
           refine tk 17 ?_
           try simp only [Act.put, gA, gB, gC, gD, gE, gF]
           refine wpAnyH_ready (rs := [18]) (by as_aux_lemma => kernel_rfl) (by simp) ?_
           refine AllReadyH.cons rfl (fun K hK => ?_) .nil
           try simp only [gA, gB, gC]
           go_simp
           refine hK.out _ _ ((World.cell?_setCell_far _ _ _ _ hgs).trans k5) (fun hHeld => ?_)
           clear hK K
           try simp only [Act.put, gA, gB, gC, gD, gE, gF]
           refine wpAnyH_done (by as_aux_lemma => kernel_rfl) ?_ _
           go_wp2_with fail
           have hmo := (hG.below k3).more (x := litA k) (cs := [.slice (some ⟨w9.heap.size, 0, none⟩) 1 1, .string ⟨#[]⟩, .bool false, .int .i64 0, .int .i64 0, .int .i64 0]) (S' := fun b => b = w9.heap.size) (by omega) rfl hllk hu (by rw [hln]; exact hown5) (hU.below k3) hgrow5 (own_new hat hn4m.symm) rfl ⟨fun b e => by (show b < _); rw [show b = w9.heap.size from e]; omega, fun w' hk' => ⟨_, rfl, glist_one ((hk' _ rfl).trans hP3) rfl rfl⟩⟩ hSx
           have hM7 := ((hM.ahead k3).grown hgrow5 (fun b hb => (hU.own.lt b hb).1) hB1 hB2).other (p := ⟨g, k * 3 + 1, none⟩) (show W4.heap.size ≤ g by exact hg1) hB1 hB2 (.slice (some ⟨gg, 0, none⟩) (ln + 1) cap2)
           have hG7 := hmo.1
           rw [← HAt.out] at hG7
           clear hmo hown5 hgrow5 f5 r5
           go_round
           case rel => exact ⟨k + 1, _, _, by omega, by go_num, hM7, hG7, Lib.hid HR.out.set⟩
           case measure => simp [intOf]; omega
         refine AllReadyH.cons rfl (fun K hK => ?_) .nil
         try simp only [gA, gB, gC]
         go_simp
         go_at_call 34
         (refine (HLit.out _).mono ?_)
         rintro e w9 ⟨rfl, hb9⟩
         have h9 : Below W.heap.size W w9 := (Below.refl W.heap.size W).drew.trans hb9
         have h9s := h9.size
         have s9 : w9.cell? ⟨Bs, 2, none⟩ = some (.slice (some ⟨g, 0, none⟩) N cap) := (h9.cell (World.block_lt_of_cell? _ _ s2)).trans s2
         have c9 : w9.cell? ⟨g, k * 3 + 1, none⟩ = some (.slice ua ln uc) := (h9.cell (World.block_lt_of_cell? _ _ cuu)).trans cuu
         have sP := rdCell_alloc s9 (.cells #[.string (gLetB k), .bool true, .int .i64 0, .int .i64 0, .string ⟨#[]⟩, .int .i64 0] 78)
         have cP := rdCell_alloc c9 (.cells #[.string (gLetB k), .bool true, .int .i64 0, .int .i64 0, .string ⟨#[]⟩, .int .i64 0] 78)
         have sA := rdCell_alloc sP (.cells #[.slice (some ⟨w9.heap.size, 0, none⟩) 1 1, .string ⟨#[]⟩, .bool false, .int .i64 0, .int .i64 0, .int .i64 0] 71)
         have cA := rdCell_alloc cP (.cells #[.slice (some ⟨w9.heap.size, 0, none⟩) 1 1, .string ⟨#[]⟩, .bool false, .int .i64 0, .int .i64 0, .int .i64 0] 71)
         have kP := h9.alloc h9.size (.cells #[.string (gLetB k), .bool true, .int .i64 0, .int .i64 0, .string ⟨#[]⟩, .int .i64 0] 78)
         have k3 := kP.alloc kP.size (.cells #[.slice (some ⟨w9.heap.size, 0, none⟩) 1 1, .string ⟨#[]⟩, .bool false, .int .i64 0, .int .i64 0, .int .i64 0] 71)
         have hUa := own_below hUo k3
         have frA := (own_below hownN k3).frozenAt (k * 3 + 1)
         have hn4m : ((w9.alloc (.cells #[.string (gLetB k), .bool true, .int .i64 0, .int .i64 0, .string ⟨#[]⟩, .int .i64 0] 78)).alloc (.cells #[.slice (some ⟨w9.heap.size, 0, none⟩) 1 1, .string ⟨#[]⟩, .bool false, .int .i64 0, .int .i64 0, .int .i64 0] 71)).heap.size = w9.heap.size + 2 := by simp
         have hsP : (w9.alloc (.cells #[.string (gLetB k), .bool true, .int .i64 0, .int .i64 0, .string ⟨#[]⟩, .int .i64 0] 78)).heap.size = w9.heap.size + 1 := by simp
         have hP3 := heap_keep (w9.alloc (.cells #[.string (gLetB k), .bool true, .int .i64 0, .int .i64 0, .string ⟨#[]⟩, .int .i64 0] 78)) (.cells #[.slice (some ⟨w9.heap.size, 0, none⟩) 1 1, .string ⟨#[]⟩, .bool false, .int .i64 0, .int .i64 0, .int .i64 0] 71) (heap_made w9 #[.string (gLetB k), .bool true, .int .i64 0, .int .i64 0, .string ⟨#[]⟩, .int .i64 0] 78 _ rfl)
         have hnw : ∀ j u, ([.slice (some ⟨w9.heap.size, 0, none⟩) 1 1, .string ⟨#[]⟩, .bool false, .int .i64 0, .int .i64 0, .int .i64 0] : List Value)[j]? = some u → ((w9.alloc (.cells #[.string (gLetB k), .bool true, .int .i64 0, .int .i64 0, .string ⟨#[]⟩, .int .i64 0] 78)).alloc (.cells #[.slice (some ⟨w9.heap.size, 0, none⟩) 1 1, .string ⟨#[]⟩, .bool false, .int .i64 0, .int .i64 0, .int .i64 0] 71)).cell? ((⟨w9.heap.size + 1, 0, none⟩ : Addr).add j) = some u := by (rw [← hsP]; exact rd_news _ [.slice (some ⟨w9.heap.size, 0, none⟩) 1 1, .string ⟨#[]⟩, .bool false, .int .i64 0, .int .i64 0, .int .i64 0] _)
         have hSx : ∀ b, b = w9.heap.size → W4.heap.size ≤ b ∧ (Value.slice (some ⟨g, 0, none⟩) N cap).ownBlock ≠ some b ∧ ∀ i' u', i' < (fs k).length → xs[i' * 3 + 1]? = some u' → u'.ownBlock ≠ some b := fun b hb => ⟨by omega, fun e => by have := hltG.1 b e; omega, fun i' u' h1 h2 e => by have := hltG.2 i' u' b h1 h2 e; omega⟩
         have hgl : g < ((w9.alloc (.cells #[.string (gLetB k), .bool true, .int .i64 0, .int .i64 0, .string ⟨#[]⟩, .int .i64 0] 78)).alloc (.cells #[.slice (some ⟨w9.heap.size, 0, none⟩) 1 1, .string ⟨#[]⟩, .bool false, .int .i64 0, .int .i64 0, .int .i64 0] 71)).heap.size := by rw [hn4m]; have := hltG.1 g rfl; omega
         have hn3m : W4.heap.size ≤ ((w9.alloc (.cells #[.string (gLetB k), .bool true, .int .i64 0, .int .i64 0, .string ⟨#[]⟩, .int .i64 0] 78)).alloc (.cells #[.slice (some ⟨w9.heap.size, 0, none⟩) 1 1, .string ⟨#[]⟩, .bool false, .int .i64 0, .int .i64 0, .int .i64 0] 71)).heap.size := by rw [hn4m]; omega
         go_wp2_with fail
         refine hK.out _ _ s9 (fun hHeld => ?_)
         clear hK K
         try simp only [Act.put, gA, gB, gC, gD, gE, gF]
         refine tk 11 ?_
         try simp only [Act.put, gA, gB, gC, gD, gE, gF]
         refine wpAnyH_ready (rs := [8, 12]) (by as_aux_lemma => kernel_rfl) (by simp) ?_
         refine AllReadyH.cons rfl (fun K hK => ?_) ?_
         · try simp only [gA, gB, gC]
           go_simp
           refine hK.out _ _ s9 (fun hHeld => ?_)
           clear hK K
           try simp only [Act.put, gA, gB, gC, gD, gE, gF]
           refine wpAnyH_ready (rs := [12]) (by as_aux_lemma => kernel_rfl) (by simp) ?_
           refine AllReadyH.cons rfl (fun K hK => ?_) .nil
           try simp only [gA, gB, gC]
           go_simp
           refine hK.out _ _ sP (fun hHeld => ?_)
           clear hK K
           try simp only [Act.put, gA, gB, gC, gD, gE, gF]
           refine tk 13 ?_
           try simp only [Act.put, gA, gB, gC, gD, gE, gF]
           refine wpAnyH_ready (rs := [14]) (by as_aux_lemma => kernel_rfl) (by simp) ?_
           refine AllReadyH.cons rfl (fun K hK => ?_) .nil
           try simp only [gA, gB, gC]
           go_simp
           refine hK.out _ _ sA (fun hHeld => ?_)
           clear hK K
           try simp only [Act.put, gA, gB, gC, gD, gE, gF]
           refine wpAnyH_ready (rs := [15]) (by as_aux_lemma => kernel_rfl) (by simp) ?_
           refine AllReadyH.cons rfl (fun K hK => ?_) .nil
           skip
           refine step_append_lies _ (by rfl) _ _ _ (by rfl) W4.heap.size 71 i0 (.agg #[.slice none 0 0, .string ByteArray.empty, .bool false, .int .i64 0, .int .i64 0, .int .i64 0]) 6 72 Try.underlying72 hi iz0 iz1 iz2 rfl (by omega) (.slice ua ln uc) ln us (by rfl) hUa
             ⟨w9.heap.size + 1, 0, none⟩ 1 1 [.slice (some ⟨w9.heap.size, 0, none⟩) 1 1, .string ⟨#[]⟩, .bool false, .int .i64 0, .int .i64 0, .int .i64 0] (by rfl) (by rfl) hnw (by simp [Value.oneCell']) (by omega) hn1m hn2m hn3m (w9.heap.size + 2) hn4m ?_
           intro gg cap2 w5 hown5 hgrow5 hat hlt5
           have f5 : w5.cell? ⟨g, k * 3 + 1, none⟩ = some (.slice ua ln uc) := hgrow5.cell cA hug
           have k5 : w5.cell? ⟨Bs, 2, none⟩ = some (.slice (some ⟨g, 0, none⟩) N cap) := hgrow5.cell sA hus
           have r5 : w5.frozen? ⟨g, k * 3 + 1, none⟩ = false := (hgrow5.frozen_far ⟨g, k * 3 + 1, none⟩ hgl hug).trans frA
           refine hK.out _ _ k5 (fun hHeld => ?_)
           clear hK K
           try simp only [Act.put, gA, gB, gC, gD, gE, gF]
           refine tk 16 ?_
           try simp only [Act.put, gA, gB, gC, gD, gE, gF]
           refine tk 17 ?_
           try simp only [Act.put, gA, gB, gC, gD, gE, gF]
           refine wpAnyH_ready (rs := [18]) (by as_aux_lemma => kernel_rfl) (by simp) ?_
           refine AllReadyH.cons rfl (fun K hK => ?_) .nil
           try simp only [gA, gB, gC]
           go_simp
           refine hK.out _ _ ((World.cell?_setCell_far _ _ _ _ hgs).trans k5) (fun hHeld => ?_)
           clear hK K
           try simp only [Act.put, gA, gB, gC, gD, gE, gF]
           refine wpAnyH_done (by as_aux_lemma => kernel_rfl) ?_ _
           go_wp2_with fail
           have hmo := (hG.below k3).more (x := litA k) (cs := [.slice (some ⟨w9.heap.size, 0, none⟩) 1 1, .string ⟨#[]⟩, .bool false, .int .i64 0, .int .i64 0, .int .i64 0]) (S' := fun b => b = w9.heap.size) (by omega) rfl hllk hu (by rw [hln]; exact hown5) (hU.below k3) hgrow5 (own_new hat hn4m.symm) rfl ⟨fun b e => by (show b < _); rw [show b = w9.heap.size from e]; omega, fun w' hk' => ⟨_, rfl, glist_one ((hk' _ rfl).trans hP3) rfl rfl⟩⟩ hSx
           have hM7 := ((hM.ahead k3).grown hgrow5 (fun b hb => (hU.own.lt b hb).1) hB1 hB2).other (p := ⟨g, k * 3 + 1, none⟩) (show W4.heap.size ≤ g by exact hg1) hB1 hB2 (.slice (some ⟨gg, 0, none⟩) (ln + 1) cap2)
           have hG7 := hmo.1
           rw [← HAt.out] at hG7
           clear hmo hown5 hgrow5 f5 r5
           go_round
           case rel => exact ⟨k + 1, _, _, by omega, by go_num, hM7, hG7, Lib.hid HR.out.set⟩
           case measure => simp [intOf]; omega
         refine AllReadyH.cons rfl (fun K hK => ?_) .nil
         try simp only [gA, gB, gC]
         go_simp
         refine hK.out _ _ sP (fun hHeld => ?_)
         clear hK K
         try simp only [Act.put, gA, gB, gC, gD, gE, gF]
         refine tk 13 ?_
         try simp only [Act.put, gA, gB, gC, gD, gE, gF]
         refine wpAnyH_ready (rs := [8, 14]) (by as_aux_lemma => kernel_rfl) (by simp) ?_
         refine AllReadyH.cons rfl (fun K hK => ?_) ?_
         · try simp only [gA, gB, gC]
           go_simp
           refine hK.out _ _ sP (fun hHeld => ?_)
           clear hK K
           try simp only [Act.put, gA, gB, gC, gD, gE, gF]
           refine wpAnyH_ready (rs := [14]) (by as_aux_lemma => kernel_rfl) (by simp) ?_
           refine AllReadyH.cons rfl (fun K hK => ?_) .nil
           try simp only [gA, gB, gC]
           go_simp
           refine hK.out _ _ sA (fun hHeld => ?_)
           clear hK K
           try simp only [Act.put, gA, gB, gC, gD, gE, gF]
           refine wpAnyH_ready (rs := [15]) (by as_aux_lemma => kernel_rfl) (by simp) ?_
           refine AllReadyH.cons rfl (fun K hK => ?_) .nil
           skip
           refine step_append_lies _ (by rfl) _ _ _ (by rfl) W4.heap.size 71 i0 (.agg #[.slice none 0 0, .string ByteArray.empty, .bool false, .int .i64 0, .int .i64 0, .int .i64 0]) 6 72 Try.underlying72 hi iz0 iz1 iz2 rfl (by omega) (.slice ua ln uc) ln us (by rfl) hUa
             ⟨w9.heap.size + 1, 0, none⟩ 1 1 [.slice (some ⟨w9.heap.size, 0, none⟩) 1 1, .string ⟨#[]⟩, .bool false, .int .i64 0, .int .i64 0, .int .i64 0] (by rfl) (by rfl) hnw (by simp [Value.oneCell']) (by omega) hn1m hn2m hn3m (w9.heap.size + 2) hn4m ?_
           intro gg cap2 w5 hown5 hgrow5 hat hlt5
           have f5 : w5.cell? ⟨g, k * 3 + 1, none⟩ = some (.slice ua ln uc) := hgrow5.cell cA hug
           have k5 : w5.cell? ⟨Bs, 2, none⟩ = some (.slice (some ⟨g, 0, none⟩) N cap) := hgrow5.cell sA hus
           have r5 : w5.frozen? ⟨g, k * 3 + 1, none⟩ = false := (hgrow5.frozen_far ⟨g, k * 3 + 1, none⟩ hgl hug).trans frA
           refine hK.out _ _ k5 (fun hHeld => ?_)
           clear hK K
           try simp only [Act.put, gA, gB, gC, gD, gE, gF]
           refine tk 16 ?_
           try simp only [Act.put, gA, gB, gC, gD, gE, gF]
           refine tk 17 ?_
           try simp only [Act.put, gA, gB, gC, gD, gE, gF]
           refine wpAnyH_ready (rs := [18]) (by as_aux_lemma => kernel_rfl) (by simp) ?_
           refine AllReadyH.cons rfl (fun K hK => ?_) .nil
           try simp only [gA, gB, gC]
           go_simp
           refine hK.out _ _ ((World.cell?_setCell_far _ _ _ _ hgs).trans k5) (fun hHeld => ?_)
           clear hK K
           try simp only [Act.put, gA, gB, gC, gD, gE, gF]
           refine wpAnyH_done (by as_aux_lemma => kernel_rfl) ?_ _
           go_wp2_with fail
           have hmo := (hG.below k3).more (x := litA k) (cs := [.slice (some ⟨w9.heap.size, 0, none⟩) 1 1, .string ⟨#[]⟩, .bool false, .int .i64 0, .int .i64 0, .int .i64 0]) (S' := fun b => b = w9.heap.size) (by omega) rfl hllk hu (by rw [hln]; exact hown5) (hU.below k3) hgrow5 (own_new hat hn4m.symm) rfl ⟨fun b e => by (show b < _); rw [show b = w9.heap.size from e]; omega, fun w' hk' => ⟨_, rfl, glist_one ((hk' _ rfl).trans hP3) rfl rfl⟩⟩ hSx
           have hM7 := ((hM.ahead k3).grown hgrow5 (fun b hb => (hU.own.lt b hb).1) hB1 hB2).other (p := ⟨g, k * 3 + 1, none⟩) (show W4.heap.size ≤ g by exact hg1) hB1 hB2 (.slice (some ⟨gg, 0, none⟩) (ln + 1) cap2)
           have hG7 := hmo.1
           rw [← HAt.out] at hG7
           clear hmo hown5 hgrow5 f5 r5
           go_round
           case rel => exact ⟨k + 1, _, _, by omega, by go_num, hM7, hG7, Lib.hid HR.out.set⟩
           case measure => simp [intOf]; omega
         refine AllReadyH.cons rfl (fun K hK => ?_) .nil
         try simp only [gA, gB, gC]
         go_simp
         refine hK.out _ _ sA (fun hHeld => ?_)
         clear hK K
         try simp only [Act.put, gA, gB, gC, gD, gE, gF]
         refine wpAnyH_ready (rs := [8]) (by as_aux_lemma => kernel_rfl) (by simp) ?_
         refine AllReadyH.cons rfl (fun K hK => ?_) .nil
         try simp only [gA, gB, gC]
         go_simp
         refine hK.out _ _ sA (fun hHeld => ?_)
         clear hK K
         try simp only [Act.put, gA, gB, gC, gD, gE, gF]
         refine wpAnyH_ready (rs := [15]) (by as_aux_lemma => kernel_rfl) (by simp) ?_
         refine AllReadyH.cons rfl (fun K hK => ?_) .nil
         skip
         refine step_append_lies _ (by rfl) _ _ _ (by rfl) W4.heap.size 71 i0 (.agg #[.slice none 0 0, .string ByteArray.empty, .bool false, .int .i64 0, .int .i64 0, .int .i64 0]) 6 72 Try.underlying72 hi iz0 iz1 iz2 rfl (by omega) (.slice ua ln uc) ln us (by rfl) hUa
           ⟨w9.heap.size + 1, 0, none⟩ 1 1 [.slice (some ⟨w9.heap.size, 0, none⟩) 1 1, .string ⟨#[]⟩, .bool false, .int .i64 0, .int .i64 0, .int .i64 0] (by rfl) (by rfl) hnw (by simp [Value.oneCell']) (by omega) hn1m hn2m hn3m (w9.heap.size + 2) hn4m ?_
         intro gg cap2 w5 hown5 hgrow5 hat hlt5
         have f5 : w5.cell? ⟨g, k * 3 + 1, none⟩ = some (.slice ua ln uc) := hgrow5.cell cA hug
         have k5 : w5.cell? ⟨Bs, 2, none⟩ = some (.slice (some ⟨g, 0, none⟩) N cap) := hgrow5.cell sA hus
         have r5 : w5.frozen? ⟨g, k * 3 + 1, none⟩ = false := (hgrow5.frozen_far ⟨g, k * 3 + 1, none⟩ hgl hug).trans frA
         refine hK.out _ _ k5 (fun hHeld => ?_)
         clear hK K
         try simp only [Act.put, gA, gB, gC, gD, gE, gF]
         refine tk 16 ?_
         try simp only [Act.put, gA, gB, gC, gD, gE, gF]
         refine tk 17 ?_
         try simp only [Act.put, gA, gB, gC, gD, gE, gF]
         refine wpAnyH_ready (rs := [18]) (by as_aux_lemma => kernel_rfl) (by simp) ?_
         refine AllReadyH.cons rfl (fun K hK => ?_) .nil
         try simp only [gA, gB, gC]
         go_simp
         refine hK.out _ _ ((World.cell?_setCell_far _ _ _ _ hgs).trans k5) (fun hHeld => ?_)
         clear hK K
         try simp only [Act.put, gA, gB, gC, gD, gE, gF]
         refine wpAnyH_done (by as_aux_lemma => kernel_rfl) ?_ _
         go_wp2_with fail
         have hmo := (hG.below k3).more (x := litA k) (cs := [.slice (some ⟨w9.heap.size, 0, none⟩) 1 1, .string ⟨#[]⟩, .bool false, .int .i64 0, .int .i64 0, .int .i64 0]) (S' := fun b => b = w9.heap.size) (by omega) rfl hllk hu (by rw [hln]; exact hown5) (hU.below k3) hgrow5 (own_new hat hn4m.symm) rfl ⟨fun b e => by (show b < _); rw [show b = w9.heap.size from e]; omega, fun w' hk' => ⟨_, rfl, glist_one ((hk' _ rfl).trans hP3) rfl rfl⟩⟩ hSx
         have hM7 := ((hM.ahead k3).grown hgrow5 (fun b hb => (hU.own.lt b hb).1) hB1 hB2).other (p := ⟨g, k * 3 + 1, none⟩) (show W4.heap.size ≤ g by exact hg1) hB1 hB2 (.slice (some ⟨gg, 0, none⟩) (ln + 1) cap2)
         have hG7 := hmo.1
         rw [← HAt.out] at hG7
         clear hmo hown5 hgrow5 f5 r5
         go_round
         case rel => exact ⟨k + 1, _, _, by omega, by go_num, hM7, hG7, Lib.hid HR.out.set⟩
         case measure => simp [intOf]; omega
   · obtain rfl : k = N := by omega
     go_wp2_with fail
     go_meet
     case rel => exact ⟨xs, S, hM, hG, HR⟩
 case rest =>
  exact hK u13 u173 u174 u175 u176 u177 u178 u179 u180 u181 u182 u183 u184 u185 u186 u187 u188 u189 u190 u191 u192 u193 u194 u195 u196 u197 u198 u199 u200 u201 u202 u203 u204 u205 u206 u207 u208 u209 u210 u211 u212 u213 u214 u215 _ hcut
end Go.Proofs.Ytkgbifbbpmdpgaa
