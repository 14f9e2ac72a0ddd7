/- The source of a grammar by numbers, walked. -/
import Derived.Test.YtkgbifbbpmdpgaaNGrL4
import Derived.Test.YtkgbifbbpmdpgaaNBox
import Derived.Deep.RegionLaw
import Derived.Deep.OwnRows
import Derived.Deep.CutRange
import Derived.Deep.CutBlock
import Derived.Outline
import Derived.IntWalk
import Derived.Deep.DeepCutAuto
import Derived.Deep.Cut
set_option linter.unusedVariables false
set_option linter.unusedSimpArgs false
namespace Go.Proofs.Ytkgbifbbpmdpgaa

open List renaming getElem_toArray → gA, getElem_cons_succ → gB, getElem_cons_zero → gC, setIfInBounds_toArray → gD, set_cons_zero → gE, set_cons_succ → gF
open Go.RowKit
set_option maxRecDepth 100000 in
set_option maxHeartbeats 100000000 in
theorem src_loop2 {w W4 W0 : World} {a1 : Option Addr} {n1 c1 : Nat} {a2 : Option Addr} {n2 c2 : Nat} {a3 : Option Addr} {n3 c3 : Nat} {rs : Nat → RSt} {N : Nat} {gn : Int} {gr : List (List Int)} {gi : List Int} {gb : Bool} {Bs Bh : Nat} {da : Option Addr} {dl dc : Nat} {rvs : Value} {xs : List Value}
  {v2 v6 v8 v9 v10 v11 v12 v13 v14 v15 v16 v17 v18 v19 v20 v21 v22 v23 v24 v25 v26 v27 v28 v29 v30 v31 v32 v33 v34 v35 v36 v37 v38 v39 v40 v41 v42 v43 v44 v45 v46 v47 v48 v49 v50 v51 v52 v53 v54 v55 v56 v57 v58 v59 v60 v61 v62 v63 v64 v65 v66 v67 v68 v69 v70 v71 v72 v73 v74 v75 v76 v77 v78 v79 v80 v81 v82 v83 v84 v85 v86 v87 v88 v89 v90 v91 v92 v93 v94 v95 v96 v97 v98 v99 v100 v101 v102 v103 v104 v105 v106 v107 v108 v109 v110 v111 v112 v113 v114 v115 v116 v117 v118 v119 v120 v121 v122 v123 v124 v125 v126 v127 v128 v129 v130 v131 v132 v133 v134 v135 v136 v137 v138 v139 v140 v141 v142 v143 v144 v145 v146 v147 v148 v149 v150 v151 v152 v153 v154 v155 v156 v157 v158 v159 v160 v161 v162 v163 v164 v165 v166 v167 v168 v169 v170 v171 v172 v173 v174 v175 v176 v177 v178 v179 v180 v181 v182 v183 v184 v185 v186 v187 v188 v189 v190 v191 v192 v193 v194 v195 v196 v197 v198 v199 v200 v201 v202 v203 v204 v205 v206 v207 v208 v209 v210 v211 v212 v213 v214 v215 v216 : Value} {K : Act → World → Prop} {RE : Ending → World → Prop}
  (hc1 : n1 ≤ c1) (hm1 : c1 ≤ 9223372036854775807) (hc3 : n3 ≤ c3) (hm3 : c3 ≤ 9223372036854775807)
  (HLA : Hid (∀ i k, ((rs i).1.getD k []).length ≤ i)) (HR0 : Hid (rs 0 = (List.replicate N [], List.replicate N false))) (HRL : Hid (∀ i, (rs i).1.length = N ∧ (rs i).2.length = N)) (hN14 : 1 ≤ N ∧ N ≤ 4)
  (HRi : Hid (∀ r, r ∈ gr → ∀ x, x ∈ r → InW x)) (HIi : Hid (∀ k, (Lit.int .i64 (gi.getD k 0)).wf = true)) (hn1 : Hid (n1 = gr.length))
  (hx1 : Hid (∀ i, i < n1 → ∃ b o u r, a1 = some ⟨b, o, none⟩ ∧ gr[i]? = some r ∧ w.cell? ⟨b, o + i, none⟩ = some u ∧ IntsV w u r)) (hn3 : Hid (n3 = gi.length))
  (hx3 : Hid (∀ i, i < n3 → ∃ b off, a3 = some ⟨b, off, none⟩ ∧ w.cell? ⟨b, off + i, none⟩ = some (.int .i64 (gi.getD i 0))))
  (HR1 : Hid (∀ i, rs (i + 1) = rStep N (gr.getD i []) (innA gi i) (innB gi i) (rs i)))
  (hb4 : Below w.heap.size w W4) (hB1 : Bs < W4.heap.size) (hB2 : Bh < W4.heap.size) (hB3 : Bh ≠ Bs) (hB4 : w.heap.size + 1 < Bs) (hB5 : w.heap.size + 1 < Bh) (hB6 : Bs < Bh)
  (hM : SrcM W4 Bs Bh N (.slice da dl dc) rvs (fun i => (rs 0).2.getD i false) W0) (HR : Hid (RRow xs N))
  (HOld : Hid (∀ V, Turns (fun b => b = Bs ∨ b = Bh) W4 V → ∀ p u, w.cell? p = some u → V.cell? p = some u))
  (HGb : Hid (∀ V, Turns (fun b => b = Bs ∨ b = Bh) W4 V → V.heap[w.heap.size]? = some (.cells #[.int .i64 gn, .slice a1 n1 c1, .slice a2 n2 c2, .slice a3 n3 c3, .bool gb] 29 (0, 0))))
  (hG0 : GrowRow W4.heap.size 74 3 1 71 6 alR (fun _ => False) W0 rvs xs (rs 0).1)
  (hhn : ∃ ra rc, rvs = .slice ra N rc)
  (hK : ∀ (x7 x8 x9 x10 x11 x12 x37 x38 x39 x40 x41 x42 x43 x44 x45 x46 x47 x48 x49 x50 x51 x52 x53 x54 x55 x56 x57 x58 x59 x60 x61 x62 x63 x64 x65 x66 x67 x68 x69 x70 x71 x72 x73 x74 x75 x76 x77 x78 x79 x80 x81 x82 x83 x84 x85 x86 x87 x88 x89 x90 x91 x92 x93 x94 x95 x96 x97 x98 x99 x100 x101 x102 x103 x104 x105 x106 x107 x108 x109 x110 x111 x112 x113 x114 x115 x116 x117 x118 x119 x120 x121 x122 x123 x124 x125 x126 x127 x128 x129 x130 x131 x132 x133 x134 x135 x136 x137 x138 x139 x140 x141 x142 x143 x144 x145 x146 x147 x148 x149 x150 x151 x152 x153 x154 x155 x156 x157 x158 x159 x160 x161 x162 x163 x164 x165 x166 x167 x168 x169 x170 x171 x172 : Value) (wx : World), (∃ (xs : List Value) (S : Nat → Prop), SrcM W4 Bs Bh N (.slice da dl dc) rvs (fun i => (rs (min n1 9)).2.getD i false) wx ∧ GrowRow W4.heap.size 74 3 1 71 6 alR S wx rvs xs (rs (min n1 9)).1 ∧ Hid (RRow xs N)) → K { tmps := List.toArray ((.agg #[.int .i64 gn, .slice a1 n1 c1, .slice a2 n2 c2, .slice a3 n3 c3, .bool gb] : Value) :: (.pointer (some ⟨w.heap.size, 0, none⟩) : Value) :: v2 :: (.int .i64 (N : Int) : Value) :: (.pointer (some ⟨Bs, 0, none⟩) : Value) :: (.slice (some ⟨Bh, 0, none⟩) N N : Value) :: v6 :: x7 :: x8 :: x9 :: x10 :: x11 :: x12 :: v13 :: v14 :: v15 :: v16 :: v17 :: v18 :: v19 :: v20 :: v21 :: v22 :: v23 :: v24 :: v25 :: v26 :: v27 :: v28 :: v29 :: v30 :: v31 :: v32 :: v33 :: v34 :: v35 :: v36 :: x37 :: x38 :: x39 :: x40 :: x41 :: x42 :: x43 :: x44 :: x45 :: x46 :: x47 :: x48 :: x49 :: x50 :: x51 :: x52 :: x53 :: x54 :: x55 :: x56 :: x57 :: x58 :: x59 :: x60 :: x61 :: x62 :: x63 :: x64 :: x65 :: x66 :: x67 :: x68 :: x69 :: x70 :: x71 :: x72 :: x73 :: x74 :: x75 :: x76 :: x77 :: x78 :: x79 :: x80 :: x81 :: x82 :: x83 :: x84 :: x85 :: x86 :: x87 :: x88 :: x89 :: x90 :: x91 :: x92 :: x93 :: x94 :: x95 :: x96 :: x97 :: x98 :: x99 :: x100 :: x101 :: x102 :: x103 :: x104 :: x105 :: x106 :: x107 :: x108 :: x109 :: x110 :: x111 :: x112 :: x113 :: x114 :: x115 :: x116 :: x117 :: x118 :: x119 :: x120 :: x121 :: x122 :: x123 :: x124 :: x125 :: x126 :: x127 :: x128 :: x129 :: x130 :: x131 :: x132 :: x133 :: x134 :: x135 :: x136 :: x137 :: x138 :: x139 :: x140 :: x141 :: x142 :: x143 :: x144 :: x145 :: x146 :: x147 :: x148 :: x149 :: x150 :: x151 :: x152 :: x153 :: x154 :: x155 :: x156 :: x157 :: x158 :: x159 :: x160 :: x161 :: x162 :: x163 :: x164 :: x165 :: x166 :: x167 :: x168 :: x169 :: x170 :: x171 :: x172 :: v173 :: v174 :: v175 :: v176 :: v177 :: v178 :: v179 :: v180 :: v181 :: v182 :: v183 :: v184 :: v185 :: v186 :: v187 :: v188 :: v189 :: v190 :: v191 :: v192 :: v193 :: v194 :: v195 :: v196 :: v197 :: v198 :: v199 :: v200 :: v201 :: v202 :: v203 :: v204 :: v205 :: v206 :: v207 :: v208 :: v209 :: v210 :: v211 :: v212 :: v213 :: v214 :: v215 :: v216 :: []), defers := [] } wx) :
  Code.wp Try.prog ((blockOf 2 (Try.f12.body.getD .skip)).getD .skip) (Exit.then K (bodyPost Try.prog Try.f12 RE)) { tmps := List.toArray ((.agg #[.int .i64 gn, .slice a1 n1 c1, .slice a2 n2 c2, .slice a3 n3 c3, .bool gb] : Value) :: (.pointer (some ⟨w.heap.size, 0, none⟩) : Value) :: v2 :: (.int .i64 (N : Int) : Value) :: (.pointer (some ⟨Bs, 0, none⟩) : Value) :: (.slice (some ⟨Bh, 0, none⟩) N N : Value) :: v6 :: (.int .i64 0 : Value) :: v8 :: v9 :: v10 :: v11 :: v12 :: v13 :: v14 :: v15 :: v16 :: v17 :: v18 :: v19 :: v20 :: v21 :: v22 :: v23 :: v24 :: v25 :: v26 :: v27 :: v28 :: v29 :: v30 :: v31 :: v32 :: v33 :: v34 :: v35 :: v36 :: v37 :: v38 :: v39 :: v40 :: v41 :: v42 :: v43 :: v44 :: v45 :: v46 :: v47 :: v48 :: v49 :: v50 :: v51 :: v52 :: v53 :: v54 :: v55 :: v56 :: v57 :: v58 :: v59 :: v60 :: v61 :: v62 :: v63 :: v64 :: v65 :: v66 :: v67 :: v68 :: v69 :: v70 :: v71 :: v72 :: v73 :: v74 :: v75 :: v76 :: v77 :: v78 :: v79 :: v80 :: v81 :: v82 :: v83 :: v84 :: v85 :: v86 :: v87 :: v88 :: v89 :: v90 :: v91 :: v92 :: v93 :: v94 :: v95 :: v96 :: v97 :: v98 :: v99 :: v100 :: v101 :: v102 :: v103 :: v104 :: v105 :: v106 :: v107 :: v108 :: v109 :: v110 :: v111 :: v112 :: v113 :: v114 :: v115 :: v116 :: v117 :: v118 :: v119 :: v120 :: v121 :: v122 :: v123 :: v124 :: v125 :: v126 :: v127 :: v128 :: v129 :: v130 :: v131 :: v132 :: v133 :: v134 :: v135 :: v136 :: v137 :: v138 :: v139 :: v140 :: v141 :: v142 :: v143 :: v144 :: v145 :: v146 :: v147 :: v148 :: v149 :: v150 :: v151 :: v152 :: v153 :: v154 :: v155 :: v156 :: v157 :: v158 :: v159 :: v160 :: v161 :: v162 :: v163 :: v164 :: v165 :: v166 :: v167 :: v168 :: v169 :: v170 :: v171 :: v172 :: v173 :: v174 :: v175 :: v176 :: v177 :: v178 :: v179 :: v180 :: v181 :: v182 :: v183 :: v184 :: v185 :: v186 :: v187 :: v188 :: v189 :: v190 :: v191 :: v192 :: v193 :: v194 :: v195 :: v196 :: v197 :: v198 :: v199 :: v200 :: v201 :: v202 :: v203 :: v204 :: v205 :: v206 :: v207 :: v208 :: v209 :: v210 :: v211 :: v212 :: v213 :: v214 :: v215 :: v216 :: []), defers := [] } W0 := by
 conv => arg 2; whnf
 go_cut [7] from 37 to 172 (fun (x7 : Value) wx => ∃ (xs : List Value) (S : Nat → Prop), SrcM W4 Bs Bh N (.slice da dl dc) rvs (fun i => (rs (min n1 9)).2.getD i false) wx ∧ GrowRow W4.heap.size 74 3 1 71 6 alR S wx rvs xs (rs (min n1 9)).1 ∧ Hid (RRow xs N))
 case first =>
  go_wp2_with fail
  go_loopw [7] (fun x7 W => ∃ (k : Nat) (xs : List Value) (S : Nat → Prop), k ≤ n1 ∧ k ≤ 9 ∧ x7 = .int .i64 k ∧ SrcM W4 Bs Bh N (.slice da dl dc) rvs (fun i => (rs k).2.getD i false) W ∧ GrowRow W4.heap.size 74 3 1 71 6 alR S W rvs xs (rs k).1 ∧ Hid (RRow xs N)) (fun x7 _ => n1 - (intOf x7).toNat)
  case atStart => exact ⟨0, xs, _, Nat.zero_le _, Nat.zero_le _, rfl, hM, hG0, HR⟩
  case round =>
   clear hM hG0 HR
   obtain ⟨k, xs, S, hk, hk9, rfl, hM, hG, HR⟩ := hrel
   rename World => W
   have hgbW := HGb.out _ hM.turns
   have g1 := cell_of_row _ _ 1 _ _ _ hgbW
   by_cases hgo : k < n1 ∧ k < 9
   · obtain ⟨hlt, hlt9⟩ := hgo
     obtain ⟨b, o, u, r, rfl, er, cu0, hu⟩ := hx1.out k hlt
     obtain ⟨a4, n4, c4, rfl, hn4, hc4, hm4, hx4⟩ := hu.open
     have cu := HOld.out _ hM.turns _ _ cu0
     have HStep := Lib.hid (HR1.out k)
     rw [getD_at er] at HStep
     have hrin := HRi.out r (List.mem_of_getElem? er)
     have HRl := Lib.hid (HRL.out k)
     have i1 : (k : Int) < (n1 : Int) := by omega
     have i2 : (k : Int) < 9 := by omega
     clear hx1 hu er HRi HRL HR1 HR0
     by_cases h0 : n4 = 0
     · have HA : Hid (rs (k + 1) = rs k) := Lib.hid (by rw [HStep.out]; unfold rStep; rw [if_pos (by have := hn4.out; omega)])
       have i3 : ((n4 : Int) == 0) = true := by rw [beq_iff_eq]; omega
       clear hx3 hx4 HStep
       go_wp2_with fail
       go_round
       case rel => exact ⟨k + 1, xs, S, by omega, by omega, by go_num, by rw [HA.out]; exact hM, by rw [HA.out]; exact hG, HR⟩
       case measure => simp [intOf]; omega
     · obtain ⟨b4, o4, ha4, cz⟩ := hx4.out 0 (by omega)
       subst ha4
       have c0 := HOld.out _ hM.turns _ _ cz
       rw [Nat.add_zero] at c0
       have hcells : Hid (∀ V, Turns (fun b => b = Bs ∨ b = Bh) W4 V → ∀ j, j < n4 → V.cell? ⟨b4, o4 + j, none⟩ = some (.int .i64 (r.getD j 0))) := Lib.hid (fun V hT j hj => by
        obtain ⟨b', o', e1, e2⟩ := hx4.out j hj
        cases e1
        exact HOld.out _ hT _ _ e2)
       have HA : Hid (rs (k + 1) = ((rs k).1.set (r.getD 0 0 % (N : Int)).toNat ((rs k).1.getD (r.getD 0 0 % (N : Int)).toNat [] ++ [altG N r (innA gi k) (innB gi k)]), (rs k).2.set (r.getD 0 0 % (N : Int)).toNat ((rs k).2.getD (r.getD 0 0 % (N : Int)).toNat false || plainG N r (min n4 5 - 1)))) := Lib.hid (by
        rw [HStep.out]; unfold rStep; rw [if_neg (by have := hn4.out; omega), hn4.out])
       have HAl : Hid (altG N r (innA gi k) (innB gi k) = ⟨partsG N r (innA gi k) (min n4 5 - 1) ++ (if innB gi k = true then [ptC codeB] else []), noSm, 0⟩) := Lib.hid (by unfold altG; rw [hn4.out])
       have hwf0 := inW_at hrin 0
       have HWk : Hid (∀ W, Calls Try.prog 20 #[.int .i64 (r.getD 0 0), .int .i64 (N : Int)] W fun e w' => e = .returned (.int .i64 ((r.getD 0 0 % (N : Int)).toNat : Int)) ∧ W = w') := Lib.hid (fun W => by
        have h9 := Int.emod_nonneg (r.getD 0 0) (show (N : Int) ≠ 0 by omega)
        rw [show (((r.getD 0 0 % (N : Int)).toNat : Nat) : Int) = r.getD 0 0 % ((N : Nat) : Int) by omega]
        exact within_any (r.getD 0 0) N W hwf0 (by omega) (by omega))
       have hkk : (r.getD 0 0 % (N : Int)).toNat < N := by
        have h9 := Int.emod_nonneg (r.getD 0 0) (show (N : Int) ≠ 0 by omega)
        have h8 := Int.emod_lt_of_pos (r.getD 0 0) (show (0 : Int) < (N : Int) by omega)
        omega
       have HIA : Hid (innA gi k = (decide (k < n3) && (Int.tmod (gi.getD k 0) 3 == 1))) := Lib.hid (by unfold innA; rw [hn3.out])
       have HIB : Hid (innB gi k = (decide (k < n3) && (Int.tmod (gi.getD k 0) 2 != 0))) := Lib.hid (by unfold innB; rw [hn3.out])
       generalize innA gi k = ia at HA HAl HIA
       generalize innB gi k = ib at HA HAl HIB
       generalize altG N r ia ib = ALT at HA HAl
       generalize hr0 : r.getD 0 0 = x0 at c0 HWk HA hkk
       generalize (x0 % (N : Int)).toNat = kk at HA HWk hkk
       have i3 : ((n4 : Int) == 0) = false := by rw [beq_eq_false_iff_ne]; omega
       have i4 : (0 : Int) < (n4 : Int) := by omega
       have HSy : Hid (∀ j W, Calls Try.prog 33 #[.int .i64 (r.getD j 0), .int .i64 (N : Int)] W fun e w' => e = .returned (symG (r.getD j 0) N).agg ∧ Below W.heap.size W w') := Lib.hid (fun j W => gSym_any (r.getD j 0) N (inW_at hrin j) hN14.1 hN14.2 W)
       clear HStep cz hx4 hwf0 hr0 hrin
       go_upto_region 13 with (first | (go_at_call 20; (with_reducible refine (HWk.out _).mono ?_); rintro e w9 ⟨rfl, rfl⟩))
       have HCu : Hid (∀ V, Turns (fun b => b = Bs ∨ b = Bh) W4 V → V.cell? ⟨b, o + k, none⟩ = some (.slice (some ⟨b4, o4, none⟩) n4 c4)) := Lib.hid (fun V hT => HOld.out _ hT _ _ cu0)
       clear c0 cu HWk i3 i4 g1 hgbW
       go_upto_region 14 with fail
       have hbA : Below W.heap.size W (W.alloc (.cells #[.slice none 0 0, .string ⟨#[]⟩, .bool false, .int .i64 0, .int .i64 0, .int .i64 0] 71)) := (Below.refl W.heap.size W).alloc (Nat.le_refl _) _
       have hA0 := heap_made W #[.slice none 0 0, .string ⟨#[]⟩, .bool false, .int .i64 0, .int .i64 0, .int .i64 0] 71 _ rfl
       have hsA : W.heap.size + 1 ≤ (W.alloc (.cells #[.slice none 0 0, .string ⟨#[]⟩, .bool false, .int .i64 0, .int .i64 0, .int .i64 0] 71)).heap.size := by simp
       generalize W.alloc (.cells #[.slice none 0 0, .string ⟨#[]⟩, .bool false, .int .i64 0, .int .i64 0, .int .i64 0] 71) = V0 at hbA hA0 hsA ⊢
       have hBA : Hid (W.heap.size = W.heap.size) := Lib.hid rfl
       generalize hBae : W.heap.size = Ba at hbA hA0 hsA ⊢
       have hW4B : W4.heap.size ≤ Ba := by have := hM.turns.size; omega
       go_upto_block 4 with fail
       go_cut [10] from 64 to 128 (fun (x10 : Value) wx => ∃ (pv : Value) (ys : List Value), x10 = .bool (plainG N r (min n4 5 - 1)) ∧ Below Ba W wx ∧ Ba + 1 ≤ wx.heap.size ∧ wx.heap[Ba]? = some (.cells #[pv, .string ⟨#[]⟩, .bool false, .int .i64 0, .int .i64 0, .int .i64 0] 71 (0, 0)) ∧ GrowL (Ba + 1) 78 6 ptR (fun _ => False) wx pv ys (partsG N r ia (min n4 5 - 1)))
       case first =>
        clear HA HAl HIB hb4 hB3 hB4 hB5 hkk HRl HR hG
        go_wp2_with fail
        go_loopw [10, 11] (fun x10 x11 V => ∃ (j : Nat) (pv : Value) (ys : List Value), 1 ≤ j ∧ j ≤ n4 ∧ j ≤ 5 ∧ x11 = .int .i64 (j : Int) ∧ x10 = .bool (plainG N r (j - 1)) ∧ Below Ba W V ∧ Ba + 1 ≤ V.heap.size ∧ V.heap[Ba]? = some (.cells #[pv, .string ⟨#[]⟩, .bool false, .int .i64 0, .int .i64 0, .int .i64 0] 71 (0, 0)) ∧ GrowL (Ba + 1) 78 6 ptR (fun _ => False) V pv ys (partsG N r ia (j - 1))) (fun _ x11 _ => n4 - (intOf x11).toNat)
        case atStart => exact ⟨1, .slice none 0 0, [], by omega, by omega, by omega, rfl, rfl, hbA, hsA, hA0, GrowL.nil _ _ _ _ _⟩
        case round =>
         clear hbA hA0 hsA
         obtain ⟨j, pv, ys, hj1, hjn, hj5, rfl, rfl, hbV, hsV, hAV, hg⟩ := hrel
         rename World => V
         have HT : Hid (∀ V', Below Ba W V' → Turns (fun b => b = Bs ∨ b = Bh) W4 V') := Lib.hid (fun V' h => hM.turns.trans (Turns.of_below (S := (fun b => b = Bs ∨ b = Bh)) (by rw [hBae]; exact h)) (fun _ _ h => h))
         have hTV := HT.out V hbV
         have hgbV := HGb.out _ hTV
         have g1 := cell_of_row V _ 1 _ _ _ hgbV
         have cu := HCu.out _ hTV
         by_cases hgo2 : j < n4 ∧ j < 5
         · obtain ⟨hjt, hjt5⟩ := hgo2
           have cj := hcells.out _ hTV j hjt
           have HSj := Lib.hid (HSy.out j V)
           have HPl := Lib.hid (plain_step (N := N) (r := r) hj1)
           have HPa := Lib.hid (parts_step (N := N) (r := r) (ia := ia) hj1)
           have hal := gParts_len (N := N) (r := r) (ia := ia) (j - 1)
           have HJ2 : Hid (j + 1 - 1 = j) := Lib.hid rfl
           generalize symG (r.getD j 0) N = y at HSj HPl HPa
           generalize r.getD j 0 = xj at cj HSj
           generalize plainG N r (j - 1) = pl at HPl ⊢
           generalize partsG N r ia (j - 1) = acc at HPa hg hal
           obtain ⟨yn, yl, ym, yp⟩ := y
           unfold Sm.agg at HSj
           simp only at HSj
           have i3 : (j : Int) < (n4 : Int) := by omega
           have i4 : (j : Int) < 5 := by omega
           clear hcells HSy
           go_upto_region 19 with (first | (go_at_call 33; (with_reducible refine HSj.out.mono ?_); rintro e V1 ⟨rfl, hv1⟩))
           have hX0 := heap_made V1 #[.string yn, .bool yl, .int .i64 ym, .int .i64 yp] 68 _ rfl
           have hAX := heap_keep V1 (.cells #[.string yn, .bool yl, .int .i64 ym, .int .i64 yp] 68) (block_below hAV hv1 (by omega))
           have hvX := hv1.alloc hv1.size (.cells #[.string yn, .bool yl, .int .i64 ym, .int .i64 yp] 68)
           have hsX : V1.heap.size < (V1.alloc (.cells #[.string yn, .bool yl, .int .i64 ym, .int .i64 yp] 68)).heap.size := by simp
           have hgX := hg.below hvX
           have hbX := hbV.trans (hvX.mono (by omega))
           have hXV : V.heap.size ≤ V1.heap.size := hv1.size
           generalize V1.alloc (.cells #[.string yn, .bool yl, .int .i64 ym, .int .i64 yp] 68) = V2 at hX0 hAX hvX hsX hgX hbX ⊢
           generalize V1.heap.size = X at hX0 hsX hXV ⊢
           clear hbV hAV hg hv1 hvX cj HSj cu g1 hgbV hTV
           have x0 := cell_of_row V2 _ 0 _ _ _ hX0
           have x1 := cell_of_row V2 _ 1 _ _ _ hX0
           go_cut [10] from 64 to 128 (fun (x10 : Value) wx => x10 = .bool (pl && plainS ⟨yn, yl, ym, yp⟩) ∧ wx = V2)
           case first =>
            clear HT HGb HCu
            have HPS : Hid (plainS ⟨yn, yl, ym, yp⟩ = (yl || (yn.toList == gErrB.toList))) := Lib.hid rfl
            cases pl with
            | false =>
              go_wp2_with fail
              go_meet
              case rel => exact ⟨rfl, rfl⟩
            | true =>
              cases yl with
              | true =>
                go_wp2_with fail
                go_meet
                case rel => exact ⟨by rw [HPS.out]; rfl, rfl⟩
              | false =>
                have hEl : gErrB.toList = [101, 114, 114, 111, 114] := by decide +kernel
                cases hE : (yn.toList == [101, 114, 114, 111, 114]) with
                | true =>
                  go_wp2_with fail
                  go_meet
                  case rel => exact ⟨by rw [HPS.out, hEl, hE]; rfl, rfl⟩
                | false =>
                  go_wp2_with fail
                  go_meet
                  case rel => exact ⟨by rw [HPS.out, hEl, hE]; rfl, rfl⟩
           case rest =>
            obtain ⟨rfl, rfl⟩ := hcut
            rename World => V2
            clear x0 x1
            have x0 := cell_of_row V2 _ 0 _ _ _ hX0
            have x1 := cell_of_row V2 _ 1 _ _ _ hX0
            have x2 := cell_of_row V2 _ 2 _ _ _ hX0
            have x3 := cell_of_row V2 _ 3 _ _ _ hX0
            have d0 : V2.cell? ⟨Ba, 0, none⟩ = some pv := cell_of_row _ _ 0 _ _ _ hAX
            have hown := hgX.own
            have hob := fun g (h : pv.ownBlock = some g) => own_base hown (Nat.le_refl _) g h
            have hne : some Ba ≠ pv.ownBlock := fun h => by have := hob Ba h.symm; omega
            obtain ⟨i0, hi, iz0, iz1, iz2⟩ := rd_info gPartInfo
            have a0 := rdCell_alloc d0 (.cells #[.string yn, .bool yl, .int .i64 ym, .int .i64 yp, .string ⟨#[]⟩, .int .i64 0] 78)
            have fr0 := free_of_block (j := 0) (heap_keep _ (.cells #[.string yn, .bool yl, .int .i64 ym, .int .i64 yp, .string ⟨#[]⟩, .int .i64 0] 78) hAX)
            go_upto_region 21 with (first | (refine wpList_append_lies _ (by rfl) _ _ _ (by rfl) (Ba + 1) 78 i0 (.agg #[.string ByteArray.empty, .bool false, .int .i64 0, .int .i64 0, .string ByteArray.empty, .int .i64 0]) 6 64 Try.underlying69 hi iz0 iz1 iz2 rfl (by omega) pv acc.length ys (by rfl) (hown.alloc _) ⟨V2.heap.size, 0, none⟩ 1 1 [.string yn, .bool yl, .int .i64 ym, .int .i64 yp, .string ⟨#[]⟩, .int .i64 0] (by rfl) (by rfl) (rd_news V2 _ _) (by simp [Value.oneCell']) (by omega) (by unfold maxLen; omega) (by omega) (by simp; omega) (V2.heap.size + 1) (by simp) ?_; intro gg cap w9 hown9 hgrow9 hat hlt9; have f9 : w9.cell? ⟨Ba, 0, none⟩ = some pv := hgrow9.cell a0 hne; have r9 := (hgrow9.frozen_far ⟨Ba, 0, none⟩ (show Ba < (V2.alloc _).heap.size from by simp; omega) hne).trans fr0))
            have k9 := (Below.refl V2.heap.size V2).alloc (Nat.le_refl _) (.cells #[.string yn, .bool yl, .int .i64 ym, .int .i64 yp, .string ⟨#[]⟩, .int .i64 0] 78)
            have hpu := hgX.box0 (j := 0) (x := ptS ⟨yn, yl, ym, yp⟩) (cs := [.string yn, .bool yl, .int .i64 ym, .int .i64 yp, .string ⟨#[]⟩, .int .i64 0]) k9 hown9 hgrow9 (own_new hat (by simp)) rfl (fun X => rfl) (Nat.lt_succ_self Ba) hAX
            have hqD := hpu.2.2.1 Ba (Nat.le_refl _)
            have hb9 := hbX.trans ((k9.mono (by omega)).trans hqD)
            have hs9 : Ba + 1 ≤ (w9.setCell ⟨Ba, 0, none⟩ (.slice (some ⟨gg, 0, none⟩) (acc.length + 1) cap)).heap.size := by have := hqD.size; simp at this ⊢; omega
            have hgN := hpu.1
            have hAN := hpu.2.1
            clear hpu hqD k9 d0 x0 x1 x2 x3 hown hob hne a0 fr0 f9 r9 hown9 hgrow9 hAX hgX hbX hsX hX0 i0 hi iz0 iz1 iz2
            generalize w9.setCell ⟨Ba, 0, none⟩ (.slice (some ⟨gg, 0, none⟩) (acc.length + 1) cap) = V5 at hgN hAN hb9 hs9 ⊢
            have hT5 := HT.out V5 hb9
            have hgb5 := HGb.out _ hT5
            have g3 := cell_of_row V5 _ 3 _ _ _ hgb5
            have HO5 : Hid (∀ p u, w.cell? p = some u → V5.cell? p = some u) := Lib.hid (fun p u hp => HOld.out _ hT5 _ _ hp)
            go_cut [122] from 64 to 128 (fun (x122 : Value) wx => ∃ bb : Bool, x122 = .bool bb ∧ (bb = true ↔ (j = 1 ∧ ia = true)) ∧ wx = V5)
            case first =>
             clear HCu hgN hAN hb9 hs9
             by_cases h3 : k < n3
             · obtain ⟨b5, o5, rfl, cz⟩ := hx3.out k h3
               have c5 := HO5.out _ _ cz
               have i5 : (k : Int) < (n3 : Int) := by omega
               generalize gi.getD k 0 = z at c5 HIA
               clear cz hx3 HO5
               by_cases hj : j = 1
               · have jb : ((j : Int) == 1) = true := by rw [beq_iff_eq]; omega
                 by_cases ht : Int.tmod z 3 = 1
                 · have tb : (Int.tmod z 3 == 1) = true := by rw [beq_iff_eq]; exact ht
                   go_wp2_with fail
                   go_meet
                   case rel => exact ⟨true, rfl, ⟨fun _ => ⟨hj, by rw [HIA.out, tb, decide_eq_true h3]; rfl⟩, fun _ => rfl⟩, rfl⟩
                 · have tb : (Int.tmod z 3 == 1) = false := by rw [beq_eq_false_iff_ne]; exact ht
                   go_wp2_with fail
                   go_meet
                   case rel => exact ⟨false, rfl, ⟨fun e => (by cases e), fun e => (by rw [HIA.out, tb, Bool.and_false] at e; exact e.2)⟩, rfl⟩
               · have jb : ((j : Int) == 1) = false := by rw [beq_eq_false_iff_ne]; omega
                 go_wp2_with fail
                 go_meet
                 case rel => exact ⟨false, rfl, ⟨fun e => (by cases e), fun e => absurd e.1 hj⟩, rfl⟩
             · have i5 : ¬ (k : Int) < (n3 : Int) := by omega
               clear hx3 HO5
               go_wp2_with fail
               go_meet
               case rel => exact ⟨false, rfl, ⟨fun e => (by cases e), fun e => (by rw [HIA.out, decide_eq_false h3, Bool.false_and] at e; exact e.2)⟩, rfl⟩
            case rest =>
             obtain ⟨bb, rfl, hbb, rfl⟩ := hcut
             rename World => V5
             clear g3 hgb5 hT5
             cases bb with
             | false =>
               have HPf : Hid (partsG N r ia j = acc ++ [ptS ⟨yn, yl, ym, yp⟩]) := Lib.hid (by rw [HPa.out, if_neg (fun e => by have := hbb.2 e; cases this), List.append_nil])
               go_wp2_with fail
               go_round
               case rel => exact ⟨j + 1, _, _, by omega, by omega, by omega, by go_num, by rw [HJ2.out, HPl.out], hb9, hs9, hAN, by rw [HJ2.out, HPf.out]; exact hgN⟩
               case measure => simp [intOf]; omega
             | true =>
               have hj1e := (hbb.1 rfl).1
               have HPt : Hid (partsG N r ia j = acc ++ [ptS ⟨yn, yl, ym, yp⟩] ++ [ptC codeA]) := Lib.hid (by rw [HPa.out, if_pos (hbb.1 rfl)])
               have hal2 : (acc ++ [ptS ⟨yn, yl, ym, yp⟩]).length ≤ 9 := by simp; omega
               generalize acc ++ [ptS ⟨yn, yl, ym, yp⟩] = acc2 at hgN HPt hal2
               generalize Value.slice (some ⟨gg, 0, none⟩) (acc.length + 1) cap = pv2 at hgN hAN ⊢
               generalize ys ++ [.string yn, .bool yl, .int .i64 ym, .int .i64 yp, .string ⟨#[]⟩, .int .i64 0] = ys2 at hgN
               have d0 : V5.cell? ⟨Ba, 0, none⟩ = some pv2 := cell_of_row _ _ 0 _ _ _ hAN
               have hown := hgN.own
               have hob := fun g (h : pv2.ownBlock = some g) => own_base hown (Nat.le_refl _) g h
               have hne : some Ba ≠ pv2.ownBlock := fun h => by have := hob Ba h.symm; omega
               obtain ⟨i0, hi, iz0, iz1, iz2⟩ := rd_info gPartInfo
               have a0 := rdCell_alloc d0 (.cells #[.string ⟨#[]⟩, .bool false, .int .i64 0, .int .i64 0, .string ⟨#[123, 36, 36, 32, 61, 32, 36, 49, 125]⟩, .int .i64 0] 78)
               have fr0 := free_of_block (j := 0) (heap_keep _ (.cells #[.string ⟨#[]⟩, .bool false, .int .i64 0, .int .i64 0, .string ⟨#[123, 36, 36, 32, 61, 32, 36, 49, 125]⟩, .int .i64 0] 78) hAN)
               go_upto_region 17 with (first | (refine wpList_append_lies _ (by rfl) _ _ _ (by rfl) (Ba + 1) 78 i0 (.agg #[.string ByteArray.empty, .bool false, .int .i64 0, .int .i64 0, .string ByteArray.empty, .int .i64 0]) 6 64 Try.underlying69 hi iz0 iz1 iz2 rfl (by omega) pv2 acc2.length ys2 (by rfl) (hown.alloc _) ⟨V5.heap.size, 0, none⟩ 1 1 [.string ⟨#[]⟩, .bool false, .int .i64 0, .int .i64 0, .string ⟨#[123, 36, 36, 32, 61, 32, 36, 49, 125]⟩, .int .i64 0] (by rfl) (by rfl) (rd_news V5 _ _) (by simp [Value.oneCell']) (by omega) (by unfold maxLen; omega) (by omega) (by simp; omega) (V5.heap.size + 1) (by simp) ?_; intro gg_1 cap_1 w9 hown9 hgrow9 hat hlt9; have f9 : w9.cell? ⟨Ba, 0, none⟩ = some pv2 := hgrow9.cell a0 hne; have r9 := (hgrow9.frozen_far ⟨Ba, 0, none⟩ (show Ba < (V5.alloc _).heap.size from by simp; omega) hne).trans fr0))
               have k9 := (Below.refl V5.heap.size V5).alloc (Nat.le_refl _) (.cells #[.string ⟨#[]⟩, .bool false, .int .i64 0, .int .i64 0, .string ⟨#[123, 36, 36, 32, 61, 32, 36, 49, 125]⟩, .int .i64 0] 78)
               have hpu := hgN.box0 (j := 0) (x := ptC codeA) (cs := [.string ⟨#[]⟩, .bool false, .int .i64 0, .int .i64 0, .string ⟨#[123, 36, 36, 32, 61, 32, 36, 49, 125]⟩, .int .i64 0]) k9 hown9 hgrow9 (own_new hat (by simp)) rfl (fun X => rfl) (Nat.lt_succ_self Ba) hAN
               have hqD := hpu.2.2.1 Ba (Nat.le_refl _)
               have hb10 := hb9.trans ((k9.mono (by omega)).trans hqD)
               have hs10 : Ba + 1 ≤ (w9.setCell ⟨Ba, 0, none⟩ (.slice (some ⟨gg_1, 0, none⟩) (acc2.length + 1) cap_1)).heap.size := by have := hqD.size; simp at this ⊢; omega
               have hgN2 := hpu.1
               have hAN2 := hpu.2.1
               clear hpu hqD k9 d0 hown hob hne a0 fr0 f9 r9 hown9 hgrow9 hAN hgN
               go_wp2_with fail
               go_round
               case rel => exact ⟨j + 1, _, _, by omega, by omega, by omega, by go_num, by rw [HJ2.out, HPl.out], hb10, hs10, hAN2, by rw [HJ2.out, HPt.out]; exact hgN2⟩
               case measure => simp [intOf]; omega
         · have hjm : min n4 5 - 1 = j - 1 := by omega
           clear hcells HSy
           by_cases hjn4 : j < n4
           all_goals
            go_wp2_with fail
            go_meet
            case rel => exact ⟨pv, ys, by rw [hjm], hbV, hsV, hAV, by rw [hjm]; exact hg⟩
       case rest =>
        obtain ⟨pv, ys, rfl, hbV, hsV, hAV, hg⟩ := hcut
        rename World => V
        clear hbA hA0 hsA HSy hcells HCu HIA
        have hPAl := gParts_len (N := N) (r := r) (ia := ia) (min n4 5 - 1)
        generalize plainG N r (min n4 5 - 1) = PLN at HA ⊢
        generalize partsG N r ia (min n4 5 - 1) = PA at HAl hg hPAl
        have HT : Hid (∀ V', Below Ba W V' → Turns (fun b => b = Bs ∨ b = Bh) W4 V') := Lib.hid (fun V' h => hM.turns.trans (Turns.of_below (S := (fun b => b = Bs ∨ b = Bh)) (by rw [hBae]; exact h)) (fun _ _ h => h))
        have hTV := HT.out V hbV
        have g3 := cell_of_row V _ 3 _ _ _ (HGb.out _ hTV)
        go_upto_region 23 with fail
        go_cut [142] from 37 to 172 (fun (x142 : Value) wx => x142 = .bool ib ∧ wx = V)
        case first =>
         have HO5 : Hid (∀ p u, w.cell? p = some u → V.cell? p = some u) := Lib.hid (fun p u hp => HOld.out _ hTV _ _ hp)
         clear HGb HOld HA HAl HR hG hM hg hAV HT hTV
         by_cases h3 : k < n3
         · obtain ⟨b5, o5, rfl, cz⟩ := hx3.out k h3
           have c5 := HO5.out _ _ cz
           have i5 : (k : Int) < (n3 : Int) := by omega
           generalize gi.getD k 0 = z at c5 HIB
           clear cz hx3 HO5
           by_cases ht : Int.tmod z 2 = 0
           · have tb : (Int.tmod z 2 != 0) = false := by simp [ht]
             go_wp2_with fail
             go_meet
             case rel => exact ⟨by rw [HIB.out, tb, Bool.and_false], rfl⟩
           · have tb : (Int.tmod z 2 != 0) = true := by simp [ht]
             go_wp2_with fail
             go_meet
             case rel => exact ⟨by rw [HIB.out, tb, decide_eq_true h3]; rfl, rfl⟩
         · have i5 : ¬ (k : Int) < (n3 : Int) := by omega
           clear hx3 HO5
           go_wp2_with fail
           go_meet
           case rel => exact ⟨by rw [HIB.out, decide_eq_false h3, Bool.false_and], rfl⟩
        case rest =>
         obtain ⟨rfl, rfl⟩ := hcut
         rename World => V
         clear g3 hx3 HIB
         go_upto_if 142 with fail
         go_cut [8] from 37 to 172 (fun (x8 : Value) wx => ∃ (pv : Value) (ys : List Value), x8 = .int .i64 (kk : Int) ∧ Below Ba W wx ∧ Ba + 1 ≤ wx.heap.size ∧ wx.heap[Ba]? = some (.cells #[pv, .string ⟨#[]⟩, .bool false, .int .i64 0, .int .i64 0, .int .i64 0] 71 (0, 0)) ∧ GrowL (Ba + 1) 78 6 ptR (fun _ => False) wx pv ys (PA ++ (if ib = true then [ptC codeB] else [])))
         case first =>
          clear HGb HOld HA HAl HR hG hM HT hTV
          cases ib with
          | false =>
            go_wp2_with fail
            go_meet
            case rel => exact ⟨pv, ys, rfl, hbV, hsV, hAV, by rw [if_neg (by decide), List.append_nil]; exact hg⟩
          | true =>
            have d0 : V.cell? ⟨Ba, 0, none⟩ = some pv := cell_of_row _ _ 0 _ _ _ hAV
            have hown := hg.own
            have hob := fun g (h : pv.ownBlock = some g) => own_base hown (Nat.le_refl _) g h
            have hne : some Ba ≠ pv.ownBlock := fun h => by have := hob Ba h.symm; omega
            obtain ⟨i0, hi, iz0, iz1, iz2⟩ := rd_info gPartInfo
            have a0 := rdCell_alloc d0 (.cells #[.string ⟨#[]⟩, .bool false, .int .i64 0, .int .i64 0, .string ⟨#[123, 102, 40, 36, 36, 41, 125]⟩, .int .i64 0] 78)
            have fr0 := free_of_block (j := 0) (heap_keep _ (.cells #[.string ⟨#[]⟩, .bool false, .int .i64 0, .int .i64 0, .string ⟨#[123, 102, 40, 36, 36, 41, 125]⟩, .int .i64 0] 78) hAV)
            go_upto_region 25 with (first | (refine wpList_append_lies _ (by rfl) _ _ _ (by rfl) (Ba + 1) 78 i0 (.agg #[.string ByteArray.empty, .bool false, .int .i64 0, .int .i64 0, .string ByteArray.empty, .int .i64 0]) 6 64 Try.underlying69 hi iz0 iz1 iz2 rfl (by omega) pv PA.length ys (by rfl) (hown.alloc _) ⟨V.heap.size, 0, none⟩ 1 1 [.string ⟨#[]⟩, .bool false, .int .i64 0, .int .i64 0, .string ⟨#[123, 102, 40, 36, 36, 41, 125]⟩, .int .i64 0] (by rfl) (by rfl) (rd_news V _ _) (by simp [Value.oneCell']) (by omega) (by unfold maxLen; omega) (by omega) (by simp; omega) (V.heap.size + 1) (by simp) ?_; intro gg cap w9 hown9 hgrow9 hat hlt9; have f9 : w9.cell? ⟨Ba, 0, none⟩ = some pv := hgrow9.cell a0 hne; have r9 := (hgrow9.frozen_far ⟨Ba, 0, none⟩ (show Ba < (V.alloc _).heap.size from by simp; omega) hne).trans fr0))
            have k9 := (Below.refl V.heap.size V).alloc (Nat.le_refl _) (.cells #[.string ⟨#[]⟩, .bool false, .int .i64 0, .int .i64 0, .string ⟨#[123, 102, 40, 36, 36, 41, 125]⟩, .int .i64 0] 78)
            have hpu := hg.box0 (j := 0) (x := ptC codeB) (cs := [.string ⟨#[]⟩, .bool false, .int .i64 0, .int .i64 0, .string ⟨#[123, 102, 40, 36, 36, 41, 125]⟩, .int .i64 0]) k9 hown9 hgrow9 (own_new hat (by simp)) rfl (fun X => rfl) (Nat.lt_succ_self Ba) hAV
            have hqD := hpu.2.2.1 Ba (Nat.le_refl _)
            have hb10 := hbV.trans ((k9.mono (by omega)).trans hqD)
            have hs10 : Ba + 1 ≤ (w9.setCell ⟨Ba, 0, none⟩ (.slice (some ⟨gg, 0, none⟩) (PA.length + 1) cap)).heap.size := by have := hqD.size; simp at this ⊢; omega
            go_wp2_with fail
            go_meet
            case rel => exact ⟨_, _, rfl, hb10, hs10, hpu.2.1, by rw [if_pos trivial]; exact hpu.1⟩
         case rest =>
          clear hAV hg hbV hsV
          obtain ⟨pv, ys, rfl, hbV, hsV, hAV, hg⟩ := hcut
          rename World => V
          have hbV' : Below W.heap.size W V := by rw [hBae]; exact hbV
          have hMV := hM.ahead hbV'
          have hkl := HRl.out
          have hhc := hMV.has.cell (i := kk) hkk
          have hhf := hMV.has.frozen kk
          have hGS := Lib.hid (getD_set (l := (rs k).2) (k := kk) (x := (rs k).2.getD kk false || PLN) (d := false) (by rw [hkl.2]; exact hkk))
          have hal : ALT = ⟨PA ++ (if ib = true then [ptC codeB] else []), noSm, 0⟩ := HAl.out
          have hpal : (PA ++ (if ib = true then [ptC codeB] else [])).length ≤ 30 := by split <;> simp <;> omega
          generalize PA ++ (if ib = true then [ptC codeB] else []) = PB at hg hal hpal
          have hAk : (rs (k + 1)).1 = (rs k).1.set kk ((rs k).1.getD kk [] ++ [ALT]) := by rw [HA.out]
          have hHk : (fun j => (rs (k + 1)).2.getD j false) = fun j => if j = kk then ((rs k).2.getD kk false || PLN) else (rs k).2.getD j false := by rw [HA.out]; exact hGS.out
          have hfk : Hid (∀ j, (fun i => (rs k).2.getD i false) j = (rs k).2.getD j false) := Lib.hid (fun j => rfl)
          have hllk : ((rs k).1)[kk]? = some ((rs k).1.getD kk []) := by rw [List.getD_eq_getElem?_getD, List.getElem?_eq_getElem (by rw [hkl.1]; exact hkk)]; rfl
          clear HA HAl hGS HT HOld HGb hTV
          generalize hb0e : (rs k).2.getD kk false = hb0 at hhc hHk
          have i5 : (kk : Int) < (N : Int) := by omega
          have HMk := Lib.hid (hMV.mark (k := kk) (Ne.symm hB3) (hb0 || PLN))
          have hG2 := hG.below hbV'
          have hltG := own_lt hG
          go_upto_region 25 with fail
          go_cut [8] from 37 to 172 (fun (x8 : Value) wx => x8 = .int .i64 (kk : Int) ∧ wx = (V.setCell ⟨Bh, kk, none⟩ (.bool (hb0 || PLN))))
          case first =>
           clear HMk hG2 hltG hG hM hMV hAV hg hAk hHk hllk hal
           cases hb0 with
           | true =>
             go_wp2_with fail
             go_meet
             case rel => exact ⟨rfl, rfl⟩
           | false =>
             go_wp2_with fail
             go_meet
             case rel => exact ⟨rfl, rfl⟩
          case rest =>
           obtain ⟨rfl, rfl⟩ := hcut
           have hM6 := HMk.out
           have hsz6 : (V.setCell ⟨Bh, kk, none⟩ (.bool (hb0 || PLN))).heap.size = V.heap.size := by simp
           have hG6 := hG2.keep (w' := (V.setCell ⟨Bh, kk, none⟩ (.bool (hb0 || PLN)))) (fun b h1 _ => Below.heap_setCell _ _ _ _ (show b ≠ Bh by omega)) (by rw [hsz6]; exact Nat.le_refl _)
           have hA6 : (V.setCell ⟨Bh, kk, none⟩ (.bool (hb0 || PLN))).heap[Ba]? = _ := (Below.heap_setCell _ _ _ _ (show Ba ≠ Bh by omega)).trans hAV
           have hg6 : GrowL (Ba + 1) 78 6 ptR (fun _ => False) (V.setCell ⟨Bh, kk, none⟩ (.bool (hb0 || PLN))) pv ys PB := hg.keep (fun b hb => Below.heap_setCell _ _ _ _ (show b ≠ Bh by rcases hb with hb | hb; exact hb.elim; have := own_base hg.own (Nat.le_refl _) b hb; omega))
           have hs6 : Ba + 1 ≤ (V.setCell ⟨Bh, kk, none⟩ (.bool (hb0 || PLN))).heap.size := by rw [hsz6]; exact hsV
           rw [show (fun j => if j = kk then (hb0 || PLN) else (fun i => (rs k).2.getD i false) j) = fun j => (rs (k + 1)).2.getD j false from hHk.symm] at hM6
           clear HMk hG2 hMV hAV hg hhc hhf hsz6 hbV hbV' hG hM hHk hb0e
           generalize (V.setCell ⟨Bh, kk, none⟩ (.bool (hb0 || PLN))) = V6 at hM6 hG6 hA6 hg6 hs6 ⊢
           obtain ⟨pa, pc, hpv⟩ := rd_slice hg6.own
           have hPf := (hg6.firm (by omega))
           have hpo : ∀ b, pv.ownBlock = some b → Ba + 1 ≤ b := fun b hb => own_base hg6.own (Nat.le_refl _) b hb
           generalize PB.length = pn at hpv
           subst hpv
           obtain ⟨u, us, hu, hU⟩ := hG6.each kk _ hllk
           have hown6 := hG6.own
           rw [hkl.1] at hown6
           obtain ⟨g, cap, hrv, hg1, hg2⟩ := hown6.form (by omega)
           have hug : some g ≠ u.ownBlock := fun h => hG6.top kk u g (by rw [hkl.1]; exact hkk) hu h.symm (by rw [hrv]; rfl)
           have hus : some Bs ≠ u.ownBlock := fun h => by have := (hU.own.lt Bs h.symm).1; omega
           have hltu : ∀ i' u' b, i' < (rs k).1.length → xs[i' * 3 + 1]? = some u' → u'.ownBlock = some b → b < Ba := fun i' u' b h1 h2 h3 => by have := hltG.2 i' u' b h1 h2 h3; omega
           have hltv : ∀ b, rvs.ownBlock = some b → b < Ba := fun b h3 => by have := hltG.1 b h3; omega
           subst hrv
           have cuu : V6.cell? ⟨g, kk * 3 + 1, none⟩ = some u := (hown6.cellAt (kk * 3 + 1) (by omega)).trans hu
           have s2 : V6.cell? ⟨Bs, 2, none⟩ = some (.slice (some ⟨g, 0, none⟩) N cap) := cell_of_row _ _ 2 _ _ _ hM6.box
           have y0 := cell_of_row V6 _ 0 _ _ _ hA6
           have y1 := cell_of_row V6 _ 1 _ _ _ hA6
           have y2 := cell_of_row V6 _ 2 _ _ _ hA6
           have y3 := cell_of_row V6 _ 3 _ _ _ hA6
           have y4 := cell_of_row V6 _ 4 _ _ _ hA6
           have y5 := cell_of_row V6 _ 5 _ _ _ hA6
           have kA : _ ∧ _ ∧ _ ∧ _ ∧ _ ∧ _ ∧ _ := ⟨rdCell_alloc (w := V6.drew) s2 (.cells #[.slice pa pn pc, .string ⟨#[]⟩, .bool false, .int .i64 0, .int .i64 0, .int .i64 0] 71), rdCell_alloc (w := V6.drew) y0 (.cells #[.slice pa pn pc, .string ⟨#[]⟩, .bool false, .int .i64 0, .int .i64 0, .int .i64 0] 71), rdCell_alloc (w := V6.drew) y1 (.cells #[.slice pa pn pc, .string ⟨#[]⟩, .bool false, .int .i64 0, .int .i64 0, .int .i64 0] 71), rdCell_alloc (w := V6.drew) y2 (.cells #[.slice pa pn pc, .string ⟨#[]⟩, .bool false, .int .i64 0, .int .i64 0, .int .i64 0] 71), rdCell_alloc (w := V6.drew) y3 (.cells #[.slice pa pn pc, .string ⟨#[]⟩, .bool false, .int .i64 0, .int .i64 0, .int .i64 0] 71), rdCell_alloc (w := V6.drew) y4 (.cells #[.slice pa pn pc, .string ⟨#[]⟩, .bool false, .int .i64 0, .int .i64 0, .int .i64 0] 71), rdCell_alloc (w := V6.drew) y5 (.cells #[.slice pa pn pc, .string ⟨#[]⟩, .bool false, .int .i64 0, .int .i64 0, .int .i64 0] 71)⟩
           have cA := rdCell_alloc (w := V6.drew) cuu (.cells #[.slice pa pn pc, .string ⟨#[]⟩, .bool false, .int .i64 0, .int .i64 0, .int .i64 0] 71)
           have frA := (World.ownsRow.alloc (w := V6.drew) hown6 (.cells #[.slice pa pn pc, .string ⟨#[]⟩, .bool false, .int .i64 0, .int .i64 0, .int .i64 0] 71)).frozenAt (kk * 3 + 1)
           have hUa := World.ownsRow.alloc (w := V6.drew) hU.own (.cells #[.slice pa pn pc, .string ⟨#[]⟩, .bool false, .int .i64 0, .int .i64 0, .int .i64 0] 71)
           have hW4s : W4.heap.size ≤ V6.heap.size := hM6.turns.size
           have hlu : ((rs k).1.getD kk []).length ≤ k := HLA.out k kk
           obtain ⟨i0, hi, iz0, iz1, iz2⟩ := rd_info gAltInfo
           generalize hLU : (rs k).1.getD kk [] = LU at hllk hU hUa hlu hAk
           have hSx : ∀ b, ((fun _ => False) b ∨ (Value.slice pa pn pc).ownBlock = some b) → W4.heap.size ≤ b ∧ (Value.slice (some ⟨g, 0, none⟩) N cap).ownBlock ≠ some b ∧ ∀ i' u', i' < (rs k).1.length → xs[i' * 3 + 1]? = some u' → u'.ownBlock ≠ some b := fun b hb => by
            have h9 : Ba + 1 ≤ b := hb.elim (fun h => h.elim) (hpo b)
            exact ⟨by omega, fun e => by have := hltv b e; omega, fun i' u' h1 h2 e => by have := hltu i' u' b h1 h2 e; omega⟩
           have hua : some Ba ≠ u.ownBlock := fun h => by have := hltu kk u Ba (by rw [hkl.1]; exact hkk) hu h.symm; omega
           have hgB : g < Ba := hltv g rfl
           have hgs : g ≠ Bs := by omega
           have hga : g ≠ Ba := by omega
           have hn1m : LU.length + 1 ≤ maxLen := by unfold maxLen; omega
           have hn2m : (LU.length + 1) * 72 ≤ 140737488355328 := by omega
           have hn3m : W4.heap.size ≤ (V6.drew.alloc (.cells #[.slice pa pn pc, .string ⟨#[]⟩, .bool false, .int .i64 0, .int .i64 0, .int .i64 0] 71)).heap.size := by simp; omega
           have hn4m : (V6.drew.alloc (.cells #[.slice pa pn pc, .string ⟨#[]⟩, .bool false, .int .i64 0, .int .i64 0, .int .i64 0] 71)).heap.size = V6.heap.size + 1 := by simp
           have hgl : g < (V6.drew.alloc (.cells #[.slice pa pn pc, .string ⟨#[]⟩, .bool false, .int .i64 0, .int .i64 0, .int .i64 0] 71)).heap.size := by rw [hn4m]; omega
           clear HLA hltu hltv hpo hkl hltG
           go_upto_region 26 with fail
           refine wp_region_held_drew (S := (fun X => X.cell? ⟨Bs, 2, none⟩ = some (.slice (some ⟨g, 0, none⟩) N cap) ∧ X.cell? ⟨Ba, 0, none⟩ = some (.slice pa pn pc) ∧ X.cell? ⟨Ba, 1, none⟩ = some (.string ⟨#[]⟩) ∧ X.cell? ⟨Ba, 2, none⟩ = some (.bool false) ∧ X.cell? ⟨Ba, 3, none⟩ = some (.int .i64 0) ∧ X.cell? ⟨Ba, 4, none⟩ = some (.int .i64 0) ∧ X.cell? ⟨Ba, 5, none⟩ = some (.int .i64 0))) (by as_aux_lemma => kernel_rfl) ?hS0 (fun hHeld => ?hR0)
           case hS0 => exact ⟨s2, y0, y1, y2, y3, y4, y5⟩
           case hR0 =>
            refine tk 0 ?_
            try simp only [Act.put, gA, gB, gC, gD, gE, gF]
            refine tk 1 ?_
            try simp only [Act.put, gA, gB, gC, gD, gE, gF]
            refine tk 2 ?_
            try simp only [Act.put, gA, gB, gC, gD, gE, gF]
            refine tk 3 ?_
            try simp only [Act.put, gA, gB, gC, gD, gE, gF]
            refine tk 4 ?_
            try simp only [Act.put, gA, gB, gC, gD, gE, gF]
            refine tk 5 ?_
            try simp only [Act.put, gA, gB, gC, gD, gE, gF]
            refine tk 6 ?_
            try simp only [Act.put, gA, gB, gC, gD, gE, gF]
            refine tk 7 ?_
            try simp only [Act.put, gA, gB, gC, gD, gE, gF]
            refine tk 9 ?_
            try simp only [Act.put, gA, gB, gC, gD, gE, gF]
            refine wpAnyH_ready (rs := [8, 10]) (by as_aux_lemma => kernel_rfl) (by simp) ?_
            refine AllReadyH.cons rfl (fun K hK => ?_) ?_
            · try simp only [gA, gB, gC]
              go_simp
              refine hK.out _ _ (by assumption) (fun hHeld => ?_)
              clear hK K
              try simp only [Act.put, gA, gB, gC, gD, gE, gF]
              refine wpAnyH_ready (rs := [10]) (by as_aux_lemma => kernel_rfl) (by simp) ?_
              refine AllReadyH.cons rfl (fun K hK => ?_) .nil
              try simp only [gA, gB, gC]
              go_simp
              refine hK.out _ _ kA (fun hHeld => ?_)
              clear hK K
              try simp only [Act.put, gA, gB, gC, gD, gE, gF]
              refine wpAnyH_ready (rs := [11]) (by as_aux_lemma => kernel_rfl) (by simp) ?_
              refine AllReadyH.cons rfl (fun K hK => ?_) .nil
              skip
              refine step_append_lies _ (by rfl) _ _ _ (by rfl) W4.heap.size 71 i0 (.agg #[.slice none 0 0, .string ByteArray.empty, .bool false, .int .i64 0, .int .i64 0, .int .i64 0]) 6 72 Try.underlying72 hi iz0 iz1 iz2 rfl (by omega) u LU.length us (by rfl) hUa
                ⟨V6.drew.heap.size, 0, none⟩ 1 1 [.slice pa pn pc, .string ⟨#[]⟩, .bool false, .int .i64 0, .int .i64 0, .int .i64 0] (by rfl) (by rfl) (rd_news V6.drew _ _) (by simp [Value.oneCell']) (by omega) hn1m hn2m hn3m (V6.heap.size + 1) hn4m ?_
              intro gg cap2 w5 hown5 hgrow5 hat hlt5
              have f5 : w5.cell? ⟨g, kk * 3 + 1, none⟩ = some u := hgrow5.cell cA hug
              have k5 : _ ∧ _ ∧ _ ∧ _ ∧ _ ∧ _ ∧ _ := ⟨hgrow5.cell kA.1 hus, hgrow5.cell kA.2.1 hua, hgrow5.cell kA.2.2.1 hua, hgrow5.cell kA.2.2.2.1 hua, hgrow5.cell kA.2.2.2.2.1 hua, hgrow5.cell kA.2.2.2.2.2.1 hua, hgrow5.cell kA.2.2.2.2.2.2 hua⟩
              have r5 : w5.frozen? ⟨g, kk * 3 + 1, none⟩ = false := (hgrow5.frozen_far ⟨g, kk * 3 + 1, none⟩ hgl hug).trans frA
              refine hK.out _ _ k5 (fun hHeld => ?_)
              clear hK K
              try simp only [Act.put, gA, gB, gC, gD, gE, gF]
              refine tk 12 ?_
              try simp only [Act.put, gA, gB, gC, gD, gE, gF]
              refine tk 13 ?_
              try simp only [Act.put, gA, gB, gC, gD, gE, gF]
              refine wpAnyH_ready (rs := [14]) (by as_aux_lemma => kernel_rfl) (by simp) ?_
              refine AllReadyH.cons rfl (fun K hK => ?_) .nil
              try simp only [gA, gB, gC]
              go_simp
              refine hK.out _ _ ⟨(World.cell?_setCell_far _ _ _ _ hgs).trans k5.1, (World.cell?_setCell_far _ _ _ _ hga).trans k5.2.1, (World.cell?_setCell_far _ _ _ _ hga).trans k5.2.2.1, (World.cell?_setCell_far _ _ _ _ hga).trans k5.2.2.2.1, (World.cell?_setCell_far _ _ _ _ hga).trans k5.2.2.2.2.1, (World.cell?_setCell_far _ _ _ _ hga).trans k5.2.2.2.2.2.1, (World.cell?_setCell_far _ _ _ _ hga).trans k5.2.2.2.2.2.2⟩ (fun hHeld => ?_)
              clear hK K
              try simp only [Act.put, gA, gB, gC, gD, gE, gF]
              refine wpAnyH_done (by as_aux_lemma => kernel_rfl) ?_ _
              go_wp2_with fail
              have k9 := ((Below.refl V6.heap.size V6).drew).alloc (Nat.le_refl _) (.cells #[.slice pa pn pc, .string ⟨#[]⟩, .bool false, .int .i64 0, .int .i64 0, .int .i64 0] 71)
              have hmo := (hG6.below k9).more (x := ALT) (cs := [.slice pa pn pc, .string ⟨#[]⟩, .bool false, .int .i64 0, .int .i64 0, .int .i64 0]) (S' := fun b => (fun _ => False) b ∨ (Value.slice pa pn pc).ownBlock = some b) (by omega) rfl hllk hu hown5 (hU.below k9) hgrow5 (own_new hat (by simp)) rfl (Firm.imp (hPf.below k9) (fun w' hw' => by rw [hal]; exact ⟨_, rfl, hw'⟩)) hSx
              have hM7 := ((hM6.ahead k9).grown hgrow5 (fun b hb => (hU.own.lt b hb).1) hB1 hB2).other (p := ⟨g, kk * 3 + 1, none⟩) (show W4.heap.size ≤ g by exact hg1) hB1 hB2 (.slice (some ⟨gg, 0, none⟩) (LU.length + 1) cap2)
              have hG7 := hmo.1
              rw [← hAk] at hG7
              clear hmo k9 hown5 hgrow5 f5 r5
              go_round
              case rel => exact ⟨k + 1, _, _, by omega, by omega, by go_num, hM7, hG7, Lib.hid HR.out.set⟩
              case measure => simp [intOf]; omega
            refine AllReadyH.cons rfl (fun K hK => ?_) .nil
            try simp only [gA, gB, gC]
            go_simp
            refine hK.out _ _ kA (fun hHeld => ?_)
            clear hK K
            try simp only [Act.put, gA, gB, gC, gD, gE, gF]
            refine wpAnyH_ready (rs := [8]) (by as_aux_lemma => kernel_rfl) (by simp) ?_
            refine AllReadyH.cons rfl (fun K hK => ?_) .nil
            try simp only [gA, gB, gC]
            go_simp
            refine hK.out _ _ (by assumption) (fun hHeld => ?_)
            clear hK K
            try simp only [Act.put, gA, gB, gC, gD, gE, gF]
            refine wpAnyH_ready (rs := [11]) (by as_aux_lemma => kernel_rfl) (by simp) ?_
            refine AllReadyH.cons rfl (fun K hK => ?_) .nil
            skip
            refine step_append_lies _ (by rfl) _ _ _ (by rfl) W4.heap.size 71 i0 (.agg #[.slice none 0 0, .string ByteArray.empty, .bool false, .int .i64 0, .int .i64 0, .int .i64 0]) 6 72 Try.underlying72 hi iz0 iz1 iz2 rfl (by omega) u LU.length us (by rfl) hUa
              ⟨V6.drew.heap.size, 0, none⟩ 1 1 [.slice pa pn pc, .string ⟨#[]⟩, .bool false, .int .i64 0, .int .i64 0, .int .i64 0] (by rfl) (by rfl) (rd_news V6.drew _ _) (by simp [Value.oneCell']) (by omega) hn1m hn2m hn3m (V6.heap.size + 1) hn4m ?_
            intro gg cap2 w5 hown5 hgrow5 hat hlt5
            have f5 : w5.cell? ⟨g, kk * 3 + 1, none⟩ = some u := hgrow5.cell cA hug
            have k5 : _ ∧ _ ∧ _ ∧ _ ∧ _ ∧ _ ∧ _ := ⟨hgrow5.cell kA.1 hus, hgrow5.cell kA.2.1 hua, hgrow5.cell kA.2.2.1 hua, hgrow5.cell kA.2.2.2.1 hua, hgrow5.cell kA.2.2.2.2.1 hua, hgrow5.cell kA.2.2.2.2.2.1 hua, hgrow5.cell kA.2.2.2.2.2.2 hua⟩
            have r5 : w5.frozen? ⟨g, kk * 3 + 1, none⟩ = false := (hgrow5.frozen_far ⟨g, kk * 3 + 1, none⟩ hgl hug).trans frA
            refine hK.out _ _ k5 (fun hHeld => ?_)
            clear hK K
            try simp only [Act.put, gA, gB, gC, gD, gE, gF]
            refine tk 12 ?_
            try simp only [Act.put, gA, gB, gC, gD, gE, gF]
            refine tk 13 ?_
            try simp only [Act.put, gA, gB, gC, gD, gE, gF]
            refine wpAnyH_ready (rs := [14]) (by as_aux_lemma => kernel_rfl) (by simp) ?_
            refine AllReadyH.cons rfl (fun K hK => ?_) .nil
            try simp only [gA, gB, gC]
            go_simp
            refine hK.out _ _ ⟨(World.cell?_setCell_far _ _ _ _ hgs).trans k5.1, (World.cell?_setCell_far _ _ _ _ hga).trans k5.2.1, (World.cell?_setCell_far _ _ _ _ hga).trans k5.2.2.1, (World.cell?_setCell_far _ _ _ _ hga).trans k5.2.2.2.1, (World.cell?_setCell_far _ _ _ _ hga).trans k5.2.2.2.2.1, (World.cell?_setCell_far _ _ _ _ hga).trans k5.2.2.2.2.2.1, (World.cell?_setCell_far _ _ _ _ hga).trans k5.2.2.2.2.2.2⟩ (fun hHeld => ?_)
            clear hK K
            try simp only [Act.put, gA, gB, gC, gD, gE, gF]
            refine wpAnyH_done (by as_aux_lemma => kernel_rfl) ?_ _
            go_wp2_with fail
            have k9 := ((Below.refl V6.heap.size V6).drew).alloc (Nat.le_refl _) (.cells #[.slice pa pn pc, .string ⟨#[]⟩, .bool false, .int .i64 0, .int .i64 0, .int .i64 0] 71)
            have hmo := (hG6.below k9).more (x := ALT) (cs := [.slice pa pn pc, .string ⟨#[]⟩, .bool false, .int .i64 0, .int .i64 0, .int .i64 0]) (S' := fun b => (fun _ => False) b ∨ (Value.slice pa pn pc).ownBlock = some b) (by omega) rfl hllk hu hown5 (hU.below k9) hgrow5 (own_new hat (by simp)) rfl (Firm.imp (hPf.below k9) (fun w' hw' => by rw [hal]; exact ⟨_, rfl, hw'⟩)) hSx
            have hM7 := ((hM6.ahead k9).grown hgrow5 (fun b hb => (hU.own.lt b hb).1) hB1 hB2).other (p := ⟨g, kk * 3 + 1, none⟩) (show W4.heap.size ≤ g by exact hg1) hB1 hB2 (.slice (some ⟨gg, 0, none⟩) (LU.length + 1) cap2)
            have hG7 := hmo.1
            rw [← hAk] at hG7
            clear hmo k9 hown5 hgrow5 f5 r5
            go_round
            case rel => exact ⟨k + 1, _, _, by omega, by omega, by go_num, hM7, hG7, Lib.hid HR.out.set⟩
            case measure => simp [intOf]; omega
   · have hkm : min n1 9 = k := by omega
     clear hx1 hx3
     by_cases hkn : k < n1
     all_goals
      go_wp2_with fail
      go_meet
      case rel => exact ⟨xs, S, by rw [hkm]; exact hM, by rw [hkm]; exact hG, HR⟩
 case rest =>
  exact hK u7 u8 u9 u10 u11 u12 u37 u38 u39 u40 u41 u42 u43 u44 u45 u46 u47 u48 u49 u50 u51 u52 u53 u54 u55 u56 u57 u58 u59 u60 u61 u62 u63 u64 u65 u66 u67 u68 u69 u70 u71 u72 u73 u74 u75 u76 u77 u78 u79 u80 u81 u82 u83 u84 u85 u86 u87 u88 u89 u90 u91 u92 u93 u94 u95 u96 u97 u98 u99 u100 u101 u102 u103 u104 u105 u106 u107 u108 u109 u110 u111 u112 u113 u114 u115 u116 u117 u118 u119 u120 u121 u122 u123 u124 u125 u126 u127 u128 u129 u130 u131 u132 u133 u134 u135 u136 u137 u138 u139 u140 u141 u142 u143 u144 u145 u146 u147 u148 u149 u150 u151 u152 u153 u154 u155 u156 u157 u158 u159 u160 u161 u162 u163 u164 u165 u166 u167 u168 u169 u170 u171 u172 _ hcut
end Go.Proofs.Ytkgbifbbpmdpgaa
