/- Of: the rules' names. -/
import Derived.Test.YtkgbifbbpmdpgaaNOf11
set_option linter.unusedVariables false
set_option linter.unusedSimpArgs false
namespace Go.Proofs.Ytkgbifbbpmdpgaa

open List renaming getElem_toArray → gA, getElem_cons_succ → gB, getElem_cons_zero → gC, setIfInBounds_toArray → gD, set_cons_zero → gE, set_cons_succ → gF
open Go.RowKit
def ruA (r : Rl) (m : Mk) : Mk := m.failIf (decide (0 ≤ m.tok ⟨r.left, false, 0, 0⟩)) r.pos r.left
def ruB (r : Rl) (m : Mk) : Mk := if m.left r.left < 0 then m.addLeft r.left else m
def ruTo (rs : List Rl) (m : Mk) : Nat → Mk
 | 0 => m
 | i + 1 => ruB (rs.getD i noRl) (ruA (rs.getD i noRl) (ruTo rs m i))
def SameR (n : Nat) (m m' : Mk) : Prop := m'.toks = m.toks ∧ m'.prods = m.prods ∧ m'.given = m.given ∧ m'.types = m.types ∧ m'.lefts.length ≤ m.lefts.length + n ∧ m'.level = m.level ∧ m'.inner = m.inner
theorem ruTo_same (rs : List Rl) (m : Mk) : ∀ i, SameR i m (ruTo rs m i)
 | 0 => ⟨rfl, rfl, rfl, rfl, Nat.le_refl _, rfl, rfl⟩
 | i + 1 => by
   obtain ⟨a1, a2, a3, a4, a5, a6, a7⟩ := ruTo_same rs m i
   obtain ⟨b1, b2, b3, b4, b5, b6, b7⟩ := (ruTo rs m i).failIf_same (decide (0 ≤ (ruTo rs m i).tok ⟨(rs.getD i noRl).left, false, 0, 0⟩)) (rs.getD i noRl).pos (rs.getD i noRl).left
   show SameR (i + 1) m (ruB (rs.getD i noRl) (ruA (rs.getD i noRl) (ruTo rs m i)))
   have e : ruA (rs.getD i noRl) (ruTo rs m i) = (ruTo rs m i).failIf (decide (0 ≤ (ruTo rs m i).tok ⟨(rs.getD i noRl).left, false, 0, 0⟩)) (rs.getD i noRl).pos (rs.getD i noRl).left := rfl
   rw [← e] at b1 b2 b3 b4 b5 b6 b7
   unfold ruB
   split
   · exact ⟨b1.trans a1, b2.trans a2, b3.trans a3, b4.trans a4, by simp only [Mk.addLeft, List.length_append, List.length_singleton]; rw [b5]; omega, b6.trans a6, b7.trans a7⟩
   · exact ⟨b1.trans a1, b2.trans a2, b3.trans a3, b4.trans a4, by rw [b5]; omega, b6.trans a6, b7.trans a7⟩
theorem Try.infoStrR : (Try.prog.info? 9).map (fun i => (i.zero, i.size, i.bytes)) = some (some (.string ByteArray.empty), 1, 16) := by kernel_rfl
set_option maxRecDepth 100000 in
set_option maxHeartbeats 40000000 in
theorem of_rules {w0 W0 : World} {M bS : Nat} {rs : List Rl} {da : Option Addr} {dn dc : Nat} {sp stl : ByteArray} {dsv : Value} {m0 : Mk}
  {v0 v2 v3 v4 v5 v7 v8 v9 v10 v12 v13 v14 v15 v16 v17 v18 v19 v20 v21 v22 v23 v24 v25 v26 v27 v28 v29 v30 v31 v32 v33 v34 v35 v36 v37 v38 v39 v40 v41 v42 v43 v44 v45 v46 v47 v48 v49 v50 v51 v52 v53 v54 v55 v56 v57 v58 v59 v60 v61 v62 v63 v64 v65 v66 v67 v68 v69 v70 v71 v72 v73 v74 v75 v76 v77 v78 v79 v80 v81 v82 v83 v84 v85 v86 v87 v88 v89 v90 v91 v92 v93 v94 v95 v96 v97 v98 v99 v100 v101 v102 v103 v104 v105 v106 v107 v108 v109 v110 v111 v112 v113 v114 v115 v116 v117 v118 v119 v120 v121 v122 v123 v124 v125 v126 v127 v128 v129 v130 v131 v132 v133 v134 v135 v136 v137 v138 v139 v140 v141 v142 v143 v144 v145 v146 v147 v148 v149 v150 v151 v152 v153 v154 v155 v156 v157 v158 v159 v160 v161 v162 v163 v164 v165 v166 v167 v168 v169 v170 v171 v172 v173 v174 v175 v176 v177 v178 v179 v180 v181 v182 v183 v184 v185 v186 v187 v188 v189 v190 v191 v192 v193 v194 v195 v196 v197 v198 v199 v200 v201 v202 v203 v204 v205 v206 v207 v208 v209 v210 v211 v212 v213 v214 v215 v216 v217 v218 v219 v220 v221 v222 v223 v224 v225 v226 v227 v228 v229 v230 v231 v232 v233 v234 v235 v236 v237 v238 v239 v240 v241 v242 v243 v244 v245 v246 v247 v248 v249 v250 v251 v252 v253 v254 v255 v256 v257 v258 v259 v260 v261 v262 v263 v264 v265 v266 v267 v268 v269 v270 v271 v272 v273 v274 v275 v276 v277 v278 v279 v280 v281 v282 v283 v284 v285 v286 v287 v288 v289 v290 v291 v292 v293 v294 v295 v296 v297 v298 v299 v300 v301 v302 v303 v304 v305 v306 v307 v308 v309 v310 v311 v312 v313 v314 v315 v316 v317 v318 v319 v320 v321 v322 v323 v324 v325 v326 v327 v328 v329 v330 v331 v332 v333 v334 v335 v336 v337 v338 v339 v340 v341 v342 v343 v344 v345 v346 v347 v348 v349 v350 v351 v352 v353 v354 v355 v356 v357 v358 v359 v360 v361 v362 v363 v364 v365 v366 v367 v368 v369 v370 v371 v372 v373 v374 v375 v376 v377 v378 v379 v380 v381 v382 v383 v384 v385 v386 v387 v388 v389 v390 v391 v392 v393 v394 v395 v396 v397 v398 v399 v400 v401 v402 v403 v404 v405 v406 v407 v408 v409 v410 v411 v412 v413 v414 v415 v416 v417 v418 v419 v420 v421 v422 v423 v424 v425 v426 v427 v428 v429 v430 v431 v432 v433 v434 : Value} {K : Act → World → Prop} {RE : Ending → World → Prop}
  (hrs : RlsV w0 (.slice da dn dc) rs) (hSB : w0.heap[bS]? = some (.cells #[.string sp, dsv, .slice da dn dc, .string stl] 25 (0, 0)))
  (h0 : OfI w0 W0 M m0) (hdl : rs.length ≤ 300) (hlf : m0.lefts.length ≤ 1000)
  (hK : ∀ (x11 x12 x108 x109 x110 x111 x112 x113 x114 x115 x116 x117 x118 x119 x120 x121 x122 x123 x124 x125 x126 x127 x128 x129 x130 x131 x132 x133 x134 x135 x136 x137 x138 x139 x140 x141 x142 x143 x144 x145 x146 x147 : Value) (wx : World), OfI w0 wx M (ruTo rs m0 rs.length) → K { tmps := List.toArray (v0 :: (.pointer (some ⟨bS, 0, none⟩) : Value) :: v2 :: v3 :: v4 :: v5 :: (.pointer (some ⟨M, 0, none⟩) : Value) :: v7 :: v8 :: v9 :: v10 :: x11 :: x12 :: v13 :: v14 :: v15 :: v16 :: v17 :: v18 :: v19 :: v20 :: v21 :: v22 :: v23 :: v24 :: v25 :: v26 :: v27 :: v28 :: v29 :: v30 :: v31 :: v32 :: v33 :: v34 :: v35 :: v36 :: v37 :: v38 :: v39 :: v40 :: v41 :: v42 :: v43 :: v44 :: v45 :: v46 :: v47 :: v48 :: v49 :: v50 :: v51 :: v52 :: v53 :: v54 :: v55 :: v56 :: v57 :: v58 :: v59 :: v60 :: v61 :: v62 :: v63 :: v64 :: v65 :: v66 :: v67 :: v68 :: v69 :: v70 :: v71 :: v72 :: v73 :: v74 :: v75 :: v76 :: v77 :: v78 :: v79 :: v80 :: v81 :: v82 :: v83 :: v84 :: v85 :: v86 :: v87 :: v88 :: v89 :: v90 :: v91 :: v92 :: v93 :: v94 :: v95 :: v96 :: v97 :: v98 :: v99 :: v100 :: v101 :: v102 :: v103 :: v104 :: v105 :: v106 :: v107 :: x108 :: x109 :: x110 :: x111 :: x112 :: x113 :: x114 :: x115 :: x116 :: x117 :: x118 :: x119 :: x120 :: x121 :: x122 :: x123 :: x124 :: x125 :: x126 :: x127 :: x128 :: x129 :: x130 :: x131 :: x132 :: x133 :: x134 :: x135 :: x136 :: x137 :: x138 :: x139 :: x140 :: x141 :: x142 :: x143 :: x144 :: x145 :: x146 :: x147 :: v148 :: v149 :: v150 :: v151 :: v152 :: v153 :: v154 :: v155 :: v156 :: v157 :: v158 :: v159 :: v160 :: v161 :: v162 :: v163 :: v164 :: v165 :: v166 :: v167 :: v168 :: v169 :: v170 :: v171 :: v172 :: v173 :: v174 :: v175 :: v176 :: v177 :: v178 :: v179 :: v180 :: v181 :: v182 :: v183 :: v184 :: v185 :: v186 :: v187 :: v188 :: v189 :: v190 :: v191 :: v192 :: v193 :: v194 :: v195 :: v196 :: v197 :: v198 :: v199 :: v200 :: v201 :: v202 :: v203 :: v204 :: v205 :: v206 :: v207 :: v208 :: v209 :: v210 :: v211 :: v212 :: v213 :: v214 :: v215 :: v216 :: v217 :: v218 :: v219 :: v220 :: v221 :: v222 :: v223 :: v224 :: v225 :: v226 :: v227 :: v228 :: v229 :: v230 :: v231 :: v232 :: v233 :: v234 :: v235 :: v236 :: v237 :: v238 :: v239 :: v240 :: v241 :: v242 :: v243 :: v244 :: v245 :: v246 :: v247 :: v248 :: v249 :: v250 :: v251 :: v252 :: v253 :: v254 :: v255 :: v256 :: v257 :: v258 :: v259 :: v260 :: v261 :: v262 :: v263 :: v264 :: v265 :: v266 :: v267 :: v268 :: v269 :: v270 :: v271 :: v272 :: v273 :: v274 :: v275 :: v276 :: v277 :: v278 :: v279 :: v280 :: v281 :: v282 :: v283 :: v284 :: v285 :: v286 :: v287 :: v288 :: v289 :: v290 :: v291 :: v292 :: v293 :: v294 :: v295 :: v296 :: v297 :: v298 :: v299 :: v300 :: v301 :: v302 :: v303 :: v304 :: v305 :: v306 :: v307 :: v308 :: v309 :: v310 :: v311 :: v312 :: v313 :: v314 :: v315 :: v316 :: v317 :: v318 :: v319 :: v320 :: v321 :: v322 :: v323 :: v324 :: v325 :: v326 :: v327 :: v328 :: v329 :: v330 :: v331 :: v332 :: v333 :: v334 :: v335 :: v336 :: v337 :: v338 :: v339 :: v340 :: v341 :: v342 :: v343 :: v344 :: v345 :: v346 :: v347 :: v348 :: v349 :: v350 :: v351 :: v352 :: v353 :: v354 :: v355 :: v356 :: v357 :: v358 :: v359 :: v360 :: v361 :: v362 :: v363 :: v364 :: v365 :: v366 :: v367 :: v368 :: v369 :: v370 :: v371 :: v372 :: v373 :: v374 :: v375 :: v376 :: v377 :: v378 :: v379 :: v380 :: v381 :: v382 :: v383 :: v384 :: v385 :: v386 :: v387 :: v388 :: v389 :: v390 :: v391 :: v392 :: v393 :: v394 :: v395 :: v396 :: v397 :: v398 :: v399 :: v400 :: v401 :: v402 :: v403 :: v404 :: v405 :: v406 :: v407 :: v408 :: v409 :: v410 :: v411 :: v412 :: v413 :: v414 :: v415 :: v416 :: v417 :: v418 :: v419 :: v420 :: v421 :: v422 :: v423 :: v424 :: v425 :: v426 :: v427 :: v428 :: v429 :: v430 :: v431 :: v432 :: v433 :: v434 :: []), defers := [] } wx) :
  Code.wp Try.prog ((blkOf 4 (Try.f35.body.getD .skip)).getD .skip) (Exit.then K (bodyPost Try.prog Try.f35 RE)) { tmps := List.toArray (v0 :: (.pointer (some ⟨bS, 0, none⟩) : Value) :: v2 :: v3 :: v4 :: v5 :: (.pointer (some ⟨M, 0, none⟩) : Value) :: v7 :: v8 :: v9 :: v10 :: (.int .i64 0 : Value) :: v12 :: v13 :: v14 :: v15 :: v16 :: v17 :: v18 :: v19 :: v20 :: v21 :: v22 :: v23 :: v24 :: v25 :: v26 :: v27 :: v28 :: v29 :: v30 :: v31 :: v32 :: v33 :: v34 :: v35 :: v36 :: v37 :: v38 :: v39 :: v40 :: v41 :: v42 :: v43 :: v44 :: v45 :: v46 :: v47 :: v48 :: v49 :: v50 :: v51 :: v52 :: v53 :: v54 :: v55 :: v56 :: v57 :: v58 :: v59 :: v60 :: v61 :: v62 :: v63 :: v64 :: v65 :: v66 :: v67 :: v68 :: v69 :: v70 :: v71 :: v72 :: v73 :: v74 :: v75 :: v76 :: v77 :: v78 :: v79 :: v80 :: v81 :: v82 :: v83 :: v84 :: v85 :: v86 :: v87 :: v88 :: v89 :: v90 :: v91 :: v92 :: v93 :: v94 :: v95 :: v96 :: v97 :: v98 :: v99 :: v100 :: v101 :: v102 :: v103 :: v104 :: v105 :: v106 :: v107 :: v108 :: v109 :: v110 :: v111 :: v112 :: v113 :: v114 :: v115 :: v116 :: v117 :: v118 :: v119 :: v120 :: v121 :: v122 :: v123 :: v124 :: v125 :: v126 :: v127 :: v128 :: v129 :: v130 :: v131 :: v132 :: v133 :: v134 :: v135 :: v136 :: v137 :: v138 :: v139 :: v140 :: v141 :: v142 :: v143 :: v144 :: v145 :: v146 :: v147 :: v148 :: v149 :: v150 :: v151 :: v152 :: v153 :: v154 :: v155 :: v156 :: v157 :: v158 :: v159 :: v160 :: v161 :: v162 :: v163 :: v164 :: v165 :: v166 :: v167 :: v168 :: v169 :: v170 :: v171 :: v172 :: v173 :: v174 :: v175 :: v176 :: v177 :: v178 :: v179 :: v180 :: v181 :: v182 :: v183 :: v184 :: v185 :: v186 :: v187 :: v188 :: v189 :: v190 :: v191 :: v192 :: v193 :: v194 :: v195 :: v196 :: v197 :: v198 :: v199 :: v200 :: v201 :: v202 :: v203 :: v204 :: v205 :: v206 :: v207 :: v208 :: v209 :: v210 :: v211 :: v212 :: v213 :: v214 :: v215 :: v216 :: v217 :: v218 :: v219 :: v220 :: v221 :: v222 :: v223 :: v224 :: v225 :: v226 :: v227 :: v228 :: v229 :: v230 :: v231 :: v232 :: v233 :: v234 :: v235 :: v236 :: v237 :: v238 :: v239 :: v240 :: v241 :: v242 :: v243 :: v244 :: v245 :: v246 :: v247 :: v248 :: v249 :: v250 :: v251 :: v252 :: v253 :: v254 :: v255 :: v256 :: v257 :: v258 :: v259 :: v260 :: v261 :: v262 :: v263 :: v264 :: v265 :: v266 :: v267 :: v268 :: v269 :: v270 :: v271 :: v272 :: v273 :: v274 :: v275 :: v276 :: v277 :: v278 :: v279 :: v280 :: v281 :: v282 :: v283 :: v284 :: v285 :: v286 :: v287 :: v288 :: v289 :: v290 :: v291 :: v292 :: v293 :: v294 :: v295 :: v296 :: v297 :: v298 :: v299 :: v300 :: v301 :: v302 :: v303 :: v304 :: v305 :: v306 :: v307 :: v308 :: v309 :: v310 :: v311 :: v312 :: v313 :: v314 :: v315 :: v316 :: v317 :: v318 :: v319 :: v320 :: v321 :: v322 :: v323 :: v324 :: v325 :: v326 :: v327 :: v328 :: v329 :: v330 :: v331 :: v332 :: v333 :: v334 :: v335 :: v336 :: v337 :: v338 :: v339 :: v340 :: v341 :: v342 :: v343 :: v344 :: v345 :: v346 :: v347 :: v348 :: v349 :: v350 :: v351 :: v352 :: v353 :: v354 :: v355 :: v356 :: v357 :: v358 :: v359 :: v360 :: v361 :: v362 :: v363 :: v364 :: v365 :: v366 :: v367 :: v368 :: v369 :: v370 :: v371 :: v372 :: v373 :: v374 :: v375 :: v376 :: v377 :: v378 :: v379 :: v380 :: v381 :: v382 :: v383 :: v384 :: v385 :: v386 :: v387 :: v388 :: v389 :: v390 :: v391 :: v392 :: v393 :: v394 :: v395 :: v396 :: v397 :: v398 :: v399 :: v400 :: v401 :: v402 :: v403 :: v404 :: v405 :: v406 :: v407 :: v408 :: v409 :: v410 :: v411 :: v412 :: v413 :: v414 :: v415 :: v416 :: v417 :: v418 :: v419 :: v420 :: v421 :: v422 :: v423 :: v424 :: v425 :: v426 :: v427 :: v428 :: v429 :: v430 :: v431 :: v432 :: v433 :: v434 :: []), defers := [] } W0 := by
 conv => arg 2; whnf
 obtain ⟨da', dn', dc', e0, hdn, hdc, hdm, hx⟩ := hrs.open
 cases e0
 have hdn2 := hdn.out
 have hSt : ∀ i, ruTo rs m0 (i + 1) = ruB (rs.getD i noRl) (ruA (rs.getD i noRl) (ruTo rs m0 i)) := fun i => rfl
 have hS0 : ruTo rs m0 0 = m0 := rfl
 have hNN := fun i => (ruTo_same rs m0 i).2.2.2.2.1
 generalize ruTo rs m0 = dt0 at *
 rw [← hdn2] at hK hdl
 have HSt := Lib.hid hSt
 have HS0 := Lib.hid hS0
 have HNN := Lib.hid hNN
 have HI0 := Lib.hid h0
 have HKK := Lib.hid hK
 have c0 := cell_of_row _ bS 2 _ _ _ hSB
 simp only [List.getElem?_toArray, List.getElem?_cons_succ, List.getElem?_cons_zero] at c0
 have HC0 := Lib.hid c0
 clear hSt hS0 h0 hdn2 hK hSB hrs c0 hNN
 go_cut [] from 108 to 147 (fun wx => OfI w0 wx M (dt0 dn))
 case rest =>
  exact HKK.out u11 u12 u108 u109 u110 u111 u112 u113 u114 u115 u116 u117 u118 u119 u120 u121 u122 u123 u124 u125 u126 u127 u128 u129 u130 u131 u132 u133 u134 u135 u136 u137 u138 u139 u140 u141 u142 u143 u144 u145 u146 u147 _ hcut
 case first =>
  clear HKK
  go_wp2_with fail
  go_loopw [11] (fun x11 W => ∃ i : Nat, i ≤ dn ∧ x11 = .int .i64 i ∧ Hid (OfI w0 W M (dt0 i))) (fun x11 _ => dn - (intOf x11).toNat)
  case atStart => exact ⟨0, Nat.zero_le _, rfl, by rw [HS0.out]; exact HI0⟩
  case round =>
   clear HI0
   obtain ⟨k, hk, rfl, HI⟩ := hrel
   rename World => W
   have hlow := HI.out.low
   have c1 := cell_up hlow HC0.out
   by_cases hlt : k < dn
   · obtain ⟨b, o, ⟨rl, ras, rp⟩, av, e2, hx0, hav, y0, y1, y2⟩ := hx.out k hlt
     subst e2
     simp only at hav y0 y1 y2
     obtain ⟨sa, sn, sc, e3, _, _, _, _⟩ := hav.open
     subst e3
     have i1 : (k : Int) < (dn : Int) := by omega
     have z0 := cell_up hlow y0
     have z1 := cell_up hlow y1
     have z2 := cell_up hlow y2
     have hgx : rs.getD k noRl = ⟨rl, ras, rp⟩ := by rw [List.getD_eq_getElem?_getD, hx0]; rfl
     have hs := HSt.out k
     rw [hgx] at hs
     have hnl := HNN.out k
     generalize dt0 k = s1 at *
     have hA : ruA ⟨rl, ras, rp⟩ s1 = s1.failIf (decide (0 ≤ s1.tok ⟨rl, false, 0, 0⟩)) rp rl := rfl
     have hAl : (ruA ⟨rl, ras, rp⟩ s1).lefts = s1.lefts := (s1.failIf_same _ _ _).2.2.2.2.1
     have hBB : ruB ⟨rl, ras, rp⟩ (ruA ⟨rl, ras, rp⟩ s1) = (if (ruA ⟨rl, ras, rp⟩ s1).left rl < 0 then (ruA ⟨rl, ras, rp⟩ s1).addLeft rl else ruA ⟨rl, ras, rp⟩ s1) := rfl
     rw [hBB] at hs
     generalize ruA ⟨rl, ras, rp⟩ s1 = m1 at *
     rw [← hAl] at hnl
     have HSE := Lib.hid hs
     have HAA := Lib.hid hA
     have HB := Lib.hid (HI.out.box (.cells #[.string rl, .slice sa sn sc, .int .i64 rp] 74))
     clear hs hBB hA hAl hgx hx0 hav y0 y1 y2 hlow
     go_upto_region 24 with fail
     clear z0 z1 z2 c1 HI
     generalize W.alloc (.cells #[.string rl, .slice sa sn sc, .int .i64 rp] 74) = W1 at *
     generalize W.heap.size = Q at *
     have q0 := cell_of_row _ Q 0 _ _ _ HB.out.row
     simp only [List.getElem?_toArray, List.getElem?_cons_succ, List.getElem?_cons_zero] at q0
     have HTk := Lib.hid (HB.out.out.tok ⟨rl, false, 0, 0⟩)
     unfold Sm.agg at HTk
     simp only at HTk
     have htg := s1.tok_ge ⟨rl, false, 0, 0⟩
     generalize s1.tok ⟨rl, false, 0, 0⟩ = T at *
     go_upto_if 125 with (first | (go_at_call 46; (with_reducible refine HTk.out.mono ?_); rintro e w2 ⟨rfl, hb2⟩))
     have HB2 := Lib.hid (HB.out.below hb2)
     clear HTk q0 HB hb2
     go_cut [] from 108 to 131 (fun wx => Hid (OfB w0 wx M m1 Q (.cells #[.string rl, .slice sa sn sc, .int .i64 rp] 74 (0, 0))))
     case first =>
      have q0 := cell_of_row _ Q 0 _ _ _ HB2.out.row
      have q2 := cell_of_row _ Q 2 _ _ _ HB2.out.row
      simp only [List.getElem?_toArray, List.getElem?_cons_succ, List.getElem?_cons_zero] at q0 q2
      have HFl := Lib.hid (HB2.out.fail rp rl)
      by_cases hT : 0 ≤ T
      · go_wp2_with (first | (go_at_call 45; (with_reducible refine HFl.out.mono ?_); rintro e w9 ⟨rfl, hB9⟩; have HB9 := Lib.hid hB9; clear hB9))
        go_meet
        case rel => rw [HAA.out, decide_eq_true hT]; exact HB9
      · go_wp2_with fail
        go_meet
        case rel => rw [HAA.out, decide_eq_false (by omega)]; exact HB2
     case rest =>
      have HB3 := hcut
      clear hcut HB2 HAA htg
      rename World => W3
      have q0 := cell_of_row _ Q 0 _ _ _ HB3.out.row
      simp only [List.getElem?_toArray, List.getElem?_cons_succ, List.getElem?_cons_zero] at q0
      have HLf := Lib.hid (HB3.out.out.left rl)
      have hlg := m1.left_ge rl
      generalize hLL : m1.left rl = L at *
      have HLL := Lib.hid hLL
      clear hLL
      rcases hlg with rfl | ⟨k2, rfl, hk2⟩
      · go_upto_region 27 with (first | (go_at_call 47; (with_reducible refine HLf.out.mono ?_); rintro e V8 ⟨rfl, hb8⟩))
        have hB8 := HB3.out.below hb8
        have HST : Hid (dt0 (k + 1) = m1.addLeft rl) := Lib.hid (by rw [HSE.out]; rfl)
        clear HSE HLf HLL q0
        have q0 := cell_of_row _ Q 0 _ _ _ hB8.row
        simp only [List.getElem?_toArray, List.getElem?_cons_succ, List.getElem?_cons_zero] at q0
        obtain ⟨F, S, h1, h2, h3, h4⟩ := hB8
        obtain ⟨tv, pv, gv, yv, lv, ys, hFi, hO⟩ := h1.opened
        obtain ⟨va, vc, e0⟩ := own_slice (hO.1.own ⟨9, 1, lv, m1.lefts.length, m1.lefts.flatMap stC⟩ (by simp [mkRows]))
        simp only at e0
        subst e0
        obtain ⟨i0, hi0, iz0, iz1, iz2⟩ := info_parts Try.infoStrR
        have hbL : Below V8.heap.size V8 (V8.drew.alloc (.cells #[.string rl] 9)) := (Below.refl V8.heap.size V8).drew.alloc (Nat.le_refl _) _
        have hMQ : M ≠ Q := fun e => h3 ((hFi Q).2 (.inl e.symm))
        have hMn : some M ≠ (Value.slice va m1.lefts.length vc).ownBlock := fun e => hO.1.notM ⟨9, 1, (.slice va m1.lefts.length vc), m1.lefts.length, m1.lefts.flatMap stC⟩ (by simp [mkRows]) e.symm
        have hQn : some Q ≠ (Value.slice va m1.lefts.length vc).ownBlock := fun e => h3 ((hFi Q).2 (.inr ⟨⟨9, 1, (.slice va m1.lefts.length vc), m1.lefts.length, m1.lefts.flatMap stC⟩, by simp [mkRows], e.symm⟩))
        have x2W := hO.1.cell 7
        simp only [mkCells, List.getElem?_cons_succ, List.getElem?_cons_zero] at x2W
        have x2D : V8.drew.cell? ⟨M, 7, none⟩ = some (.slice va m1.lefts.length vc) := x2W
        have x2L : (V8.drew.alloc (.cells #[.string rl] 9)).cell? ⟨M, 7, none⟩ = some (.slice va m1.lefts.length vc) := cell_up hbL x2W
        have x2A : (V8.alloc (.cells #[.string rl] 9)).cell? ⟨M, 7, none⟩ = some (.slice va m1.lefts.length vc) := x2L
        have SW : V8.drew.cell? ⟨Q, 0, none⟩ = some (.string rl) := q0
        have SL : (V8.drew.alloc (.cells #[.string rl] 9)).cell? ⟨Q, 0, none⟩ = some (.string rl) := cell_up hbL q0
        have HOL := Lib.hid (hO.below hbL)
        have ho4 := HOL.out.1.own ⟨9, 1, (.slice va m1.lefts.length vc), m1.lefts.length, m1.lefts.flatMap stC⟩ (by simp [mkRows])
        have hf4 := HOL.out.1.free 7
        have hM4 := HOL.out.1.mlt
        have hB4 : w0.heap.size ≤ (V8.drew.alloc (.cells #[.string rl] 9)).heap.size := Nat.le_trans HOL.out.1.mB (Nat.le_of_lt hM4)
        have H2L := Lib.hid (h2.trans (hbL.mono h2.size))
        have hbn1 : m1.lefts.length + 1 ≤ maxLen := by unfold maxLen; omega
        have hbn2 : (m1.lefts.length + 1) * 16 ≤ 140737488355328 := by omega
        clear hO h1 h2 h3 h4 x2W q0 hb8 HB3 hFi
        have q0 := SW
        refine wp_region_held_drew (S := (fun Xw => Xw.cell? ⟨Q, 0, none⟩ = some (.string rl))) (by kernel_rfl) ?hS0 (fun hHeld => ?hR0)
        case hS0 => exact SW
        case hR0 =>
         refine tk 0 ?_
         try simp only [Act.put, gA, gB, gC, gD, gE, gF]
         refine tk 1 ?_
         try simp only [Act.put, gA, gB, gC, gD, gE, gF]
         refine tk 2 ?_
         try simp only [Act.put, gA, gB, gC, gD, gE, gF]
         refine tk 3 ?_
         try simp only [Act.put, gA, gB, gC, gD, gE, gF]
         refine tk 5 ?_
         try simp only [Act.put, gA, gB, gC, gD, gE, gF]
         refine tk 6 ?_
         try simp only [Act.put, gA, gB, gC, gD, gE, gF]
         refine wpAnyH_ready (rs := [4, 7]) (by kernel_rfl) (by simp) ?_
         refine AllReadyH.cons rfl (fun K hK => ?_) ?_
         · try simp only [gA, gB, gC]
           go_simp
           refine hK.out _ _ SW (fun hHeld => ?_)
           clear hK K
           try simp only [Act.put, gA, gB, gC, gD, gE, gF]
           refine wpAnyH_ready (rs := [7]) (by kernel_rfl) (by simp) ?_
           refine AllReadyH.cons rfl (fun K hK => ?_) .nil
           try simp only [gA, gB, gC]
           go_simp
           refine hK.out _ _ SL (fun hHeld => ?_)
           clear hK K
           try simp only [Act.put, gA, gB, gC, gD, gE, gF]
           refine wpAnyH_ready (rs := [8]) (by kernel_rfl) (by simp) ?_
           refine AllReadyH.cons rfl (fun K hK => ?_) .nil
           refine step_append_lies _ (by rfl) _ _ _ (by rfl) w0.heap.size 9 i0 (.string ByteArray.empty) 1 16 Try.underlying97 hi0 iz0 iz1 iz2 rfl (by omega) (.slice va m1.lefts.length vc) m1.lefts.length (m1.lefts.flatMap stC) (by rfl) ho4 ⟨V8.heap.size, 0, none⟩ 1 1 [.string rl] (by rfl) (by rfl) (lit_cells V8.drew #[.string rl] 9) (by simp [Value.oneCell']) (by omega) hbn1 hbn2 hB4 _ rfl ?_
           intro gg cap2 w5 hown5 hgrow5 hat hlt5
           have k5 : w5.cell? ⟨Q, 0, none⟩ = some (.string rl) := hgrow5.cell SL hQn
           have f5 : w5.cell? ⟨M, 7, none⟩ = some (.slice va m1.lefts.length vc) := (hgrow5.cell x2L hMn)
           have r5 : w5.frozen? ⟨M, 7, none⟩ = false := (hgrow5.frozen_far ⟨M, 7, none⟩ hM4 hMn).trans hf4
           refine hK.out _ _ k5 (fun hHeld => ?_)
           clear hK K
           try simp only [Act.put, gA, gB, gC, gD, gE, gF]
           refine tk 9 ?_
           try simp only [Act.put, gA, gB, gC, gD, gE, gF]
           refine tk 10 ?_
           try simp only [Act.put, gA, gB, gC, gD, gE, gF]
           refine wpAnyH_ready (rs := [11]) (by kernel_rfl) (by simp) ?_
           refine AllReadyH.cons rfl (fun K hK => ?_) .nil
           try simp only [gA, gB, gC]
           go_simp
           refine hK.out _ _ ((World.cell?_setCell_far _ _ _ _ hMQ).trans k5) (fun hHeld => ?_)
           clear hK K
           try simp only [Act.put, gA, gB, gC, gD, gE, gF]
           refine wpAnyH_done (by kernel_rfl) ?_ _
           go_wp2_with fail
           go_round
           case rel =>
            obtain ⟨F', a1, a2, a3⟩ := HOL.out.addLeft (k := rl) hgrow5 hown5 (hat.imp (fun e => e.symm) (fun e => by rw [e]; rfl))
            exact ⟨k + 1, by omega, by go_num, by rw [HST.out]; exact Lib.hid ⟨F', S, a1, (H2L.out).trans (a3.below (fun b hb => (HOL.out.1.lt b hb).1) H2L.out.size)⟩⟩
           case measure => simp [intOf]; omega
         refine AllReadyH.cons rfl (fun K hK => ?_) .nil
         try simp only [gA, gB, gC]
         go_simp
         refine hK.out _ _ SL (fun hHeld => ?_)
         clear hK K
         try simp only [Act.put, gA, gB, gC, gD, gE, gF]
         refine wpAnyH_ready (rs := [4]) (by kernel_rfl) (by simp) ?_
         refine AllReadyH.cons rfl (fun K hK => ?_) .nil
         try simp only [gA, gB, gC]
         go_simp
         refine hK.out _ _ SL (fun hHeld => ?_)
         clear hK K
         try simp only [Act.put, gA, gB, gC, gD, gE, gF]
         refine wpAnyH_ready (rs := [8]) (by kernel_rfl) (by simp) ?_
         refine AllReadyH.cons rfl (fun K hK => ?_) .nil
         refine step_append_lies _ (by rfl) _ _ _ (by rfl) w0.heap.size 9 i0 (.string ByteArray.empty) 1 16 Try.underlying97 hi0 iz0 iz1 iz2 rfl (by omega) (.slice va m1.lefts.length vc) m1.lefts.length (m1.lefts.flatMap stC) (by rfl) ho4 ⟨V8.heap.size, 0, none⟩ 1 1 [.string rl] (by rfl) (by rfl) (lit_cells V8.drew #[.string rl] 9) (by simp [Value.oneCell']) (by omega) hbn1 hbn2 hB4 _ rfl ?_
         intro gg cap2 w5 hown5 hgrow5 hat hlt5
         have k5 : w5.cell? ⟨Q, 0, none⟩ = some (.string rl) := hgrow5.cell SL hQn
         have f5 : w5.cell? ⟨M, 7, none⟩ = some (.slice va m1.lefts.length vc) := (hgrow5.cell x2L hMn)
         have r5 : w5.frozen? ⟨M, 7, none⟩ = false := (hgrow5.frozen_far ⟨M, 7, none⟩ hM4 hMn).trans hf4
         refine hK.out _ _ k5 (fun hHeld => ?_)
         clear hK K
         try simp only [Act.put, gA, gB, gC, gD, gE, gF]
         refine tk 9 ?_
         try simp only [Act.put, gA, gB, gC, gD, gE, gF]
         refine tk 10 ?_
         try simp only [Act.put, gA, gB, gC, gD, gE, gF]
         refine wpAnyH_ready (rs := [11]) (by kernel_rfl) (by simp) ?_
         refine AllReadyH.cons rfl (fun K hK => ?_) .nil
         try simp only [gA, gB, gC]
         go_simp
         refine hK.out _ _ ((World.cell?_setCell_far _ _ _ _ hMQ).trans k5) (fun hHeld => ?_)
         clear hK K
         try simp only [Act.put, gA, gB, gC, gD, gE, gF]
         refine wpAnyH_done (by kernel_rfl) ?_ _
         go_wp2_with fail
         go_round
         case rel =>
          obtain ⟨F', a1, a2, a3⟩ := HOL.out.addLeft (k := rl) hgrow5 hown5 (hat.imp (fun e => e.symm) (fun e => by rw [e]; rfl))
          exact ⟨k + 1, by omega, by go_num, by rw [HST.out]; exact Lib.hid ⟨F', S, a1, (H2L.out).trans (a3.below (fun b hb => (HOL.out.1.lt b hb).1) H2L.out.size)⟩⟩
         case measure => simp [intOf]; omega
      · have HST : Hid (dt0 (k + 1) = m1) := Lib.hid (by rw [HSE.out, if_neg (by omega)])
        clear HSE HLL
        go_wp2_with (first | (go_at_call 47; (with_reducible refine HLf.out.mono ?_); rintro e V8 ⟨rfl, hb8⟩; have HB9 := Lib.hid (HB3.out.below hb8).out; clear hb8))
        go_round
        case rel => exact ⟨k + 1, by omega, by go_num, by rw [HST.out]; exact HB9⟩
        case measure => simp [intOf]; omega
   · have i1 : ¬ (k : Int) < (dn : Int) := by omega
     obtain rfl : k = dn := by omega
     clear hlow
     go_wp2_with fail
     go_meet
     case rel => exact HI.out
end Go.Proofs.Ytkgbifbbpmdpgaa
