/- Of: the types' names. -/
import Derived.Test.YtkgbifbbpmdpgaaNOf10
set_option linter.unusedVariables false
set_option linter.unusedSimpArgs false
namespace Go.Proofs.Ytkgbifbbpmdpgaa

open Go.RowKit
def tySt (d : Dc) (x : Sm) (m : Mk) : Mk := m.failIf (decide (5 ≤ d.kind) && decide (m.left x.name < 0)) x.pos x.name
def tysTo (d : Dc) (m : Mk) : Nat → Mk
 | 0 => m
 | k + 1 => tySt d (d.syms.getD k noSm) (tysTo d m k)
def tydTo (ds : List Dc) (m : Mk) : Nat → Mk
 | 0 => m
 | i + 1 => tysTo (ds.getD i noDc) (tydTo ds m i) (ds.getD i noDc).syms.length
def SameL (m m' : Mk) : Prop := m'.toks = m.toks ∧ m'.prods = m.prods ∧ m'.given = m.given ∧ m'.types = m.types ∧ m'.lefts = m.lefts ∧ m'.level = m.level ∧ m'.inner = m.inner
theorem SameL.refl (m : Mk) : SameL m m := ⟨rfl, rfl, rfl, rfl, rfl, rfl, rfl⟩
theorem SameL.trans {a b c : Mk} (h : SameL a b) (g : SameL b c) : SameL a c := ⟨g.1.trans h.1, g.2.1.trans h.2.1, g.2.2.1.trans h.2.2.1, g.2.2.2.1.trans h.2.2.2.1, g.2.2.2.2.1.trans h.2.2.2.2.1, g.2.2.2.2.2.1.trans h.2.2.2.2.2.1, g.2.2.2.2.2.2.trans h.2.2.2.2.2.2⟩
theorem tysTo_same (d : Dc) (m : Mk) : ∀ k, SameL m (tysTo d m k)
 | 0 => SameL.refl m
 | k + 1 => (tysTo_same d m k).trans ((tysTo d m k).failIf_same _ _ _)
theorem tydTo_same (ds : List Dc) (m : Mk) : ∀ i, SameL m (tydTo ds m i)
 | 0 => SameL.refl m
 | i + 1 => (tydTo_same ds m i).trans (tysTo_same _ _ _)
set_option maxRecDepth 100000 in
set_option maxHeartbeats 40000000 in
theorem of_types {w0 W0 : World} {M bS : Nat} {ds : List Dc} {da : Option Addr} {dn dc : Nat} {sp stl : ByteArray} {rsv : Value} {m0 : Mk}
  {v0 v2 v3 v4 v5 v7 v8 v9 v10 v11 v12 v14 v15 v16 v17 v18 v19 v20 v21 v22 v23 v24 v25 v26 v27 v28 v29 v30 v31 v32 v33 v34 v35 v36 v37 v38 v39 v40 v41 v42 v43 v44 v45 v46 v47 v48 v49 v50 v51 v52 v53 v54 v55 v56 v57 v58 v59 v60 v61 v62 v63 v64 v65 v66 v67 v68 v69 v70 v71 v72 v73 v74 v75 v76 v77 v78 v79 v80 v81 v82 v83 v84 v85 v86 v87 v88 v89 v90 v91 v92 v93 v94 v95 v96 v97 v98 v99 v100 v101 v102 v103 v104 v105 v106 v107 v108 v109 v110 v111 v112 v113 v114 v115 v116 v117 v118 v119 v120 v121 v122 v123 v124 v125 v126 v127 v128 v129 v130 v131 v132 v133 v134 v135 v136 v137 v138 v139 v140 v141 v142 v143 v144 v145 v146 v147 v148 v149 v150 v151 v152 v153 v154 v155 v156 v157 v158 v159 v160 v161 v162 v163 v164 v165 v166 v167 v168 v169 v170 v171 v172 v173 v174 v175 v176 v177 v178 v179 v180 v181 v182 v183 v184 v185 v186 v187 v188 v189 v190 v191 v192 v193 v194 v195 v196 v197 v198 v199 v200 v201 v202 v203 v204 v205 v206 v207 v208 v209 v210 v211 v212 v213 v214 v215 v216 v217 v218 v219 v220 v221 v222 v223 v224 v225 v226 v227 v228 v229 v230 v231 v232 v233 v234 v235 v236 v237 v238 v239 v240 v241 v242 v243 v244 v245 v246 v247 v248 v249 v250 v251 v252 v253 v254 v255 v256 v257 v258 v259 v260 v261 v262 v263 v264 v265 v266 v267 v268 v269 v270 v271 v272 v273 v274 v275 v276 v277 v278 v279 v280 v281 v282 v283 v284 v285 v286 v287 v288 v289 v290 v291 v292 v293 v294 v295 v296 v297 v298 v299 v300 v301 v302 v303 v304 v305 v306 v307 v308 v309 v310 v311 v312 v313 v314 v315 v316 v317 v318 v319 v320 v321 v322 v323 v324 v325 v326 v327 v328 v329 v330 v331 v332 v333 v334 v335 v336 v337 v338 v339 v340 v341 v342 v343 v344 v345 v346 v347 v348 v349 v350 v351 v352 v353 v354 v355 v356 v357 v358 v359 v360 v361 v362 v363 v364 v365 v366 v367 v368 v369 v370 v371 v372 v373 v374 v375 v376 v377 v378 v379 v380 v381 v382 v383 v384 v385 v386 v387 v388 v389 v390 v391 v392 v393 v394 v395 v396 v397 v398 v399 v400 v401 v402 v403 v404 v405 v406 v407 v408 v409 v410 v411 v412 v413 v414 v415 v416 v417 v418 v419 v420 v421 v422 v423 v424 v425 v426 v427 v428 v429 v430 v431 v432 v433 v434 : Value} {K : Act → World → Prop} {RE : Ending → World → Prop}
  (hds : DcsV w0 (.slice da dn dc) ds) (hSB : w0.heap[bS]? = some (.cells #[.string sp, .slice da dn dc, rsv, .string stl] 25 (0, 0)))
  (h0 : OfI w0 W0 M m0) (hlf : m0.lefts.length ≤ 1000000)
  (hK : ∀ (x13 x14 x15 x148 x149 x150 x151 x152 x153 x154 x155 x156 x157 x158 x159 x160 x161 x162 x163 x164 x165 x166 x167 x168 x169 x170 x171 x172 x173 x174 x175 x176 x177 x178 x179 x180 x181 x182 x183 x184 x185 x186 x187 x188 x189 x190 x191 x192 x193 x194 : Value) (wx : World), OfI w0 wx M (tydTo ds m0 ds.length) → K { tmps := List.toArray (v0 :: (.pointer (some ⟨bS, 0, none⟩) : Value) :: v2 :: v3 :: v4 :: v5 :: (.pointer (some ⟨M, 0, none⟩) : Value) :: v7 :: v8 :: v9 :: v10 :: v11 :: v12 :: x13 :: x14 :: x15 :: v16 :: v17 :: v18 :: v19 :: v20 :: v21 :: v22 :: v23 :: v24 :: v25 :: v26 :: v27 :: v28 :: v29 :: v30 :: v31 :: v32 :: v33 :: v34 :: v35 :: v36 :: v37 :: v38 :: v39 :: v40 :: v41 :: v42 :: v43 :: v44 :: v45 :: v46 :: v47 :: v48 :: v49 :: v50 :: v51 :: v52 :: v53 :: v54 :: v55 :: v56 :: v57 :: v58 :: v59 :: v60 :: v61 :: v62 :: v63 :: v64 :: v65 :: v66 :: v67 :: v68 :: v69 :: v70 :: v71 :: v72 :: v73 :: v74 :: v75 :: v76 :: v77 :: v78 :: v79 :: v80 :: v81 :: v82 :: v83 :: v84 :: v85 :: v86 :: v87 :: v88 :: v89 :: v90 :: v91 :: v92 :: v93 :: v94 :: v95 :: v96 :: v97 :: v98 :: v99 :: v100 :: v101 :: v102 :: v103 :: v104 :: v105 :: v106 :: v107 :: v108 :: v109 :: v110 :: v111 :: v112 :: v113 :: v114 :: v115 :: v116 :: v117 :: v118 :: v119 :: v120 :: v121 :: v122 :: v123 :: v124 :: v125 :: v126 :: v127 :: v128 :: v129 :: v130 :: v131 :: v132 :: v133 :: v134 :: v135 :: v136 :: v137 :: v138 :: v139 :: v140 :: v141 :: v142 :: v143 :: v144 :: v145 :: v146 :: v147 :: x148 :: x149 :: x150 :: x151 :: x152 :: x153 :: x154 :: x155 :: x156 :: x157 :: x158 :: x159 :: x160 :: x161 :: x162 :: x163 :: x164 :: x165 :: x166 :: x167 :: x168 :: x169 :: x170 :: x171 :: x172 :: x173 :: x174 :: x175 :: x176 :: x177 :: x178 :: x179 :: x180 :: x181 :: x182 :: x183 :: x184 :: x185 :: x186 :: x187 :: x188 :: x189 :: x190 :: x191 :: x192 :: x193 :: x194 :: v195 :: v196 :: v197 :: v198 :: v199 :: v200 :: v201 :: v202 :: v203 :: v204 :: v205 :: v206 :: v207 :: v208 :: v209 :: v210 :: v211 :: v212 :: v213 :: v214 :: v215 :: v216 :: v217 :: v218 :: v219 :: v220 :: v221 :: v222 :: v223 :: v224 :: v225 :: v226 :: v227 :: v228 :: v229 :: v230 :: v231 :: v232 :: v233 :: v234 :: v235 :: v236 :: v237 :: v238 :: v239 :: v240 :: v241 :: v242 :: v243 :: v244 :: v245 :: v246 :: v247 :: v248 :: v249 :: v250 :: v251 :: v252 :: v253 :: v254 :: v255 :: v256 :: v257 :: v258 :: v259 :: v260 :: v261 :: v262 :: v263 :: v264 :: v265 :: v266 :: v267 :: v268 :: v269 :: v270 :: v271 :: v272 :: v273 :: v274 :: v275 :: v276 :: v277 :: v278 :: v279 :: v280 :: v281 :: v282 :: v283 :: v284 :: v285 :: v286 :: v287 :: v288 :: v289 :: v290 :: v291 :: v292 :: v293 :: v294 :: v295 :: v296 :: v297 :: v298 :: v299 :: v300 :: v301 :: v302 :: v303 :: v304 :: v305 :: v306 :: v307 :: v308 :: v309 :: v310 :: v311 :: v312 :: v313 :: v314 :: v315 :: v316 :: v317 :: v318 :: v319 :: v320 :: v321 :: v322 :: v323 :: v324 :: v325 :: v326 :: v327 :: v328 :: v329 :: v330 :: v331 :: v332 :: v333 :: v334 :: v335 :: v336 :: v337 :: v338 :: v339 :: v340 :: v341 :: v342 :: v343 :: v344 :: v345 :: v346 :: v347 :: v348 :: v349 :: v350 :: v351 :: v352 :: v353 :: v354 :: v355 :: v356 :: v357 :: v358 :: v359 :: v360 :: v361 :: v362 :: v363 :: v364 :: v365 :: v366 :: v367 :: v368 :: v369 :: v370 :: v371 :: v372 :: v373 :: v374 :: v375 :: v376 :: v377 :: v378 :: v379 :: v380 :: v381 :: v382 :: v383 :: v384 :: v385 :: v386 :: v387 :: v388 :: v389 :: v390 :: v391 :: v392 :: v393 :: v394 :: v395 :: v396 :: v397 :: v398 :: v399 :: v400 :: v401 :: v402 :: v403 :: v404 :: v405 :: v406 :: v407 :: v408 :: v409 :: v410 :: v411 :: v412 :: v413 :: v414 :: v415 :: v416 :: v417 :: v418 :: v419 :: v420 :: v421 :: v422 :: v423 :: v424 :: v425 :: v426 :: v427 :: v428 :: v429 :: v430 :: v431 :: v432 :: v433 :: v434 :: []), defers := [] } wx) :
  Code.wp Try.prog ((blkOf 6 (Try.f35.body.getD .skip)).getD .skip) (Exit.then K (bodyPost Try.prog Try.f35 RE)) { tmps := List.toArray (v0 :: (.pointer (some ⟨bS, 0, none⟩) : Value) :: v2 :: v3 :: v4 :: v5 :: (.pointer (some ⟨M, 0, none⟩) : Value) :: v7 :: v8 :: v9 :: v10 :: v11 :: v12 :: (.int .i64 0 : Value) :: v14 :: v15 :: v16 :: v17 :: v18 :: v19 :: v20 :: v21 :: v22 :: v23 :: v24 :: v25 :: v26 :: v27 :: v28 :: v29 :: v30 :: v31 :: v32 :: v33 :: v34 :: v35 :: v36 :: v37 :: v38 :: v39 :: v40 :: v41 :: v42 :: v43 :: v44 :: v45 :: v46 :: v47 :: v48 :: v49 :: v50 :: v51 :: v52 :: v53 :: v54 :: v55 :: v56 :: v57 :: v58 :: v59 :: v60 :: v61 :: v62 :: v63 :: v64 :: v65 :: v66 :: v67 :: v68 :: v69 :: v70 :: v71 :: v72 :: v73 :: v74 :: v75 :: v76 :: v77 :: v78 :: v79 :: v80 :: v81 :: v82 :: v83 :: v84 :: v85 :: v86 :: v87 :: v88 :: v89 :: v90 :: v91 :: v92 :: v93 :: v94 :: v95 :: v96 :: v97 :: v98 :: v99 :: v100 :: v101 :: v102 :: v103 :: v104 :: v105 :: v106 :: v107 :: v108 :: v109 :: v110 :: v111 :: v112 :: v113 :: v114 :: v115 :: v116 :: v117 :: v118 :: v119 :: v120 :: v121 :: v122 :: v123 :: v124 :: v125 :: v126 :: v127 :: v128 :: v129 :: v130 :: v131 :: v132 :: v133 :: v134 :: v135 :: v136 :: v137 :: v138 :: v139 :: v140 :: v141 :: v142 :: v143 :: v144 :: v145 :: v146 :: v147 :: v148 :: v149 :: v150 :: v151 :: v152 :: v153 :: v154 :: v155 :: v156 :: v157 :: v158 :: v159 :: v160 :: v161 :: v162 :: v163 :: v164 :: v165 :: v166 :: v167 :: v168 :: v169 :: v170 :: v171 :: v172 :: v173 :: v174 :: v175 :: v176 :: v177 :: v178 :: v179 :: v180 :: v181 :: v182 :: v183 :: v184 :: v185 :: v186 :: v187 :: v188 :: v189 :: v190 :: v191 :: v192 :: v193 :: v194 :: v195 :: v196 :: v197 :: v198 :: v199 :: v200 :: v201 :: v202 :: v203 :: v204 :: v205 :: v206 :: v207 :: v208 :: v209 :: v210 :: v211 :: v212 :: v213 :: v214 :: v215 :: v216 :: v217 :: v218 :: v219 :: v220 :: v221 :: v222 :: v223 :: v224 :: v225 :: v226 :: v227 :: v228 :: v229 :: v230 :: v231 :: v232 :: v233 :: v234 :: v235 :: v236 :: v237 :: v238 :: v239 :: v240 :: v241 :: v242 :: v243 :: v244 :: v245 :: v246 :: v247 :: v248 :: v249 :: v250 :: v251 :: v252 :: v253 :: v254 :: v255 :: v256 :: v257 :: v258 :: v259 :: v260 :: v261 :: v262 :: v263 :: v264 :: v265 :: v266 :: v267 :: v268 :: v269 :: v270 :: v271 :: v272 :: v273 :: v274 :: v275 :: v276 :: v277 :: v278 :: v279 :: v280 :: v281 :: v282 :: v283 :: v284 :: v285 :: v286 :: v287 :: v288 :: v289 :: v290 :: v291 :: v292 :: v293 :: v294 :: v295 :: v296 :: v297 :: v298 :: v299 :: v300 :: v301 :: v302 :: v303 :: v304 :: v305 :: v306 :: v307 :: v308 :: v309 :: v310 :: v311 :: v312 :: v313 :: v314 :: v315 :: v316 :: v317 :: v318 :: v319 :: v320 :: v321 :: v322 :: v323 :: v324 :: v325 :: v326 :: v327 :: v328 :: v329 :: v330 :: v331 :: v332 :: v333 :: v334 :: v335 :: v336 :: v337 :: v338 :: v339 :: v340 :: v341 :: v342 :: v343 :: v344 :: v345 :: v346 :: v347 :: v348 :: v349 :: v350 :: v351 :: v352 :: v353 :: v354 :: v355 :: v356 :: v357 :: v358 :: v359 :: v360 :: v361 :: v362 :: v363 :: v364 :: v365 :: v366 :: v367 :: v368 :: v369 :: v370 :: v371 :: v372 :: v373 :: v374 :: v375 :: v376 :: v377 :: v378 :: v379 :: v380 :: v381 :: v382 :: v383 :: v384 :: v385 :: v386 :: v387 :: v388 :: v389 :: v390 :: v391 :: v392 :: v393 :: v394 :: v395 :: v396 :: v397 :: v398 :: v399 :: v400 :: v401 :: v402 :: v403 :: v404 :: v405 :: v406 :: v407 :: v408 :: v409 :: v410 :: v411 :: v412 :: v413 :: v414 :: v415 :: v416 :: v417 :: v418 :: v419 :: v420 :: v421 :: v422 :: v423 :: v424 :: v425 :: v426 :: v427 :: v428 :: v429 :: v430 :: v431 :: v432 :: v433 :: v434 :: []), defers := [] } W0 := by
 conv => arg 2; whnf
 obtain ⟨da', dn', dc', e0, hdn, hdc, hdm, hx⟩ := hds.open
 cases e0
 have hdn2 := hdn.out
 have hSt : ∀ i, tydTo ds m0 (i + 1) = tysTo (ds.getD i noDc) (tydTo ds m0 i) (ds.getD i noDc).syms.length := fun i => rfl
 have hS0 : tydTo ds m0 0 = m0 := rfl
 generalize tydTo ds m0 = dt0 at *
 rw [← hdn2] at hK
 have HSt := Lib.hid hSt
 have HS0 := Lib.hid hS0
 have HI0 := Lib.hid h0
 have HKK := Lib.hid hK
 have c0 := cell_of_row _ bS 1 _ _ _ hSB
 simp only [List.getElem?_toArray, List.getElem?_cons_succ, List.getElem?_cons_zero] at c0
 have HC0 := Lib.hid c0
 clear hSt hS0 h0 hdn2 hK hSB hds c0 hlf
 go_cut [] from 148 to 194 (fun wx => OfI w0 wx M (dt0 dn))
 case rest =>
  exact HKK.out u13 u14 u15 u148 u149 u150 u151 u152 u153 u154 u155 u156 u157 u158 u159 u160 u161 u162 u163 u164 u165 u166 u167 u168 u169 u170 u171 u172 u173 u174 u175 u176 u177 u178 u179 u180 u181 u182 u183 u184 u185 u186 u187 u188 u189 u190 u191 u192 u193 u194 _ hcut
 case first =>
  clear HKK
  go_wp2_with fail
  go_loopw [13] (fun x13 W => ∃ i : Nat, i ≤ dn ∧ x13 = .int .i64 i ∧ Hid (OfI w0 W M (dt0 i))) (fun x13 _ => dn - (intOf x13).toNat)
  case atStart => exact ⟨0, Nat.zero_le _, rfl, by rw [HS0.out]; exact HI0⟩
  case round =>
   clear HI0
   obtain ⟨i, hi, rfl, HI⟩ := hrel
   rename World => W
   have hlow := HI.out.low
   have c1 := cell_up hlow HC0.out
   by_cases hlt : i < dn
   · obtain ⟨b, o, ⟨dk, dt, dsy, dp⟩, sv, e2, hx0, hsv, y0, y1, y2, y3⟩ := hx.out i hlt
     subst e2
     simp only at hsv y0 y1 y2 y3
     obtain ⟨sa, sn, sc, e3, hsn, hsc, hsm, hsx⟩ := hsv.open
     subst e3
     have i1 : (i : Int) < (dn : Int) := by omega
     have hgx : ds.getD i noDc = ⟨dk, dt, dsy, dp⟩ := by rw [List.getD_eq_getElem?_getD, hx0]; rfl
     have hs := HSt.out i
     rw [hgx] at hs
     simp only at hs
     have hsn2 := hsn.out
     rw [← hsn2] at hs
     generalize dt0 i = s1 at *
     have HSE := Lib.hid hs
     have Y0 := Lib.hid y0
     have Y2 := Lib.hid y2
     clear y0 y1 y2 y3 hgx hx0 hs hsv hsn2 hlow
     go_upto_block 8 with fail
     clear c1
     have HI1 : Hid (OfI w0 W M (tysTo ⟨dk, dt, dsy, dp⟩ s1 0)) := HI
     clear HI
     go_wp2_with fail
     go_loopw [14] (fun x14 V => ∃ k : Nat, k ≤ sn ∧ x14 = .int .i64 k ∧ Hid (OfI w0 V M (tysTo ⟨dk, dt, dsy, dp⟩ s1 k))) (fun x14 _ => sn - (intOf x14).toNat)
     case atStart => exact ⟨0, Nat.zero_le _, rfl, HI1⟩
     case round =>
      clear HI1
      obtain ⟨k, hk, rfl, HV⟩ := hrel
      rename World => V
      have hlV := HV.out.low
      have c1 := cell_up hlV HC0.out
      have z2 := cell_up hlV Y2.out
      by_cases hlk : k < sn
      · obtain ⟨sb, so, ⟨xn, xl, xm, xp⟩, e4, hy0, y0, y1, y2, y3⟩ := hsx.out k hlk
        subst e4
        simp only at y0 y1 y2 y3
        have i2 : (k : Int) < (sn : Int) := by omega
        have s0 := cell_up hlV y0
        have s1' := cell_up hlV y1
        have s2' := cell_up hlV y2
        have s3' := cell_up hlV y3
        have hgs : dsy.getD k noSm = ⟨xn, xl, xm, xp⟩ := by rw [List.getD_eq_getElem?_getD, hy0]; rfl
        have hst : tysTo ⟨dk, dt, dsy, dp⟩ s1 (k + 1) = tySt ⟨dk, dt, dsy, dp⟩ (dsy.getD k noSm) (tysTo ⟨dk, dt, dsy, dp⟩ s1 k) := rfl
        rw [hgs] at hst
        generalize tysTo ⟨dk, dt, dsy, dp⟩ s1 k = sk at *
        have hst2 : tySt ⟨dk, dt, dsy, dp⟩ ⟨xn, xl, xm, xp⟩ sk = sk.failIf (decide (5 ≤ dk) && decide (sk.left xn < 0)) xp xn := rfl
        rw [hst2] at hst
        have HST := Lib.hid hst
        have HB := Lib.hid (HV.out.box (.cells #[.string xn, .bool xl, .int .i64 xm, .int .i64 xp] 68))
        clear hst hst2 hgs hy0 y0 y1 y2 y3 hlV
        go_upto_region 35 with fail
        clear c1 z2 s0 s1' s2' s3'
        generalize V.alloc (.cells #[.string xn, .bool xl, .int .i64 xm, .int .i64 xp] 68) = V1 at *
        generalize V.heap.size = Q at *
        have hl1 := HB.out.out.low
        have c1 := cell_up hl1 HC0.out
        have z0 := cell_up hl1 Y0.out
        have q0 := cell_of_row _ Q 0 _ _ _ HB.out.row
        simp only [List.getElem?_toArray, List.getElem?_cons_succ, List.getElem?_cons_zero] at q0
        have HLf := Lib.hid (fun U (hU : Below V1.heap.size V1 U) => (HB.out.below hU).out.left xn)
        have hlg := sk.left_ge xn
        generalize sk.left xn = L at *
        clear hl1 HV
        by_cases h5 : 5 ≤ dk
        · rcases hlg with rfl | ⟨k2, rfl, hk2⟩
          · go_upto_region 36 with (first | (go_at_call 47; (with_reducible refine (HLf.out _ (Below.refl _ _)).mono ?_); rintro e w8 ⟨rfl, hb8⟩))
            have HB8 := Lib.hid (HB.out.below hb8)
            have q0 := cell_of_row _ Q 0 _ _ _ HB8.out.row
            have q3 := cell_of_row _ Q 3 _ _ _ HB8.out.row
            simp only [List.getElem?_toArray, List.getElem?_cons_succ, List.getElem?_cons_zero] at q0 q3
            have HFl := Lib.hid (HB8.out.fail xp xn)
            go_wp2_with (first | (go_at_call 45; (with_reducible refine HFl.out.mono ?_); rintro e w9 ⟨rfl, hB9⟩; have HB9 := Lib.hid hB9.out; clear hB9))
            go_round
            case rel => exact ⟨k + 1, by omega, by go_num, by rw [HST.out, decide_eq_true h5, decide_eq_true (by omega)]; exact HB9⟩
            case measure => simp [intOf]; omega
          · go_wp2_with (first | (go_at_call 47; (with_reducible refine (HLf.out _ (Below.refl _ _)).mono ?_); rintro e w8 ⟨rfl, hb8⟩; have HB9 := Lib.hid (HB.out.below hb8).out; clear hb8))
            go_round
            case rel => exact ⟨k + 1, by omega, by go_num, by rw [HST.out, decide_eq_false (p := (k2 : Int) < 0) (by omega), Bool.and_false]; exact HB9⟩
            case measure => simp [intOf]; omega
        · have HB9 := Lib.hid HB.out.out
          go_wp2_with fail
          go_round
          case rel => exact ⟨k + 1, by omega, by go_num, by rw [HST.out, decide_eq_false h5, Bool.false_and]; exact HB9⟩
          case measure => simp [intOf]; omega
      · have i2 : ¬ (k : Int) < (sn : Int) := by omega
        obtain rfl : k = sn := by omega
        clear hlV
        go_wp2_with fail
        go_round
        case rel => exact ⟨i + 1, by omega, by go_num, by rw [HSE.out]; exact HV⟩
        case measure => simp [intOf]; omega
   · have i1 : ¬ (i : Int) < (dn : Int) := by omega
     obtain rfl : i = dn := by omega
     clear hlow
     go_wp2_with fail
     go_meet
     case rel => exact HI.out
end Go.Proofs.Ytkgbifbbpmdpgaa
