/- Of: the Nons of the inner actions. -/
import Derived.Test.YtkgbifbbpmdpgaaNOf16
set_option linter.unusedVariables false
set_option linter.unusedSimpArgs false
namespace Go.Proofs.Ytkgbifbbpmdpgaa

open List renaming getElem_toArray → gA, getElem_cons_succ → gB, getElem_cons_zero → gC, setIfInBounds_toArray → gD, set_cons_zero → gE, set_cons_succ → gF
open Go.RowKit
theorem digF_size : ∀ (f u : Nat) (s : ByteArray), (digF f u s).size ≤ s.size + f
 | 0, u, s => Nat.le_refl _
 | f + 1, u, s => by
   unfold digF
   split
   · omega
   · have := digF_size f (u / 10) (bytesOf [48 + (u : Int) % 10] ++ s)
     rw [one_byte] at this
     omega
theorem digS_size (n : Nat) : (digS n).size ≤ n := by
 have := digF_size n n ⟨#[]⟩
 have e : (⟨#[]⟩ : ByteArray).size = 0 := rfl
 unfold digS
 omega
def innNm (k : Nat) : ByteArray := ⟨#[64]⟩ ++ digS k
def innTo (ns : List Nn) : Nat → List Nn
 | 0 => ns
 | k + 1 => innTo ns k ++ [⟨innNm (k + 1), ⟨#[]⟩⟩]
theorem innTo_len (ns : List Nn) : ∀ i, (innTo ns i).length = ns.length + i
 | 0 => rfl
 | i + 1 => by
   show (innTo ns i ++ _).length = _
   rw [List.length_append, innTo_len ns i]; simp; omega
set_option maxRecDepth 100000 in
set_option maxHeartbeats 40000000 in
theorem of_inner {w0 W0 : World} {M ni : Nat} {m : Mk} {ns : List Nn}
  {v0 v1 v2 v3 v4 v5 v7 v8 v9 v10 v11 v12 v13 v14 v15 v16 v17 v18 v19 v20 v22 v23 v24 v25 v26 v27 v28 v29 v30 v31 v32 v33 v34 v35 v36 v37 v38 v39 v40 v41 v42 v43 v44 v45 v46 v47 v48 v49 v50 v51 v52 v53 v54 v55 v56 v57 v58 v59 v60 v61 v62 v63 v64 v65 v66 v67 v68 v69 v70 v71 v72 v73 v74 v75 v76 v77 v78 v79 v80 v81 v82 v83 v84 v85 v86 v87 v88 v89 v90 v91 v92 v93 v94 v95 v96 v97 v98 v99 v100 v101 v102 v103 v104 v105 v106 v107 v108 v109 v110 v111 v112 v113 v114 v115 v116 v117 v118 v119 v120 v121 v122 v123 v124 v125 v126 v127 v128 v129 v130 v131 v132 v133 v134 v135 v136 v137 v138 v139 v140 v141 v142 v143 v144 v145 v146 v147 v148 v149 v150 v151 v152 v153 v154 v155 v156 v157 v158 v159 v160 v161 v162 v163 v164 v165 v166 v167 v168 v169 v170 v171 v172 v173 v174 v175 v176 v177 v178 v179 v180 v181 v182 v183 v184 v185 v186 v187 v188 v189 v190 v191 v192 v193 v194 v195 v196 v197 v198 v199 v200 v201 v202 v203 v204 v205 v206 v207 v208 v209 v210 v211 v212 v213 v214 v215 v216 v217 v218 v219 v220 v221 v222 v223 v224 v225 v226 v227 v228 v229 v230 v231 v232 v233 v234 v235 v236 v237 v238 v239 v240 v241 v242 v243 v244 v245 v246 v247 v248 v249 v250 v251 v252 v253 v254 v255 v256 v257 v258 v259 v260 v261 v262 v263 v264 v265 v266 v267 v268 v269 v270 v271 v272 v273 v274 v275 v276 v277 v278 v279 v280 v281 v282 v283 v284 v285 v286 v287 v288 v289 v290 v291 v292 v293 v294 v295 v296 v297 v298 v299 v300 v301 v302 v303 v304 v305 v306 v307 v308 v309 v310 v311 v312 v313 v314 v315 v316 v317 v318 v319 v320 v321 v322 v323 v324 v325 v326 v327 v328 v329 v330 v331 v332 v333 v334 v335 v336 v337 v338 v339 v340 v341 v342 v343 v344 v345 v346 v347 v348 v349 v350 v351 v352 v353 v354 v355 v356 v357 v358 v359 v360 v361 v362 v363 v364 v365 v366 v367 v368 v369 v370 v371 v372 v373 v374 v375 v376 v377 v378 v379 v380 v381 v382 v383 v384 v385 v386 v387 v388 v389 v390 v391 v392 v393 v394 v395 v396 v397 v398 v399 v400 v401 v402 v403 v404 v405 v406 v407 v408 v409 v410 v411 v412 v413 v414 v415 v416 v417 v418 v419 v420 v421 v422 v423 v424 v425 v426 v427 v428 v429 v430 v431 v432 v433 v434 : Value} {K : Act → World → Prop} {RE : Ending → World → Prop}
  (h0 : OfG w0 W0 M m ns) (hin : m.inner = ni) (hni : ni ≤ 1000000) (hns : ns.length ≤ 1000000)
  (hK : ∀ (x21 x316 x317 x318 x319 x320 x321 x322 x323 x324 x325 x326 x327 x328 x329 x330 x331 x332 x333 x334 x335 x336 x337 x338 : Value) (wx : World), OfG w0 wx M m (innTo ns ni) → K { tmps := List.toArray (v0 :: v1 :: v2 :: v3 :: v4 :: v5 :: (.pointer (some ⟨M, 0, none⟩) : Value) :: v7 :: v8 :: v9 :: v10 :: v11 :: v12 :: v13 :: v14 :: v15 :: v16 :: v17 :: v18 :: v19 :: v20 :: x21 :: v22 :: v23 :: v24 :: v25 :: v26 :: v27 :: v28 :: v29 :: v30 :: v31 :: v32 :: v33 :: v34 :: v35 :: v36 :: v37 :: v38 :: v39 :: v40 :: v41 :: v42 :: v43 :: v44 :: v45 :: v46 :: v47 :: v48 :: v49 :: v50 :: v51 :: v52 :: v53 :: v54 :: v55 :: v56 :: v57 :: v58 :: v59 :: v60 :: v61 :: v62 :: v63 :: v64 :: v65 :: v66 :: v67 :: v68 :: v69 :: v70 :: v71 :: v72 :: v73 :: v74 :: v75 :: v76 :: v77 :: v78 :: v79 :: v80 :: v81 :: v82 :: v83 :: v84 :: v85 :: v86 :: v87 :: v88 :: v89 :: v90 :: v91 :: v92 :: v93 :: v94 :: v95 :: v96 :: v97 :: v98 :: v99 :: v100 :: v101 :: v102 :: v103 :: v104 :: v105 :: v106 :: v107 :: v108 :: v109 :: v110 :: v111 :: v112 :: v113 :: v114 :: v115 :: v116 :: v117 :: v118 :: v119 :: v120 :: v121 :: v122 :: v123 :: v124 :: v125 :: v126 :: v127 :: v128 :: v129 :: v130 :: v131 :: v132 :: v133 :: v134 :: v135 :: v136 :: v137 :: v138 :: v139 :: v140 :: v141 :: v142 :: v143 :: v144 :: v145 :: v146 :: v147 :: v148 :: v149 :: v150 :: v151 :: v152 :: v153 :: v154 :: v155 :: v156 :: v157 :: v158 :: v159 :: v160 :: v161 :: v162 :: v163 :: v164 :: v165 :: v166 :: v167 :: v168 :: v169 :: v170 :: v171 :: v172 :: v173 :: v174 :: v175 :: v176 :: v177 :: v178 :: v179 :: v180 :: v181 :: v182 :: v183 :: v184 :: v185 :: v186 :: v187 :: v188 :: v189 :: v190 :: v191 :: v192 :: v193 :: v194 :: v195 :: v196 :: v197 :: v198 :: v199 :: v200 :: v201 :: v202 :: v203 :: v204 :: v205 :: v206 :: v207 :: v208 :: v209 :: v210 :: v211 :: v212 :: v213 :: v214 :: v215 :: v216 :: v217 :: v218 :: v219 :: v220 :: v221 :: v222 :: v223 :: v224 :: v225 :: v226 :: v227 :: v228 :: v229 :: v230 :: v231 :: v232 :: v233 :: v234 :: v235 :: v236 :: v237 :: v238 :: v239 :: v240 :: v241 :: v242 :: v243 :: v244 :: v245 :: v246 :: v247 :: v248 :: v249 :: v250 :: v251 :: v252 :: v253 :: v254 :: v255 :: v256 :: v257 :: v258 :: v259 :: v260 :: v261 :: v262 :: v263 :: v264 :: v265 :: v266 :: v267 :: v268 :: v269 :: v270 :: v271 :: v272 :: v273 :: v274 :: v275 :: v276 :: v277 :: v278 :: v279 :: v280 :: v281 :: v282 :: v283 :: v284 :: v285 :: v286 :: v287 :: v288 :: v289 :: v290 :: v291 :: v292 :: v293 :: v294 :: v295 :: v296 :: v297 :: v298 :: v299 :: v300 :: v301 :: v302 :: v303 :: v304 :: v305 :: v306 :: v307 :: v308 :: v309 :: v310 :: v311 :: v312 :: v313 :: v314 :: v315 :: x316 :: x317 :: x318 :: x319 :: x320 :: x321 :: x322 :: x323 :: x324 :: x325 :: x326 :: x327 :: x328 :: x329 :: x330 :: x331 :: x332 :: x333 :: x334 :: x335 :: x336 :: x337 :: x338 :: v339 :: v340 :: v341 :: v342 :: v343 :: v344 :: v345 :: v346 :: v347 :: v348 :: v349 :: v350 :: v351 :: v352 :: v353 :: v354 :: v355 :: v356 :: v357 :: v358 :: v359 :: v360 :: v361 :: v362 :: v363 :: v364 :: v365 :: v366 :: v367 :: v368 :: v369 :: v370 :: v371 :: v372 :: v373 :: v374 :: v375 :: v376 :: v377 :: v378 :: v379 :: v380 :: v381 :: v382 :: v383 :: v384 :: v385 :: v386 :: v387 :: v388 :: v389 :: v390 :: v391 :: v392 :: v393 :: v394 :: v395 :: v396 :: v397 :: v398 :: v399 :: v400 :: v401 :: v402 :: v403 :: v404 :: v405 :: v406 :: v407 :: v408 :: v409 :: v410 :: v411 :: v412 :: v413 :: v414 :: v415 :: v416 :: v417 :: v418 :: v419 :: v420 :: v421 :: v422 :: v423 :: v424 :: v425 :: v426 :: v427 :: v428 :: v429 :: v430 :: v431 :: v432 :: v433 :: v434 :: []), defers := [] } wx) :
  Code.wp Try.prog ((blkOf 16 (Try.f35.body.getD .skip)).getD .skip) (Exit.then K (bodyPost Try.prog Try.f35 RE)) { tmps := List.toArray (v0 :: v1 :: v2 :: v3 :: v4 :: v5 :: (.pointer (some ⟨M, 0, none⟩) : Value) :: v7 :: v8 :: v9 :: v10 :: v11 :: v12 :: v13 :: v14 :: v15 :: v16 :: v17 :: v18 :: v19 :: v20 :: (.int .i64 1 : Value) :: v22 :: v23 :: v24 :: v25 :: v26 :: v27 :: v28 :: v29 :: v30 :: v31 :: v32 :: v33 :: v34 :: v35 :: v36 :: v37 :: v38 :: v39 :: v40 :: v41 :: v42 :: v43 :: v44 :: v45 :: v46 :: v47 :: v48 :: v49 :: v50 :: v51 :: v52 :: v53 :: v54 :: v55 :: v56 :: v57 :: v58 :: v59 :: v60 :: v61 :: v62 :: v63 :: v64 :: v65 :: v66 :: v67 :: v68 :: v69 :: v70 :: v71 :: v72 :: v73 :: v74 :: v75 :: v76 :: v77 :: v78 :: v79 :: v80 :: v81 :: v82 :: v83 :: v84 :: v85 :: v86 :: v87 :: v88 :: v89 :: v90 :: v91 :: v92 :: v93 :: v94 :: v95 :: v96 :: v97 :: v98 :: v99 :: v100 :: v101 :: v102 :: v103 :: v104 :: v105 :: v106 :: v107 :: v108 :: v109 :: v110 :: v111 :: v112 :: v113 :: v114 :: v115 :: v116 :: v117 :: v118 :: v119 :: v120 :: v121 :: v122 :: v123 :: v124 :: v125 :: v126 :: v127 :: v128 :: v129 :: v130 :: v131 :: v132 :: v133 :: v134 :: v135 :: v136 :: v137 :: v138 :: v139 :: v140 :: v141 :: v142 :: v143 :: v144 :: v145 :: v146 :: v147 :: v148 :: v149 :: v150 :: v151 :: v152 :: v153 :: v154 :: v155 :: v156 :: v157 :: v158 :: v159 :: v160 :: v161 :: v162 :: v163 :: v164 :: v165 :: v166 :: v167 :: v168 :: v169 :: v170 :: v171 :: v172 :: v173 :: v174 :: v175 :: v176 :: v177 :: v178 :: v179 :: v180 :: v181 :: v182 :: v183 :: v184 :: v185 :: v186 :: v187 :: v188 :: v189 :: v190 :: v191 :: v192 :: v193 :: v194 :: v195 :: v196 :: v197 :: v198 :: v199 :: v200 :: v201 :: v202 :: v203 :: v204 :: v205 :: v206 :: v207 :: v208 :: v209 :: v210 :: v211 :: v212 :: v213 :: v214 :: v215 :: v216 :: v217 :: v218 :: v219 :: v220 :: v221 :: v222 :: v223 :: v224 :: v225 :: v226 :: v227 :: v228 :: v229 :: v230 :: v231 :: v232 :: v233 :: v234 :: v235 :: v236 :: v237 :: v238 :: v239 :: v240 :: v241 :: v242 :: v243 :: v244 :: v245 :: v246 :: v247 :: v248 :: v249 :: v250 :: v251 :: v252 :: v253 :: v254 :: v255 :: v256 :: v257 :: v258 :: v259 :: v260 :: v261 :: v262 :: v263 :: v264 :: v265 :: v266 :: v267 :: v268 :: v269 :: v270 :: v271 :: v272 :: v273 :: v274 :: v275 :: v276 :: v277 :: v278 :: v279 :: v280 :: v281 :: v282 :: v283 :: v284 :: v285 :: v286 :: v287 :: v288 :: v289 :: v290 :: v291 :: v292 :: v293 :: v294 :: v295 :: v296 :: v297 :: v298 :: v299 :: v300 :: v301 :: v302 :: v303 :: v304 :: v305 :: v306 :: v307 :: v308 :: v309 :: v310 :: v311 :: v312 :: v313 :: v314 :: v315 :: v316 :: v317 :: v318 :: v319 :: v320 :: v321 :: v322 :: v323 :: v324 :: v325 :: v326 :: v327 :: v328 :: v329 :: v330 :: v331 :: v332 :: v333 :: v334 :: v335 :: v336 :: v337 :: v338 :: v339 :: v340 :: v341 :: v342 :: v343 :: v344 :: v345 :: v346 :: v347 :: v348 :: v349 :: v350 :: v351 :: v352 :: v353 :: v354 :: v355 :: v356 :: v357 :: v358 :: v359 :: v360 :: v361 :: v362 :: v363 :: v364 :: v365 :: v366 :: v367 :: v368 :: v369 :: v370 :: v371 :: v372 :: v373 :: v374 :: v375 :: v376 :: v377 :: v378 :: v379 :: v380 :: v381 :: v382 :: v383 :: v384 :: v385 :: v386 :: v387 :: v388 :: v389 :: v390 :: v391 :: v392 :: v393 :: v394 :: v395 :: v396 :: v397 :: v398 :: v399 :: v400 :: v401 :: v402 :: v403 :: v404 :: v405 :: v406 :: v407 :: v408 :: v409 :: v410 :: v411 :: v412 :: v413 :: v414 :: v415 :: v416 :: v417 :: v418 :: v419 :: v420 :: v421 :: v422 :: v423 :: v424 :: v425 :: v426 :: v427 :: v428 :: v429 :: v430 :: v431 :: v432 :: v433 :: v434 :: []), defers := [] } W0 := by
 conv => arg 2; whnf
 have hSt : ∀ i, innTo ns (i + 1) = innTo ns i ++ [⟨innNm (i + 1), ⟨#[]⟩⟩] := fun i => rfl
 have hS0 : innTo ns 0 = ns := rfl
 have hNN := innTo_len ns
 generalize innTo ns = dt0 at *
 have HSt := Lib.hid hSt
 have HS0 := Lib.hid hS0
 have HNN := Lib.hid hNN
 have HI0 := Lib.hid h0
 have HKK := Lib.hid hK
 have HIN := Lib.hid hin
 clear hSt hS0 h0 hK hNN hin
 go_cut [] from 316 to 338 (fun wx => OfG w0 wx M m (dt0 ni))
 case rest =>
  exact HKK.out u21 u316 u317 u318 u319 u320 u321 u322 u323 u324 u325 u326 u327 u328 u329 u330 u331 u332 u333 u334 u335 u336 u337 u338 _ hcut
 case first =>
  clear HKK
  go_wp2_with fail
  go_loopw [21] (fun x21 W => ∃ i : Nat, i ≤ ni ∧ x21 = .int .i64 (1 + i) ∧ Hid (OfG w0 W M m (dt0 i))) (fun x21 _ => ni + 1 - (intOf x21).toNat)
  case atStart => exact ⟨0, Nat.zero_le _, rfl, by rw [HS0.out]; exact HI0⟩
  case round =>
   clear HI0
   obtain ⟨k, hk, rfl, HI⟩ := hrel
   rename World => V8
   obtain ⟨tv, nv, pv, gv, yv, lv, r1, r2, r3, r4, r5⟩ := HI.out.read
   have x12 := r5 12
   simp only [gCells, List.getElem?_cons_succ, List.getElem?_cons_zero] at x12
   rw [HIN.out] at x12
   clear r1 r2 r3 r4 r5
   by_cases hlt : k < ni
   · have i1 : (1 : Int) + (k : Int) ≤ (ni : Int) := by omega
     have HST := Lib.hid (HSt.out k)
     have hnl := HNN.out k
     generalize dt0 k = nk at *
     have hds := digS_size (k + 1)
     have hdg := fun U => digits_any (k + 1) ⟨by omega, by omega⟩ U
     rw [show ((k + 1 : Nat) : Int) = 1 + (k : Int) by omega] at hdg
     have HDg := Lib.hid hdg
     have hnm : innNm (k + 1) = ⟨#[64]⟩ ++ digS (k + 1) := rfl
     generalize innNm (k + 1) = nm at *
     generalize digS (k + 1) = dg at *
     subst hnm
     have hno : ¬ 9223372036854775807 < (⟨#[64]⟩ : ByteArray).size + dg.size := by
      have : (⟨#[64]⟩ : ByteArray).size = 1 := rfl
      omega
     have hno2 : ¬ 9223372036854775807 < 1 + dg.size := by omega
     clear hdg
     go_upto_region 61 with fail
     obtain ⟨F, S, h1, h2⟩ := HI.out
     obtain ⟨tv, nv, pv, gv, yv, lv, ys, hFi, hO⟩ := h1.is
     obtain ⟨va, vc, e0⟩ := own_slice (hO.1.own ⟨106, 2, nv, nk.length, nk.flatMap nnC⟩ (by simp [gRows]))
     simp only at e0
     subst e0
     obtain ⟨i0, hi0, iz0, iz1, iz2⟩ := info_parts Try.infoNonG
     have hMn : some M ≠ (Value.slice va nk.length vc).ownBlock := fun e => hO.1.notM ⟨106, 2, (.slice va nk.length vc), nk.length, nk.flatMap nnC⟩ (by simp [gRows]) e.symm
     have x2W := hO.1.cell 1
     simp only [gCells, List.getElem?_cons_succ, List.getElem?_cons_zero] at x2W
     have x2D : V8.drew.cell? ⟨M, 1, none⟩ = some (.slice va nk.length vc) := x2W
     have HO := Lib.hid hO
     have H2 := Lib.hid h2
     have hbn1 : nk.length + 1 ≤ maxLen := by unfold maxLen; omega
     have hbn2 : (nk.length + 1) * 32 ≤ 140737488355328 := by omega
     clear hO h1 h2 hFi hnl
     refine wp_region_held_drew (S := (fun Xw => True)) (by kernel_rfl) ?hS0 (fun hHeld => ?hR0)
     case hS0 => exact trivial
     case hR0 =>
      refine tk 0 ?_
      try simp only [Act.put, gA, gB, gC, gD, gE, gF]
      refine tk 1 ?_
      try simp only [Act.put, gA, gB, gC, gD, gE, gF]
      refine tk 2 ?_
      try simp only [Act.put, gA, gB, gC, gD, gE, gF]
      refine tk 3 ?_
      try simp only [Act.put, gA, gB, gC, gD, gE, gF]
      refine tk 4 ?_
      try simp only [Act.put, gA, gB, gC, gD, gE, gF]
      refine tk 6 ?_
      try simp only [Act.put, gA, gB, gC, gD, gE, gF]
      refine wpAnyH_ready (rs := [5, 7]) (by kernel_rfl) (by simp) ?_
      refine AllReadyH.cons rfl (fun K hK => ?_) ?_
      · try simp only [gA, gB, gC]
        go_simp
        refine hK.out _ _ trivial (fun hHeld => ?_)
        clear hK K
        try simp only [Act.put, gA, gB, gC, gD, gE, gF]
        refine wpAnyH_ready (rs := [7]) (by kernel_rfl) (by simp) ?_
        refine AllReadyH.cons rfl (fun K hK => ?_) .nil
        try simp only [gA, gB, gC]
        go_simp
        go_at_call 28
        (with_reducible refine (HDg.out _).mono ?_)
        rintro e w9 ⟨rfl, hb9⟩
        have hb9 : Below V8.heap.size V8 w9 := (Below.refl V8.heap.size V8).drew.trans hb9
        have hbL : Below V8.heap.size V8 (w9.alloc (.cells #[.string (⟨#[64]⟩ ++ dg), .string ⟨#[]⟩] 106)) := hb9.alloc hb9.size _
        have x29 : w9.cell? ⟨M, 1, none⟩ = some (.slice va nk.length vc) := cell_up hb9 x2W
        have x2L : (w9.alloc (.cells #[.string (⟨#[64]⟩ ++ dg), .string ⟨#[]⟩] 106)).cell? ⟨M, 1, none⟩ = some (.slice va nk.length vc) := cell_up hbL x2W
        have HOL := Lib.hid (HO.out.below hbL)
        have ho4 := HOL.out.1.own ⟨106, 2, (.slice va nk.length vc), nk.length, nk.flatMap nnC⟩ (by simp [gRows])
        have hf4 := HOL.out.1.free 1
        have hM4 := HOL.out.1.mlt
        have hB4 : w0.heap.size ≤ (w9.alloc (.cells #[.string (⟨#[64]⟩ ++ dg), .string ⟨#[]⟩] 106)).heap.size := Nat.le_trans HOL.out.1.mB (Nat.le_of_lt hM4)
        have H2L := Lib.hid (H2.out.trans (hbL.mono H2.out.size))
        go_wp2_with fail
        refine hK.out _ _ trivial (fun hHeld => ?_)
        clear hK K
        try simp only [Act.put, gA, gB, gC, gD, gE, gF]
        refine tk 8 ?_
        try simp only [Act.put, gA, gB, gC, gD, gE, gF]
        refine tk 9 ?_
        try simp only [Act.put, gA, gB, gC, gD, gE, gF]
        refine wpAnyH_ready (rs := [10]) (by kernel_rfl) (by simp) ?_
        refine AllReadyH.cons rfl (fun K hK => ?_) .nil
        try simp only [gA, gB, gC]
        go_simp
        refine hK.out _ _ trivial (fun hHeld => ?_)
        clear hK K
        try simp only [Act.put, gA, gB, gC, gD, gE, gF]
        refine wpAnyH_ready (rs := [11]) (by kernel_rfl) (by simp) ?_
        refine AllReadyH.cons rfl (fun K hK => ?_) .nil
        refine step_append_lies _ (by rfl) _ _ _ (by rfl) w0.heap.size 106 i0 (.agg #[.string ByteArray.empty, .string ByteArray.empty]) 2 32 Try.underlying35 hi0 iz0 iz1 iz2 rfl (by omega) (.slice va nk.length vc) nk.length (nk.flatMap nnC) (by rfl) ho4 ⟨w9.heap.size, 0, none⟩ 1 1 [.string (⟨#[64]⟩ ++ dg), .string ⟨#[]⟩] (by rfl) (by rfl) (lit_cells w9 #[.string (⟨#[64]⟩ ++ dg), .string ⟨#[]⟩] 106) (by simp [Value.oneCell']) (by omega) hbn1 hbn2 hB4 _ rfl ?_
        intro gg cap2 w5 hown5 hgrow5 hat hlt5
        have f5 : w5.cell? ⟨M, 1, none⟩ = some (.slice va nk.length vc) := (hgrow5.cell x2L hMn)
        have r5 : w5.frozen? ⟨M, 1, none⟩ = false := (hgrow5.frozen_far ⟨M, 1, none⟩ hM4 hMn).trans hf4
        refine hK.out _ _ trivial (fun hHeld => ?_)
        clear hK K
        try simp only [Act.put, gA, gB, gC, gD, gE, gF]
        refine tk 12 ?_
        try simp only [Act.put, gA, gB, gC, gD, gE, gF]
        refine tk 13 ?_
        try simp only [Act.put, gA, gB, gC, gD, gE, gF]
        refine tk 14 ?_
        try simp only [Act.put, gA, gB, gC, gD, gE, gF]
        refine wpAnyH_ready (rs := [15]) (by kernel_rfl) (by simp) ?_
        refine AllReadyH.cons rfl (fun K hK => ?_) .nil
        try simp only [gA, gB, gC]
        go_simp
        refine hK.out _ _ trivial (fun hHeld => ?_)
        clear hK K
        try simp only [Act.put, gA, gB, gC, gD, gE, gF]
        refine wpAnyH_done (by kernel_rfl) ?_ _
        go_wp2_with fail
        go_round
        case rel =>
         obtain ⟨a1, a2, a3⟩ := HOL.out.push (k := ⟨(⟨#[64]⟩ ++ dg), ⟨#[]⟩⟩) hgrow5 hown5 (hat.imp (fun e => e.symm) (fun e => by rw [e]; rfl))
         exact ⟨k + 1, by omega, by go_num, by rw [HST.out]; exact Lib.hid ⟨_, S, ⟨⟨_, _, _, _, _, _, _, fun _ => Iff.rfl, a1⟩⟩, (H2L.out).trans (a3.below (fun b hb => (HOL.out.1.lt b hb).1) H2L.out.size)⟩⟩
        case measure => simp [intOf]; omega
      refine AllReadyH.cons rfl (fun K hK => ?_) .nil
      try simp only [gA, gB, gC]
      go_simp
      go_at_call 28
      (with_reducible refine (HDg.out _).mono ?_)
      rintro e w9 ⟨rfl, hb9⟩
      have hb9 : Below V8.heap.size V8 w9 := (Below.refl V8.heap.size V8).drew.trans hb9
      have hbL : Below V8.heap.size V8 (w9.alloc (.cells #[.string (⟨#[64]⟩ ++ dg), .string ⟨#[]⟩] 106)) := hb9.alloc hb9.size _
      have x29 : w9.cell? ⟨M, 1, none⟩ = some (.slice va nk.length vc) := cell_up hb9 x2W
      have x2L : (w9.alloc (.cells #[.string (⟨#[64]⟩ ++ dg), .string ⟨#[]⟩] 106)).cell? ⟨M, 1, none⟩ = some (.slice va nk.length vc) := cell_up hbL x2W
      have HOL := Lib.hid (HO.out.below hbL)
      have ho4 := HOL.out.1.own ⟨106, 2, (.slice va nk.length vc), nk.length, nk.flatMap nnC⟩ (by simp [gRows])
      have hf4 := HOL.out.1.free 1
      have hM4 := HOL.out.1.mlt
      have hB4 : w0.heap.size ≤ (w9.alloc (.cells #[.string (⟨#[64]⟩ ++ dg), .string ⟨#[]⟩] 106)).heap.size := Nat.le_trans HOL.out.1.mB (Nat.le_of_lt hM4)
      have H2L := Lib.hid (H2.out.trans (hbL.mono H2.out.size))
      go_wp2_with fail
      refine hK.out _ _ trivial (fun hHeld => ?_)
      clear hK K
      try simp only [Act.put, gA, gB, gC, gD, gE, gF]
      refine tk 8 ?_
      try simp only [Act.put, gA, gB, gC, gD, gE, gF]
      refine tk 9 ?_
      try simp only [Act.put, gA, gB, gC, gD, gE, gF]
      refine wpAnyH_ready (rs := [5, 10]) (by kernel_rfl) (by simp) ?_
      refine AllReadyH.cons rfl (fun K hK => ?_) ?_
      · try simp only [gA, gB, gC]
        go_simp
        refine hK.out _ _ trivial (fun hHeld => ?_)
        clear hK K
        try simp only [Act.put, gA, gB, gC, gD, gE, gF]
        refine wpAnyH_ready (rs := [10]) (by kernel_rfl) (by simp) ?_
        refine AllReadyH.cons rfl (fun K hK => ?_) .nil
        try simp only [gA, gB, gC]
        go_simp
        refine hK.out _ _ trivial (fun hHeld => ?_)
        clear hK K
        try simp only [Act.put, gA, gB, gC, gD, gE, gF]
        refine wpAnyH_ready (rs := [11]) (by kernel_rfl) (by simp) ?_
        refine AllReadyH.cons rfl (fun K hK => ?_) .nil
        refine step_append_lies _ (by rfl) _ _ _ (by rfl) w0.heap.size 106 i0 (.agg #[.string ByteArray.empty, .string ByteArray.empty]) 2 32 Try.underlying35 hi0 iz0 iz1 iz2 rfl (by omega) (.slice va nk.length vc) nk.length (nk.flatMap nnC) (by rfl) ho4 ⟨w9.heap.size, 0, none⟩ 1 1 [.string (⟨#[64]⟩ ++ dg), .string ⟨#[]⟩] (by rfl) (by rfl) (lit_cells w9 #[.string (⟨#[64]⟩ ++ dg), .string ⟨#[]⟩] 106) (by simp [Value.oneCell']) (by omega) hbn1 hbn2 hB4 _ rfl ?_
        intro gg cap2 w5 hown5 hgrow5 hat hlt5
        have f5 : w5.cell? ⟨M, 1, none⟩ = some (.slice va nk.length vc) := (hgrow5.cell x2L hMn)
        have r5 : w5.frozen? ⟨M, 1, none⟩ = false := (hgrow5.frozen_far ⟨M, 1, none⟩ hM4 hMn).trans hf4
        refine hK.out _ _ trivial (fun hHeld => ?_)
        clear hK K
        try simp only [Act.put, gA, gB, gC, gD, gE, gF]
        refine tk 12 ?_
        try simp only [Act.put, gA, gB, gC, gD, gE, gF]
        refine tk 13 ?_
        try simp only [Act.put, gA, gB, gC, gD, gE, gF]
        refine tk 14 ?_
        try simp only [Act.put, gA, gB, gC, gD, gE, gF]
        refine wpAnyH_ready (rs := [15]) (by kernel_rfl) (by simp) ?_
        refine AllReadyH.cons rfl (fun K hK => ?_) .nil
        try simp only [gA, gB, gC]
        go_simp
        refine hK.out _ _ trivial (fun hHeld => ?_)
        clear hK K
        try simp only [Act.put, gA, gB, gC, gD, gE, gF]
        refine wpAnyH_done (by kernel_rfl) ?_ _
        go_wp2_with fail
        go_round
        case rel =>
         obtain ⟨a1, a2, a3⟩ := HOL.out.push (k := ⟨(⟨#[64]⟩ ++ dg), ⟨#[]⟩⟩) hgrow5 hown5 (hat.imp (fun e => e.symm) (fun e => by rw [e]; rfl))
         exact ⟨k + 1, by omega, by go_num, by rw [HST.out]; exact Lib.hid ⟨_, S, ⟨⟨_, _, _, _, _, _, _, fun _ => Iff.rfl, a1⟩⟩, (H2L.out).trans (a3.below (fun b hb => (HOL.out.1.lt b hb).1) H2L.out.size)⟩⟩
        case measure => simp [intOf]; omega
      refine AllReadyH.cons rfl (fun K hK => ?_) .nil
      try simp only [gA, gB, gC]
      go_simp
      refine hK.out _ _ trivial (fun hHeld => ?_)
      clear hK K
      try simp only [Act.put, gA, gB, gC, gD, gE, gF]
      refine wpAnyH_ready (rs := [5]) (by kernel_rfl) (by simp) ?_
      refine AllReadyH.cons rfl (fun K hK => ?_) .nil
      try simp only [gA, gB, gC]
      go_simp
      refine hK.out _ _ trivial (fun hHeld => ?_)
      clear hK K
      try simp only [Act.put, gA, gB, gC, gD, gE, gF]
      refine wpAnyH_ready (rs := [11]) (by kernel_rfl) (by simp) ?_
      refine AllReadyH.cons rfl (fun K hK => ?_) .nil
      refine step_append_lies _ (by rfl) _ _ _ (by rfl) w0.heap.size 106 i0 (.agg #[.string ByteArray.empty, .string ByteArray.empty]) 2 32 Try.underlying35 hi0 iz0 iz1 iz2 rfl (by omega) (.slice va nk.length vc) nk.length (nk.flatMap nnC) (by rfl) ho4 ⟨w9.heap.size, 0, none⟩ 1 1 [.string (⟨#[64]⟩ ++ dg), .string ⟨#[]⟩] (by rfl) (by rfl) (lit_cells w9 #[.string (⟨#[64]⟩ ++ dg), .string ⟨#[]⟩] 106) (by simp [Value.oneCell']) (by omega) hbn1 hbn2 hB4 _ rfl ?_
      intro gg cap2 w5 hown5 hgrow5 hat hlt5
      have f5 : w5.cell? ⟨M, 1, none⟩ = some (.slice va nk.length vc) := (hgrow5.cell x2L hMn)
      have r5 : w5.frozen? ⟨M, 1, none⟩ = false := (hgrow5.frozen_far ⟨M, 1, none⟩ hM4 hMn).trans hf4
      refine hK.out _ _ trivial (fun hHeld => ?_)
      clear hK K
      try simp only [Act.put, gA, gB, gC, gD, gE, gF]
      refine tk 12 ?_
      try simp only [Act.put, gA, gB, gC, gD, gE, gF]
      refine tk 13 ?_
      try simp only [Act.put, gA, gB, gC, gD, gE, gF]
      refine tk 14 ?_
      try simp only [Act.put, gA, gB, gC, gD, gE, gF]
      refine wpAnyH_ready (rs := [15]) (by kernel_rfl) (by simp) ?_
      refine AllReadyH.cons rfl (fun K hK => ?_) .nil
      try simp only [gA, gB, gC]
      go_simp
      refine hK.out _ _ trivial (fun hHeld => ?_)
      clear hK K
      try simp only [Act.put, gA, gB, gC, gD, gE, gF]
      refine wpAnyH_done (by kernel_rfl) ?_ _
      go_wp2_with fail
      go_round
      case rel =>
       obtain ⟨a1, a2, a3⟩ := HOL.out.push (k := ⟨(⟨#[64]⟩ ++ dg), ⟨#[]⟩⟩) hgrow5 hown5 (hat.imp (fun e => e.symm) (fun e => by rw [e]; rfl))
       exact ⟨k + 1, by omega, by go_num, by rw [HST.out]; exact Lib.hid ⟨_, S, ⟨⟨_, _, _, _, _, _, _, fun _ => Iff.rfl, a1⟩⟩, (H2L.out).trans (a3.below (fun b hb => (HOL.out.1.lt b hb).1) H2L.out.size)⟩⟩
      case measure => simp [intOf]; omega
   · have i1 : ¬ (1 : Int) + (k : Int) ≤ (ni : Int) := by omega
     have hkr : k = ni := by omega
     have HKR := Lib.hid hkr
     clear hkr
     go_wp2_with fail
     go_meet
     case rel => rw [← HKR.out]; exact HI.out
end Go.Proofs.Ytkgbifbbpmdpgaa
