/- Of: the tokens' numbers. -/
import Derived.Test.YtkgbifbbpmdpgaaNOf14
set_option linter.unusedVariables false
set_option linter.unusedSimpArgs false
namespace Go.Proofs.Ytkgbifbbpmdpgaa

open Go.RowKit
def numSt (i : Nat) (s : Mk × Int) : Mk × Int := if s.1.given.getD i false = true then s else (s.1.setTok i (fun k => { k with num := s.2 }), s.2 + 1)
def numTo (m : Mk) (nx : Int) : Nat → Mk × Int
 | 0 => (m, nx)
 | j + 1 => numSt (3 + j) (numTo m nx j)
theorem numSt_len (i : Nat) (s : Mk × Int) : (numSt i s).1.toks.length = s.1.toks.length ∧ (numSt i s).1.given = s.1.given ∧ (s.2 ≤ (numSt i s).2 ∧ (numSt i s).2 ≤ s.2 + 1) := by
 unfold numSt
 split
 · exact ⟨rfl, rfl, by omega, by omega⟩
 · exact ⟨by simp [Mk.setTok], rfl, by simp only; omega, by simp only; omega⟩
theorem numTo_len (m : Mk) (nx : Int) : ∀ j, (numTo m nx j).1.toks.length = m.toks.length ∧ (numTo m nx j).1.given = m.given ∧ (nx ≤ (numTo m nx j).2 ∧ (numTo m nx j).2 ≤ nx + j)
 | 0 => ⟨rfl, rfl, Int.le_refl _, by show nx ≤ nx + (0 : Nat); omega⟩
 | j + 1 => by
   obtain ⟨a, b, c, d⟩ := numTo_len m nx j
   obtain ⟨e, f, g, h⟩ := numSt_len (3 + j) (numTo m nx j)
   exact ⟨e.trans a, f.trans b, by show nx ≤ (numSt (3 + j) (numTo m nx j)).2; omega, by show (numSt (3 + j) (numTo m nx j)).2 ≤ nx + ((j + 1 : Nat) : Int); omega⟩
section
variable {w w0 : World} {B M g n c t : Nat} {S : Nat → Prop} {m : Mk} {ns : List Nn} {nv pv gv yv lv : Value} {ys : List Value}
theorem MkGO.tokAt (h : MkGO w B M S m ns (.slice (some ⟨g, 0, none⟩) m.toks.length c) nv pv gv yv lv ys) (ht : t < m.toks.length) : w.cell? ⟨g, t * 6 + 2, none⟩ = some (.int .i64 (m.toks.getD t noTk).num) ∧ w.frozen? ⟨g, t * 6 + 2, none⟩ = false := by
 have ho := h.1.own ⟨52, 6, (.slice (some ⟨g, 0, none⟩) m.toks.length c), m.toks.length, m.toks.flatMap tkC⟩ (by simp [gRows, mkRows])
 simp only at ho
 refine ⟨?_, ho.frozenAt _⟩
 rw [ho.cellAt _ (by omega), flat_get (f := tkC) (size := 6) (fun _ => rfl) m.toks t 2 (m.toks.getD t noTk) (by rw [List.getD_eq_getElem?_getD, List.getElem?_eq_getElem ht]; rfl) (by omega)]
 rfl
theorem MkGO.setNum (h : MkGO w B M S m ns (.slice (some ⟨g, 0, none⟩) m.toks.length c) nv pv gv yv lv ys) (ht : t < m.toks.length) (q : Int) :
  MkGO (w.setCell ⟨g, t * 6 + 2, none⟩ (.int .i64 q)) B M S (m.setTok t (fun k => { k with num := q })) ns (.slice (some ⟨g, 0, none⟩) m.toks.length c) nv pv gv yv lv ys ∧ Fr (fun b => b = g) w (w.setCell ⟨g, t * 6 + 2, none⟩ (.int .i64 q)) := by
 have hs := h.1.store (i := 0) (r := ⟨52, 6, (.slice (some ⟨g, 0, none⟩) m.toks.length c), m.toks.length, m.toks.flatMap tkC⟩) rfl rfl (t * 6 + 2) (.int .i64 q)
 have hF : Fr (fun b => b = g) w (w.setCell ⟨g, t * 6 + 2, none⟩ (.int .i64 q)) := Fr.set w _ _ rfl
 have eR : (gRows (.slice (some ⟨g, 0, none⟩) m.toks.length c) nv pv gv yv lv ys m ns).set 0 ⟨52, 6, (.slice (some ⟨g, 0, none⟩) m.toks.length c), m.toks.length, (m.toks.flatMap tkC).set (t * 6 + 2) (.int .i64 q)⟩ = gRows (.slice (some ⟨g, 0, none⟩) m.toks.length c) nv pv gv yv lv ys (m.setTok t (fun k => { k with num := q })) ns := by
  unfold gRows mkRows Mk.setTok
  rw [flat_set (f := tkC) (size := 6) (fun _ => rfl) m.toks t 2 (.int .i64 q) (m.toks.getD t noTk) { (m.toks.getD t noTk) with num := q } (by rw [List.getD_eq_getElem?_getD, List.getElem?_eq_getElem ht]; rfl) (by omega) rfl]
  simp
 rw [eR] at hs
 exact ⟨⟨hs, h.2.frame hF (fun b hS hb => h.1.apart b hS ⟨52, 6, (.slice (some ⟨g, 0, none⟩) m.toks.length c), m.toks.length, m.toks.flatMap tkC⟩ (by simp [gRows, mkRows]) (by rw [hb]; rfl))⟩, hF⟩
theorem OfG.setNum (h : OfG w0 w M m ns) (ht : t < m.toks.length) : ∃ g c, w.cell? ⟨M, 0, none⟩ = some (.slice (some ⟨g, 0, none⟩) m.toks.length c) ∧ m.toks.length ≤ c ∧ c ≤ 9223372036854775807 ∧ w.cell? ⟨g, t * 6 + 2, none⟩ = some (.int .i64 (m.toks.getD t noTk).num) ∧ w.frozen? ⟨g, t * 6 + 2, none⟩ = false ∧
  ∀ q : Int, OfG w0 (w.setCell ⟨g, t * 6 + 2, none⟩ (.int .i64 q)) M (m.setTok t (fun k => { k with num := q })) ns := by
 obtain ⟨F, S, h1, h2⟩ := h
 obtain ⟨tv, nv, pv, gv, yv, lv, ys, hFi, hO⟩ := h1.is
 have ho := hO.1.own ⟨52, 6, tv, m.toks.length, m.toks.flatMap tkC⟩ (by simp [gRows, mkRows])
 have hlen := ho.1
 rcases ho.2 with ⟨_, e⟩ | ⟨g, cap, cur, e, hg1, hg2, hg3, hg4, hg5, hg6⟩
 · simp only at e; omega
 · simp only at e
   subst e
   obtain ⟨q1, q2⟩ := hO.tokAt ht
   refine ⟨g, cap, hO.1.cell 0, hg3, by unfold maxLen at hg4; omega, q1, q2, fun q => ?_⟩
   obtain ⟨a1, a2⟩ := hO.setNum ht q
   exact ⟨F, S, ⟨⟨.slice (some ⟨g, 0, none⟩) m.toks.length cap, nv, pv, gv, yv, lv, ys, fun b => (hFi b).trans (by unfold footS gRows mkRows; simp), a1⟩⟩, h2.trans (a2.below (fun b hb => by rw [hb]; exact hg1) h2.size)⟩
end
set_option maxRecDepth 100000 in
set_option maxHeartbeats 40000000 in
theorem of_nums {w0 W0 : World} {M : Nat} {m : Mk} {ns : List Nn} {nx : Int}
  {v0 v1 v2 v3 v4 v5 v7 v8 v9 v10 v11 v12 v13 v14 v15 v16 v17 v18 v19 v20 v21 v24 v25 v26 v27 v28 v29 v30 v31 v32 v33 v34 v35 v36 v37 v38 v39 v40 v41 v42 v43 v44 v45 v46 v47 v48 v49 v50 v51 v52 v53 v54 v55 v56 v57 v58 v59 v60 v61 v62 v63 v64 v65 v66 v67 v68 v69 v70 v71 v72 v73 v74 v75 v76 v77 v78 v79 v80 v81 v82 v83 v84 v85 v86 v87 v88 v89 v90 v91 v92 v93 v94 v95 v96 v97 v98 v99 v100 v101 v102 v103 v104 v105 v106 v107 v108 v109 v110 v111 v112 v113 v114 v115 v116 v117 v118 v119 v120 v121 v122 v123 v124 v125 v126 v127 v128 v129 v130 v131 v132 v133 v134 v135 v136 v137 v138 v139 v140 v141 v142 v143 v144 v145 v146 v147 v148 v149 v150 v151 v152 v153 v154 v155 v156 v157 v158 v159 v160 v161 v162 v163 v164 v165 v166 v167 v168 v169 v170 v171 v172 v173 v174 v175 v176 v177 v178 v179 v180 v181 v182 v183 v184 v185 v186 v187 v188 v189 v190 v191 v192 v193 v194 v195 v196 v197 v198 v199 v200 v201 v202 v203 v204 v205 v206 v207 v208 v209 v210 v211 v212 v213 v214 v215 v216 v217 v218 v219 v220 v221 v222 v223 v224 v225 v226 v227 v228 v229 v230 v231 v232 v233 v234 v235 v236 v237 v238 v239 v240 v241 v242 v243 v244 v245 v246 v247 v248 v249 v250 v251 v252 v253 v254 v255 v256 v257 v258 v259 v260 v261 v262 v263 v264 v265 v266 v267 v268 v269 v270 v271 v272 v273 v274 v275 v276 v277 v278 v279 v280 v281 v282 v283 v284 v285 v286 v287 v288 v289 v290 v291 v292 v293 v294 v295 v296 v297 v298 v299 v300 v301 v302 v303 v304 v305 v306 v307 v308 v309 v310 v311 v312 v313 v314 v315 v316 v317 v318 v319 v320 v321 v322 v323 v324 v325 v326 v327 v328 v329 v330 v331 v332 v333 v334 v335 v336 v337 v338 v339 v340 v341 v342 v343 v344 v345 v346 v347 v348 v349 v350 v351 v352 v353 v354 v355 v356 v357 v358 v359 v360 v361 v362 v363 v364 v365 v366 v367 v368 v369 v370 v371 v372 v373 v374 v375 v376 v377 v378 v379 v380 v381 v382 v383 v384 v385 v386 v387 v388 v389 v390 v391 v392 v393 v394 v395 v396 v397 v398 v399 v400 v401 v402 v403 v404 v405 v406 v407 v408 v409 v410 v411 v412 v413 v414 v415 v416 v417 v418 v419 v420 v421 v422 v423 v424 v425 v426 v427 v428 v429 v430 v431 v432 v433 v434 : Value} {K : Act → World → Prop} {RE : Ending → World → Prop}
  (h0 : OfG w0 W0 M m ns) (ht3 : 3 ≤ m.toks.length) (htl : m.toks.length ≤ 1000000) (hgl : m.given.length = m.toks.length) (hnx : 0 ≤ nx ∧ nx ≤ 1000000)
  (hK : ∀ (x22 x23 x339 x340 x341 x342 x343 x344 x345 x346 x347 x348 x349 x350 x351 x352 x353 x354 x355 x356 x357 x358 x359 x360 x361 x362 x363 x364 x365 x366 x367 : Value) (wx : World), OfG w0 wx M (numTo m nx (m.toks.length - 3)).1 ns → K { tmps := List.toArray (v0 :: v1 :: v2 :: v3 :: v4 :: v5 :: (.pointer (some ⟨M, 0, none⟩) : Value) :: v7 :: v8 :: v9 :: v10 :: v11 :: v12 :: v13 :: v14 :: v15 :: v16 :: v17 :: v18 :: v19 :: v20 :: v21 :: x22 :: x23 :: v24 :: v25 :: v26 :: v27 :: v28 :: v29 :: v30 :: v31 :: v32 :: v33 :: v34 :: v35 :: v36 :: v37 :: v38 :: v39 :: v40 :: v41 :: v42 :: v43 :: v44 :: v45 :: v46 :: v47 :: v48 :: v49 :: v50 :: v51 :: v52 :: v53 :: v54 :: v55 :: v56 :: v57 :: v58 :: v59 :: v60 :: v61 :: v62 :: v63 :: v64 :: v65 :: v66 :: v67 :: v68 :: v69 :: v70 :: v71 :: v72 :: v73 :: v74 :: v75 :: v76 :: v77 :: v78 :: v79 :: v80 :: v81 :: v82 :: v83 :: v84 :: v85 :: v86 :: v87 :: v88 :: v89 :: v90 :: v91 :: v92 :: v93 :: v94 :: v95 :: v96 :: v97 :: v98 :: v99 :: v100 :: v101 :: v102 :: v103 :: v104 :: v105 :: v106 :: v107 :: v108 :: v109 :: v110 :: v111 :: v112 :: v113 :: v114 :: v115 :: v116 :: v117 :: v118 :: v119 :: v120 :: v121 :: v122 :: v123 :: v124 :: v125 :: v126 :: v127 :: v128 :: v129 :: v130 :: v131 :: v132 :: v133 :: v134 :: v135 :: v136 :: v137 :: v138 :: v139 :: v140 :: v141 :: v142 :: v143 :: v144 :: v145 :: v146 :: v147 :: v148 :: v149 :: v150 :: v151 :: v152 :: v153 :: v154 :: v155 :: v156 :: v157 :: v158 :: v159 :: v160 :: v161 :: v162 :: v163 :: v164 :: v165 :: v166 :: v167 :: v168 :: v169 :: v170 :: v171 :: v172 :: v173 :: v174 :: v175 :: v176 :: v177 :: v178 :: v179 :: v180 :: v181 :: v182 :: v183 :: v184 :: v185 :: v186 :: v187 :: v188 :: v189 :: v190 :: v191 :: v192 :: v193 :: v194 :: v195 :: v196 :: v197 :: v198 :: v199 :: v200 :: v201 :: v202 :: v203 :: v204 :: v205 :: v206 :: v207 :: v208 :: v209 :: v210 :: v211 :: v212 :: v213 :: v214 :: v215 :: v216 :: v217 :: v218 :: v219 :: v220 :: v221 :: v222 :: v223 :: v224 :: v225 :: v226 :: v227 :: v228 :: v229 :: v230 :: v231 :: v232 :: v233 :: v234 :: v235 :: v236 :: v237 :: v238 :: v239 :: v240 :: v241 :: v242 :: v243 :: v244 :: v245 :: v246 :: v247 :: v248 :: v249 :: v250 :: v251 :: v252 :: v253 :: v254 :: v255 :: v256 :: v257 :: v258 :: v259 :: v260 :: v261 :: v262 :: v263 :: v264 :: v265 :: v266 :: v267 :: v268 :: v269 :: v270 :: v271 :: v272 :: v273 :: v274 :: v275 :: v276 :: v277 :: v278 :: v279 :: v280 :: v281 :: v282 :: v283 :: v284 :: v285 :: v286 :: v287 :: v288 :: v289 :: v290 :: v291 :: v292 :: v293 :: v294 :: v295 :: v296 :: v297 :: v298 :: v299 :: v300 :: v301 :: v302 :: v303 :: v304 :: v305 :: v306 :: v307 :: v308 :: v309 :: v310 :: v311 :: v312 :: v313 :: v314 :: v315 :: v316 :: v317 :: v318 :: v319 :: v320 :: v321 :: v322 :: v323 :: v324 :: v325 :: v326 :: v327 :: v328 :: v329 :: v330 :: v331 :: v332 :: v333 :: v334 :: v335 :: v336 :: v337 :: v338 :: x339 :: x340 :: x341 :: x342 :: x343 :: x344 :: x345 :: x346 :: x347 :: x348 :: x349 :: x350 :: x351 :: x352 :: x353 :: x354 :: x355 :: x356 :: x357 :: x358 :: x359 :: x360 :: x361 :: x362 :: x363 :: x364 :: x365 :: x366 :: x367 :: v368 :: v369 :: v370 :: v371 :: v372 :: v373 :: v374 :: v375 :: v376 :: v377 :: v378 :: v379 :: v380 :: v381 :: v382 :: v383 :: v384 :: v385 :: v386 :: v387 :: v388 :: v389 :: v390 :: v391 :: v392 :: v393 :: v394 :: v395 :: v396 :: v397 :: v398 :: v399 :: v400 :: v401 :: v402 :: v403 :: v404 :: v405 :: v406 :: v407 :: v408 :: v409 :: v410 :: v411 :: v412 :: v413 :: v414 :: v415 :: v416 :: v417 :: v418 :: v419 :: v420 :: v421 :: v422 :: v423 :: v424 :: v425 :: v426 :: v427 :: v428 :: v429 :: v430 :: v431 :: v432 :: v433 :: v434 :: []), defers := [] } wx) :
  Code.wp Try.prog ((blkOf 18 (Try.f35.body.getD .skip)).getD .skip) (Exit.then K (bodyPost Try.prog Try.f35 RE)) { tmps := List.toArray (v0 :: v1 :: v2 :: v3 :: v4 :: v5 :: (.pointer (some ⟨M, 0, none⟩) : Value) :: v7 :: v8 :: v9 :: v10 :: v11 :: v12 :: v13 :: v14 :: v15 :: v16 :: v17 :: v18 :: v19 :: v20 :: v21 :: (.int .i64 nx : Value) :: (.int .i64 3 : Value) :: v24 :: v25 :: v26 :: v27 :: v28 :: v29 :: v30 :: v31 :: v32 :: v33 :: v34 :: v35 :: v36 :: v37 :: v38 :: v39 :: v40 :: v41 :: v42 :: v43 :: v44 :: v45 :: v46 :: v47 :: v48 :: v49 :: v50 :: v51 :: v52 :: v53 :: v54 :: v55 :: v56 :: v57 :: v58 :: v59 :: v60 :: v61 :: v62 :: v63 :: v64 :: v65 :: v66 :: v67 :: v68 :: v69 :: v70 :: v71 :: v72 :: v73 :: v74 :: v75 :: v76 :: v77 :: v78 :: v79 :: v80 :: v81 :: v82 :: v83 :: v84 :: v85 :: v86 :: v87 :: v88 :: v89 :: v90 :: v91 :: v92 :: v93 :: v94 :: v95 :: v96 :: v97 :: v98 :: v99 :: v100 :: v101 :: v102 :: v103 :: v104 :: v105 :: v106 :: v107 :: v108 :: v109 :: v110 :: v111 :: v112 :: v113 :: v114 :: v115 :: v116 :: v117 :: v118 :: v119 :: v120 :: v121 :: v122 :: v123 :: v124 :: v125 :: v126 :: v127 :: v128 :: v129 :: v130 :: v131 :: v132 :: v133 :: v134 :: v135 :: v136 :: v137 :: v138 :: v139 :: v140 :: v141 :: v142 :: v143 :: v144 :: v145 :: v146 :: v147 :: v148 :: v149 :: v150 :: v151 :: v152 :: v153 :: v154 :: v155 :: v156 :: v157 :: v158 :: v159 :: v160 :: v161 :: v162 :: v163 :: v164 :: v165 :: v166 :: v167 :: v168 :: v169 :: v170 :: v171 :: v172 :: v173 :: v174 :: v175 :: v176 :: v177 :: v178 :: v179 :: v180 :: v181 :: v182 :: v183 :: v184 :: v185 :: v186 :: v187 :: v188 :: v189 :: v190 :: v191 :: v192 :: v193 :: v194 :: v195 :: v196 :: v197 :: v198 :: v199 :: v200 :: v201 :: v202 :: v203 :: v204 :: v205 :: v206 :: v207 :: v208 :: v209 :: v210 :: v211 :: v212 :: v213 :: v214 :: v215 :: v216 :: v217 :: v218 :: v219 :: v220 :: v221 :: v222 :: v223 :: v224 :: v225 :: v226 :: v227 :: v228 :: v229 :: v230 :: v231 :: v232 :: v233 :: v234 :: v235 :: v236 :: v237 :: v238 :: v239 :: v240 :: v241 :: v242 :: v243 :: v244 :: v245 :: v246 :: v247 :: v248 :: v249 :: v250 :: v251 :: v252 :: v253 :: v254 :: v255 :: v256 :: v257 :: v258 :: v259 :: v260 :: v261 :: v262 :: v263 :: v264 :: v265 :: v266 :: v267 :: v268 :: v269 :: v270 :: v271 :: v272 :: v273 :: v274 :: v275 :: v276 :: v277 :: v278 :: v279 :: v280 :: v281 :: v282 :: v283 :: v284 :: v285 :: v286 :: v287 :: v288 :: v289 :: v290 :: v291 :: v292 :: v293 :: v294 :: v295 :: v296 :: v297 :: v298 :: v299 :: v300 :: v301 :: v302 :: v303 :: v304 :: v305 :: v306 :: v307 :: v308 :: v309 :: v310 :: v311 :: v312 :: v313 :: v314 :: v315 :: v316 :: v317 :: v318 :: v319 :: v320 :: v321 :: v322 :: v323 :: v324 :: v325 :: v326 :: v327 :: v328 :: v329 :: v330 :: v331 :: v332 :: v333 :: v334 :: v335 :: v336 :: v337 :: v338 :: v339 :: v340 :: v341 :: v342 :: v343 :: v344 :: v345 :: v346 :: v347 :: v348 :: v349 :: v350 :: v351 :: v352 :: v353 :: v354 :: v355 :: v356 :: v357 :: v358 :: v359 :: v360 :: v361 :: v362 :: v363 :: v364 :: v365 :: v366 :: v367 :: v368 :: v369 :: v370 :: v371 :: v372 :: v373 :: v374 :: v375 :: v376 :: v377 :: v378 :: v379 :: v380 :: v381 :: v382 :: v383 :: v384 :: v385 :: v386 :: v387 :: v388 :: v389 :: v390 :: v391 :: v392 :: v393 :: v394 :: v395 :: v396 :: v397 :: v398 :: v399 :: v400 :: v401 :: v402 :: v403 :: v404 :: v405 :: v406 :: v407 :: v408 :: v409 :: v410 :: v411 :: v412 :: v413 :: v414 :: v415 :: v416 :: v417 :: v418 :: v419 :: v420 :: v421 :: v422 :: v423 :: v424 :: v425 :: v426 :: v427 :: v428 :: v429 :: v430 :: v431 :: v432 :: v433 :: v434 :: []), defers := [] } W0 := by
 conv => arg 2; whnf
 have hSt : ∀ i, numTo m nx (i + 1) = numSt (3 + i) (numTo m nx i) := fun i => rfl
 have hS0 : numTo m nx 0 = (m, nx) := rfl
 have hNN := numTo_len m nx
 generalize numTo m nx = dt0 at *
 generalize hTL : m.toks.length = tl at *
 generalize m.given = gvn at *
 have HSt := Lib.hid hSt
 have HS0 := Lib.hid hS0
 have HNN := Lib.hid hNN
 have HI0 := Lib.hid h0
 have HKK := Lib.hid hK
 have HGL := Lib.hid hgl
 clear hSt hS0 h0 hK hNN hTL hgl
 go_cut [] from 339 to 367 (fun wx => OfG w0 wx M (dt0 (tl - 3)).1 ns)
 case rest =>
  exact HKK.out u22 u23 u339 u340 u341 u342 u343 u344 u345 u346 u347 u348 u349 u350 u351 u352 u353 u354 u355 u356 u357 u358 u359 u360 u361 u362 u363 u364 u365 u366 u367 _ hcut
 case first =>
  clear HKK
  go_wp2_with fail
  go_loopw [22, 23] (fun x22 x23 W => ∃ k : Nat, 3 + k ≤ tl ∧ x23 = .int .i64 (3 + k) ∧ x22 = .int .i64 (dt0 k).2 ∧ Hid (OfG w0 W M (dt0 k).1 ns)) (fun _ x23 _ => tl - (intOf x23).toNat)
  case atStart => exact ⟨0, by omega, rfl, by rw [HS0.out], by rw [HS0.out]; exact HI0⟩
  case round =>
   clear HI0
   obtain ⟨k, hk, rfl, rfl, HI⟩ := hrel
   rename World => W
   obtain ⟨n1, n2, n3, n4⟩ := HNN.out k
   have hs := HSt.out k
   generalize hsk : dt0 k = sk at *
   have HSK := Lib.hid hsk
   clear hsk
   obtain ⟨mk, nk⟩ := sk
   simp only at n1 n2 n3 n4 HI
   obtain ⟨tv, nv, pv, gv, yv, lv, r1, r2, r3, r4, r5⟩ := HI.out.read
   obtain ⟨ga, gn, gc, e0, hgn, hgc, hgm, hgx⟩ := r2.open
   subst e0
   have x5 := r5 5
   simp only [gCells, List.getElem?_cons_succ, List.getElem?_cons_zero] at x5
   have hgn2 := hgn.out
   rw [n2, HGL.out] at hgn2
   by_cases hlt : 3 + k < tl
   · obtain ⟨g, c, x0, hc1, hc2, y0, f0, hset⟩ := HI.out.setNum (t := 3 + k) (by rw [n1]; exact hlt)
     obtain ⟨b, o, e2, z0⟩ := hgx.out (3 + k) (by omega)
     subst e2
     have i1 : (3 : Int) + (k : Int) < (tl : Int) := by omega
     have i2 : (3 : Int) + (k : Int) < (gn : Int) := by omega
     rw [n1] at x0 hc1
     have hns : numSt (3 + k) (mk, nk) = (if mk.given.getD (3 + k) false = true then (mk, nk) else (mk.setTok (3 + k) (fun q => { q with num := nk }), nk + 1)) := rfl
     rw [hns] at hs
     generalize hgb : mk.given.getD (3 + k) false = gb at *
     have HS := Lib.hid hs
     have HSET := Lib.hid (hset nk)
     have HN1 := Lib.hid (And.intro n1 n2)
     clear hs hns hset r1 r2 r3 r4 r5 hgx hgn hgn2 n1 n2 hgb
     cases gb with
     | true =>
       go_wp2_with fail
       go_round
       case rel => exact ⟨k + 1, by omega, by go_num, by rw [HS.out, if_pos rfl], by rw [HS.out, if_pos rfl]; exact HI⟩
       case measure => simp [intOf]; omega
     | false =>
       go_wp2_with fail
       go_round
       case rel => exact ⟨k + 1, by omega, by go_num, by rw [HS.out, if_neg (by decide)], by rw [HS.out, if_neg (by decide)]; exact HSET⟩
       case measure => simp [intOf]; omega
   · have i1 : ¬ (3 : Int) + (k : Int) < (tl : Int) := by omega
     have hkr : tl - 3 = k := by omega
     obtain ⟨ta, tn, tc, e1, htn, htc, htm, htx⟩ := r1.open
     subst e1
     have x0 := r5 0
     simp only [gCells, List.getElem?_cons_succ, List.getElem?_cons_zero] at x0
     have htn2 := htn.out
     rw [n1] at htn2
     have i3 : ¬ (3 : Int) + (k : Int) < (tn : Int) := by omega
     have HKR := Lib.hid hkr
     have HS := Lib.hid hs
     clear hkr htn htn2 htx hgx hgn hgn2 n1 n2 r1 r2 r3 r4 r5 hs
     go_wp2_with fail
     go_meet
     case rel => rw [HKR.out, HSK.out]; exact HI.out
end Go.Proofs.Ytkgbifbbpmdpgaa
