/- Of: is a Right too long? -/
import Derived.Test.YtkgbifbbpmdpgaaNOf15
set_option linter.unusedVariables false
set_option linter.unusedSimpArgs false
namespace Go.Proofs.Ytkgbifbbpmdpgaa
section
open Go.RowKit
def longTo (m : Mk) (b : Bool) : Nat → Bool
 | 0 => b
 | i + 1 => longTo m b i || decide (8 < ((m.prods.getD i noPd).right.length : Int))
theorem OfG.prods {w0 w : World} {M : Nat} {m : Mk} {ns : List Nn} (h : OfG w0 w M m ns) : ∃ va c, w.cell? ⟨M, 2, none⟩ = some (.slice va m.prods.length c) ∧ m.prods.length ≤ c ∧ c ≤ 9223372036854775807 ∧ ∀ i, i < m.prods.length → ∃ g ra rc, va = some ⟨g, 0, none⟩ ∧ w.cell? ⟨g, i * 6 + 1, none⟩ = some (.slice ra (m.prods.getD i noPd).right.length rc) ∧ (m.prods.getD i noPd).right.length ≤ rc ∧ rc ≤ 9223372036854775807 := by
 obtain ⟨F, S, h1, h2⟩ := h
 obtain ⟨tv, nv, pv, gv, yv, lv, ys, hFi, hO⟩ := h1.is
 have ho := hO.1.own ⟨87, 6, pv, m.prods.length, ys⟩ (by simp [gRows, mkRows])
 have hf := hO.2.self
 have x2 := hO.1.cell 2
 simp only [gCells, List.getElem?_cons_succ, List.getElem?_cons_zero] at x2
 simp only at ho
 rcases ho.2 with ⟨e, e2⟩ | ⟨g, cap, cur, e, hg1, hg2, hg3, hg4, hg5, hg6⟩
 · subst e
   rw [e2]
   exact ⟨none, 0, x2, Nat.le_refl _, by omega, fun i hi => absurd hi (Nat.not_lt_zero _)⟩
 · subst e
   refine ⟨_, cap, x2, hg3, by unfold maxLen at hg4; omega, fun i hi => ?_⟩
   have hp : m.prods[i]? = some (m.prods.getD i noPd) := by rw [List.getD_eq_getElem?_getD, List.getElem?_eq_getElem hi]; rfl
   obtain ⟨rv, av, e1, q1, q2⟩ := hf i _ hp
   obtain ⟨ra, rn, rc, e3, hrn, hr1, hr2, _⟩ := q1.open
   have hc := ho.cellAt (i * 6 + 1) (by omega)
   have hy := getElem?_flat (xs := ys) (size := 6) i 1 (by omega)
   rw [e1] at hy
   rw [← hy] at hc
   subst e3
   have hrn2 := hrn.out
   subst hrn2
   exact ⟨g, ra, rc, rfl, hc, hr1, hr2⟩
set_option maxRecDepth 100000 in
set_option maxHeartbeats 40000000 in
theorem of_long {w0 W0 : World} {M : Nat} {m : Mk} {ns : List Nn} {b0 : Bool}
  {v0 v1 v2 v3 v4 v5 v7 v8 v9 v10 v11 v12 v13 v14 v15 v16 v17 v18 v19 v20 v21 v22 v23 v26 v27 v28 v29 v30 v31 v32 v33 v34 v35 v36 v37 v38 v39 v40 v41 v42 v43 v44 v45 v46 v47 v48 v49 v50 v51 v52 v53 v54 v55 v56 v57 v58 v59 v60 v61 v62 v63 v64 v65 v66 v67 v68 v69 v70 v71 v72 v73 v74 v75 v76 v77 v78 v79 v80 v81 v82 v83 v84 v85 v86 v87 v88 v89 v90 v91 v92 v93 v94 v95 v96 v97 v98 v99 v100 v101 v102 v103 v104 v105 v106 v107 v108 v109 v110 v111 v112 v113 v114 v115 v116 v117 v118 v119 v120 v121 v122 v123 v124 v125 v126 v127 v128 v129 v130 v131 v132 v133 v134 v135 v136 v137 v138 v139 v140 v141 v142 v143 v144 v145 v146 v147 v148 v149 v150 v151 v152 v153 v154 v155 v156 v157 v158 v159 v160 v161 v162 v163 v164 v165 v166 v167 v168 v169 v170 v171 v172 v173 v174 v175 v176 v177 v178 v179 v180 v181 v182 v183 v184 v185 v186 v187 v188 v189 v190 v191 v192 v193 v194 v195 v196 v197 v198 v199 v200 v201 v202 v203 v204 v205 v206 v207 v208 v209 v210 v211 v212 v213 v214 v215 v216 v217 v218 v219 v220 v221 v222 v223 v224 v225 v226 v227 v228 v229 v230 v231 v232 v233 v234 v235 v236 v237 v238 v239 v240 v241 v242 v243 v244 v245 v246 v247 v248 v249 v250 v251 v252 v253 v254 v255 v256 v257 v258 v259 v260 v261 v262 v263 v264 v265 v266 v267 v268 v269 v270 v271 v272 v273 v274 v275 v276 v277 v278 v279 v280 v281 v282 v283 v284 v285 v286 v287 v288 v289 v290 v291 v292 v293 v294 v295 v296 v297 v298 v299 v300 v301 v302 v303 v304 v305 v306 v307 v308 v309 v310 v311 v312 v313 v314 v315 v316 v317 v318 v319 v320 v321 v322 v323 v324 v325 v326 v327 v328 v329 v330 v331 v332 v333 v334 v335 v336 v337 v338 v339 v340 v341 v342 v343 v344 v345 v346 v347 v348 v349 v350 v351 v352 v353 v354 v355 v356 v357 v358 v359 v360 v361 v362 v363 v364 v365 v366 v367 v368 v369 v370 v371 v372 v373 v374 v375 v376 v377 v378 v379 v380 v381 v382 v383 v384 v385 v386 v387 v388 v389 v390 v391 v392 v393 v394 v395 v396 v397 v398 v399 v400 v401 v402 v403 v404 v405 v406 v407 v408 v409 v410 v411 v412 v413 v414 v415 v416 v417 v418 v419 v420 v421 v422 v423 v424 v425 v426 v427 v428 v429 v430 v431 v432 v433 v434 : Value} {K : Act → World → Prop} {RE : Ending → World → Prop}
  (h0 : OfG w0 W0 M m ns) (hpl : m.prods.length ≤ 1000000)
  (hK : ∀ (x25 x393 x394 x395 x396 x397 x398 x399 x400 x401 x402 x403 x404 x405 x406 x407 x408 x409 x410 x411 x412 x413 x414 x415 x416 : Value), K { tmps := List.toArray (v0 :: v1 :: v2 :: v3 :: v4 :: v5 :: (.pointer (some ⟨M, 0, none⟩) : Value) :: v7 :: v8 :: v9 :: v10 :: v11 :: v12 :: v13 :: v14 :: v15 :: v16 :: v17 :: v18 :: v19 :: v20 :: v21 :: v22 :: v23 :: (.bool (longTo m b0 m.prods.length) : Value) :: x25 :: v26 :: v27 :: v28 :: v29 :: v30 :: v31 :: v32 :: v33 :: v34 :: v35 :: v36 :: v37 :: v38 :: v39 :: v40 :: v41 :: v42 :: v43 :: v44 :: v45 :: v46 :: v47 :: v48 :: v49 :: v50 :: v51 :: v52 :: v53 :: v54 :: v55 :: v56 :: v57 :: v58 :: v59 :: v60 :: v61 :: v62 :: v63 :: v64 :: v65 :: v66 :: v67 :: v68 :: v69 :: v70 :: v71 :: v72 :: v73 :: v74 :: v75 :: v76 :: v77 :: v78 :: v79 :: v80 :: v81 :: v82 :: v83 :: v84 :: v85 :: v86 :: v87 :: v88 :: v89 :: v90 :: v91 :: v92 :: v93 :: v94 :: v95 :: v96 :: v97 :: v98 :: v99 :: v100 :: v101 :: v102 :: v103 :: v104 :: v105 :: v106 :: v107 :: v108 :: v109 :: v110 :: v111 :: v112 :: v113 :: v114 :: v115 :: v116 :: v117 :: v118 :: v119 :: v120 :: v121 :: v122 :: v123 :: v124 :: v125 :: v126 :: v127 :: v128 :: v129 :: v130 :: v131 :: v132 :: v133 :: v134 :: v135 :: v136 :: v137 :: v138 :: v139 :: v140 :: v141 :: v142 :: v143 :: v144 :: v145 :: v146 :: v147 :: v148 :: v149 :: v150 :: v151 :: v152 :: v153 :: v154 :: v155 :: v156 :: v157 :: v158 :: v159 :: v160 :: v161 :: v162 :: v163 :: v164 :: v165 :: v166 :: v167 :: v168 :: v169 :: v170 :: v171 :: v172 :: v173 :: v174 :: v175 :: v176 :: v177 :: v178 :: v179 :: v180 :: v181 :: v182 :: v183 :: v184 :: v185 :: v186 :: v187 :: v188 :: v189 :: v190 :: v191 :: v192 :: v193 :: v194 :: v195 :: v196 :: v197 :: v198 :: v199 :: v200 :: v201 :: v202 :: v203 :: v204 :: v205 :: v206 :: v207 :: v208 :: v209 :: v210 :: v211 :: v212 :: v213 :: v214 :: v215 :: v216 :: v217 :: v218 :: v219 :: v220 :: v221 :: v222 :: v223 :: v224 :: v225 :: v226 :: v227 :: v228 :: v229 :: v230 :: v231 :: v232 :: v233 :: v234 :: v235 :: v236 :: v237 :: v238 :: v239 :: v240 :: v241 :: v242 :: v243 :: v244 :: v245 :: v246 :: v247 :: v248 :: v249 :: v250 :: v251 :: v252 :: v253 :: v254 :: v255 :: v256 :: v257 :: v258 :: v259 :: v260 :: v261 :: v262 :: v263 :: v264 :: v265 :: v266 :: v267 :: v268 :: v269 :: v270 :: v271 :: v272 :: v273 :: v274 :: v275 :: v276 :: v277 :: v278 :: v279 :: v280 :: v281 :: v282 :: v283 :: v284 :: v285 :: v286 :: v287 :: v288 :: v289 :: v290 :: v291 :: v292 :: v293 :: v294 :: v295 :: v296 :: v297 :: v298 :: v299 :: v300 :: v301 :: v302 :: v303 :: v304 :: v305 :: v306 :: v307 :: v308 :: v309 :: v310 :: v311 :: v312 :: v313 :: v314 :: v315 :: v316 :: v317 :: v318 :: v319 :: v320 :: v321 :: v322 :: v323 :: v324 :: v325 :: v326 :: v327 :: v328 :: v329 :: v330 :: v331 :: v332 :: v333 :: v334 :: v335 :: v336 :: v337 :: v338 :: v339 :: v340 :: v341 :: v342 :: v343 :: v344 :: v345 :: v346 :: v347 :: v348 :: v349 :: v350 :: v351 :: v352 :: v353 :: v354 :: v355 :: v356 :: v357 :: v358 :: v359 :: v360 :: v361 :: v362 :: v363 :: v364 :: v365 :: v366 :: v367 :: v368 :: v369 :: v370 :: v371 :: v372 :: v373 :: v374 :: v375 :: v376 :: v377 :: v378 :: v379 :: v380 :: v381 :: v382 :: v383 :: v384 :: v385 :: v386 :: v387 :: v388 :: v389 :: v390 :: v391 :: v392 :: x393 :: x394 :: x395 :: x396 :: x397 :: x398 :: x399 :: x400 :: x401 :: x402 :: x403 :: x404 :: x405 :: x406 :: x407 :: x408 :: x409 :: x410 :: x411 :: x412 :: x413 :: x414 :: x415 :: x416 :: v417 :: v418 :: v419 :: v420 :: v421 :: v422 :: v423 :: v424 :: v425 :: v426 :: v427 :: v428 :: v429 :: v430 :: v431 :: v432 :: v433 :: v434 :: []), defers := [] } W0) :
  Code.wp Try.prog ((blkOf 20 (Try.f35.body.getD .skip)).getD .skip) (Exit.then K (bodyPost Try.prog Try.f35 RE)) { tmps := List.toArray (v0 :: v1 :: v2 :: v3 :: v4 :: v5 :: (.pointer (some ⟨M, 0, none⟩) : Value) :: v7 :: v8 :: v9 :: v10 :: v11 :: v12 :: v13 :: v14 :: v15 :: v16 :: v17 :: v18 :: v19 :: v20 :: v21 :: v22 :: v23 :: (.bool b0 : Value) :: (.int .i64 0 : Value) :: v26 :: v27 :: v28 :: v29 :: v30 :: v31 :: v32 :: v33 :: v34 :: v35 :: v36 :: v37 :: v38 :: v39 :: v40 :: v41 :: v42 :: v43 :: v44 :: v45 :: v46 :: v47 :: v48 :: v49 :: v50 :: v51 :: v52 :: v53 :: v54 :: v55 :: v56 :: v57 :: v58 :: v59 :: v60 :: v61 :: v62 :: v63 :: v64 :: v65 :: v66 :: v67 :: v68 :: v69 :: v70 :: v71 :: v72 :: v73 :: v74 :: v75 :: v76 :: v77 :: v78 :: v79 :: v80 :: v81 :: v82 :: v83 :: v84 :: v85 :: v86 :: v87 :: v88 :: v89 :: v90 :: v91 :: v92 :: v93 :: v94 :: v95 :: v96 :: v97 :: v98 :: v99 :: v100 :: v101 :: v102 :: v103 :: v104 :: v105 :: v106 :: v107 :: v108 :: v109 :: v110 :: v111 :: v112 :: v113 :: v114 :: v115 :: v116 :: v117 :: v118 :: v119 :: v120 :: v121 :: v122 :: v123 :: v124 :: v125 :: v126 :: v127 :: v128 :: v129 :: v130 :: v131 :: v132 :: v133 :: v134 :: v135 :: v136 :: v137 :: v138 :: v139 :: v140 :: v141 :: v142 :: v143 :: v144 :: v145 :: v146 :: v147 :: v148 :: v149 :: v150 :: v151 :: v152 :: v153 :: v154 :: v155 :: v156 :: v157 :: v158 :: v159 :: v160 :: v161 :: v162 :: v163 :: v164 :: v165 :: v166 :: v167 :: v168 :: v169 :: v170 :: v171 :: v172 :: v173 :: v174 :: v175 :: v176 :: v177 :: v178 :: v179 :: v180 :: v181 :: v182 :: v183 :: v184 :: v185 :: v186 :: v187 :: v188 :: v189 :: v190 :: v191 :: v192 :: v193 :: v194 :: v195 :: v196 :: v197 :: v198 :: v199 :: v200 :: v201 :: v202 :: v203 :: v204 :: v205 :: v206 :: v207 :: v208 :: v209 :: v210 :: v211 :: v212 :: v213 :: v214 :: v215 :: v216 :: v217 :: v218 :: v219 :: v220 :: v221 :: v222 :: v223 :: v224 :: v225 :: v226 :: v227 :: v228 :: v229 :: v230 :: v231 :: v232 :: v233 :: v234 :: v235 :: v236 :: v237 :: v238 :: v239 :: v240 :: v241 :: v242 :: v243 :: v244 :: v245 :: v246 :: v247 :: v248 :: v249 :: v250 :: v251 :: v252 :: v253 :: v254 :: v255 :: v256 :: v257 :: v258 :: v259 :: v260 :: v261 :: v262 :: v263 :: v264 :: v265 :: v266 :: v267 :: v268 :: v269 :: v270 :: v271 :: v272 :: v273 :: v274 :: v275 :: v276 :: v277 :: v278 :: v279 :: v280 :: v281 :: v282 :: v283 :: v284 :: v285 :: v286 :: v287 :: v288 :: v289 :: v290 :: v291 :: v292 :: v293 :: v294 :: v295 :: v296 :: v297 :: v298 :: v299 :: v300 :: v301 :: v302 :: v303 :: v304 :: v305 :: v306 :: v307 :: v308 :: v309 :: v310 :: v311 :: v312 :: v313 :: v314 :: v315 :: v316 :: v317 :: v318 :: v319 :: v320 :: v321 :: v322 :: v323 :: v324 :: v325 :: v326 :: v327 :: v328 :: v329 :: v330 :: v331 :: v332 :: v333 :: v334 :: v335 :: v336 :: v337 :: v338 :: v339 :: v340 :: v341 :: v342 :: v343 :: v344 :: v345 :: v346 :: v347 :: v348 :: v349 :: v350 :: v351 :: v352 :: v353 :: v354 :: v355 :: v356 :: v357 :: v358 :: v359 :: v360 :: v361 :: v362 :: v363 :: v364 :: v365 :: v366 :: v367 :: v368 :: v369 :: v370 :: v371 :: v372 :: v373 :: v374 :: v375 :: v376 :: v377 :: v378 :: v379 :: v380 :: v381 :: v382 :: v383 :: v384 :: v385 :: v386 :: v387 :: v388 :: v389 :: v390 :: v391 :: v392 :: v393 :: v394 :: v395 :: v396 :: v397 :: v398 :: v399 :: v400 :: v401 :: v402 :: v403 :: v404 :: v405 :: v406 :: v407 :: v408 :: v409 :: v410 :: v411 :: v412 :: v413 :: v414 :: v415 :: v416 :: v417 :: v418 :: v419 :: v420 :: v421 :: v422 :: v423 :: v424 :: v425 :: v426 :: v427 :: v428 :: v429 :: v430 :: v431 :: v432 :: v433 :: v434 :: []), defers := [] } W0 := by
 conv => arg 2; whnf
 obtain ⟨va, vc, x2, hc1, hc2, hx⟩ := h0.prods
 have hSt : ∀ i, longTo m b0 (i + 1) = (longTo m b0 i || decide (8 < ((m.prods.getD i noPd).right.length : Int))) := fun i => rfl
 have hS0 : longTo m b0 0 = b0 := rfl
 generalize longTo m b0 = dt0 at *
 have HSt := Lib.hid hSt
 have HS0 := Lib.hid hS0
 have HKK := Lib.hid hK
 have HX := Lib.hid hx
 clear hSt hS0 hK hx h0
 generalize m.prods.length = np at *
 go_cut [24] from 393 to 416 (fun (x24 : Value) wx => x24 = .bool (dt0 np) ∧ wx = W0)
 case rest =>
  obtain ⟨rfl, rfl⟩ := hcut
  exact HKK.out u25 u393 u394 u395 u396 u397 u398 u399 u400 u401 u402 u403 u404 u405 u406 u407 u408 u409 u410 u411 u412 u413 u414 u415 u416
 case first =>
  clear HKK
  go_wp2_with fail
  go_loop [24, 25] (fun x24 x25 => ∃ k : Nat, k ≤ np ∧ x25 = .int .i64 k ∧ x24 = .bool (dt0 k)) (fun _ x25 => np - (intOf x25).toNat)
  case atStart => exact ⟨0, Nat.zero_le _, rfl, by rw [HS0.out]⟩
  case round =>
   obtain ⟨k, hk, rfl, rfl⟩ := hrel
   by_cases hlt : k < np
   · obtain ⟨g, ra, rc, e2, y0, hr1, hr2⟩ := HX.out k hlt
     subst e2
     have i1 : (k : Int) < (np : Int) := by omega
     have hs := HSt.out k
     generalize (m.prods.getD k noPd).right.length = rl at *
     generalize hdk : dt0 k = bk at *
     have HS := Lib.hid hs
     have HDK := Lib.hid hdk
     clear hs hdk
     cases bk with
     | true =>
       go_wp2_with fail
       go_round
       case rel => exact ⟨k + 1, by omega, by go_num, by rw [HS.out, Bool.true_or]⟩
       case measure => simp [intOf]; omega
     | false =>
       by_cases h8 : (8 : Int) < (rl : Int)
       · go_wp2_with fail
         go_round
         case rel => exact ⟨k + 1, by omega, by go_num, by rw [HS.out, decide_eq_true h8]; rfl⟩
         case measure => simp [intOf]; omega
       · go_wp2_with fail
         go_round
         case rel => exact ⟨k + 1, by omega, by go_num, by rw [HS.out, decide_eq_false (by omega)]; rfl⟩
         case measure => simp [intOf]; omega
   · have i1 : ¬ (k : Int) < (np : Int) := by omega
     obtain rfl : k = np := by omega
     go_wp2_with fail
     go_meet
     case rel => exact ⟨rfl, rfl⟩
end
section
open Go.RowKit
def digF : Nat → Nat → ByteArray → ByteArray
 | 0, _, s => s
 | f + 1, u, s => if u = 0 then s else digF f (u / 10) (bytesOf [48 + (u : Int) % 10] ++ s)
def digS (n : Nat) : ByteArray := digF n n ⟨#[]⟩
theorem digF_zero (f : Nat) (s : ByteArray) : digF f 0 s = s := by cases f <;> rfl
theorem digF_step (f u : Nat) (s : ByteArray) (h : 1 ≤ u) (hf : u ≤ f) : ∃ f', digF f u s = digF f' (u / 10) (bytesOf [48 + (u : Int) % 10] ++ s) ∧ u / 10 ≤ f' := by
 cases f with
 | zero => omega
 | succ f => exact ⟨f, by show (if u = 0 then s else _) = _; rw [if_neg (by omega)], by omega⟩
theorem one_byte (x : Int) (s : ByteArray) : (bytesOf [x] ++ s).size = s.size + 1 := by
 rw [ByteArray.size_append]
 have : (bytesOf [x]).size = 1 := rfl
 omega
set_option maxRecDepth 100000 in
set_option maxHeartbeats 4000000 in
theorem digits_any (n : Nat) (hn : 1 ≤ n ∧ n ≤ 1000000) (w : World) : Calls Try.prog 28 #[.int .i64 n] w (fun e w' => e = .returned (.string (digS n)) ∧ Below w.heap.size w w') := by
 have hc1 : ∀ (x : Int) (w : World), (convert 94 9 (.slice (some ⟨w.heap.size,0,none⟩) 1 1)).run Try.prog (w.alloc (.cells #[.int .u8 x] 5)) = .ok (.string (bytesOf [x])) (w.alloc (.cells #[.int .u8 x] 5)) :=
  fun x w => run_conv_new w _ _ _ [x] 1 Try.underlying94 Try.underlying5 Try.underlying9
 have HR : Hid (digS n = digF n n ⟨#[]⟩) := Lib.hid rfl
 generalize digS n = R at *
 have hu0 : IntKind.u64.wrap (n : Int) = (n : Int) := IntWalk.u64_in _ ⟨by omega, by omega⟩
 go_enter Try.func28, Try.ntmps28
 go_wp2_with fail
 go_loopw [3, 4] (fun x3 x4 W => ∃ (u f : Nat) (s : ByteArray), x3 = .int .u64 u ∧ x4 = .string s ∧ Hid (R = digF f u s) ∧ u ≤ f ∧ s.size + u ≤ n ∧ (1 ≤ u ∨ 1 ≤ s.size) ∧ Below w.heap.size w W) (fun x3 _ _ => (intOf x3).toNat)
 case atStart => exact ⟨n, n, ⟨#[]⟩, rfl, rfl, HR, Nat.le_refl _, by show 0 + n ≤ n; omega, .inl hn.1, Below.refl _ _⟩
 case round =>
  clear HR
  obtain ⟨u, f, s, rfl, rfl, HR, hf, hsz, hnz, hb⟩ := hrel
  rename World => W
  by_cases hu : 1 ≤ u
  · have i1 : (0 : Int) < (u : Int) := by omega
    obtain ⟨f', e1, e2⟩ := digF_step f u s hu hf
    have HR2 : Hid (R = digF f' (u / 10) (bytesOf [48 + (u : Int) % 10] ++ s)) := Lib.hid (HR.out.trans e1)
    have hw1 : IntKind.u64.wrap ((48 : Int) + (u : Int) % 10) = 48 + (u : Int) % 10 := IntWalk.u64_in _ ⟨by omega, by omega⟩
    have hw2 : IntKind.u8.wrap ((48 : Int) + (u : Int) % 10) = 48 + (u : Int) % 10 := IntWalk.u8_in _ ⟨by omega, by omega⟩
    have hcv := hc1 (48 + (u : Int) % 10) W
    have ob := Lib.hid (one_byte (48 + (u : Int) % 10) s)
    have hno : ¬ 9223372036854775807 < (bytesOf [48 + (u : Int) % 10]).size + s.size := by
     have : (bytesOf [48 + (u : Int) % 10]).size = 1 := rfl
     omega
    have HBB := Lib.hid (hb.alloc hb.size (.cells #[.int .u8 (48 + (u : Int) % 10)] 5))
    clear e1 HR
    go_wp2_with fail
    go_round
    case rel => exact ⟨u / 10, f', _, by rw [Int.natCast_ediv]; rfl, rfl, HR2, e2, by rw [ob.out]; omega, .inr (by rw [ob.out]; omega), HBB.out⟩
    case measure => simp [intOf]; omega
  · obtain rfl : u = 0 := by omega
    have hs1 : 1 ≤ s.size := by omega
    have hse : s.toList.isEmpty = false := by rw [Lib.toList_data]; cases h : s.data.toList with | nil => exact absurd (show s.size = 0 by show s.data.size = 0; rw [← Array.length_toList, h]; rfl) (by omega) | cons a b => rfl
    have e := HR.out
    rw [digF_zero] at e
    subst e
    have i1 : ¬ (n : Int) < 0 := by omega
    clear HR
    go_wp2_with fail
    go_ret
    exact ⟨rfl, hb⟩
end
end Go.Proofs.Ytkgbifbbpmdpgaa
