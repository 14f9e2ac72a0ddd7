/- Of: the Nons of the rules. -/
import Derived.Test.YtkgbifbbpmdpgaaNOf13
set_option linter.unusedVariables false
set_option linter.unusedSimpArgs false
namespace Go.Proofs.Ytkgbifbbpmdpgaa

open List renaming getElem_toArray → gA, getElem_cons_succ → gB, getElem_cons_zero → gC, setIfInBounds_toArray → gD, set_cons_zero → gE, set_cons_succ → gF
open Go.RowKit
def OfG (w0 w : World) (M : Nat) (m : Mk) (ns : List Nn) : Prop := ∃ F S, MkG w w0.heap.size M F S m ns ∧ Below w0.heap.size w0 w
def OfGB (w0 w : World) (M : Nat) (m : Mk) (ns : List Nn) (Q : Nat) (o : Obj) : Prop := ∃ F S, MkG w w0.heap.size M F S m ns ∧ Below w0.heap.size w0 w ∧ (¬ F Q ∧ ¬ S Q) ∧ w.heap[Q]? = some o
section
variable {w0 w w' : World} {M Q B : Nat} {F S : Nat → Prop} {m m' : Mk} {o : Obj} {ns : List Nn}
theorem MkG.frame {D : Nat → Prop} (h : MkG w B M F S m ns) (hf : Fr D w w') (hd : ∀ b, D b → ¬ F b ∧ ¬ S b) : MkG w' B M F S m ns := by
 obtain ⟨tv, nv, pv, gv, yv, lv, ys, h1, h2, h3⟩ := h.is
 exact ⟨⟨tv, nv, pv, gv, yv, lv, ys, h1, h2.frame hf (fun b hb hF => (hd b hb).1 ((h1 b).2 hF)), h3.frame hf (fun b hS hb => (hd b hb).2 hS)⟩⟩
theorem OfG.below (h : OfG w0 w M m ns) (hb : Below w.heap.size w w') : OfG w0 w' M m ns := by
 obtain ⟨F, S, h1, h2⟩ := h
 exact ⟨F, S, h1.below hb, h2.trans (hb.mono h2.size)⟩
theorem OfG.box (h : OfG w0 w M m ns) (o : Obj) : OfGB w0 (w.alloc o) M m ns w.heap.size o := by
 obtain ⟨F, S, h1, h2⟩ := h
 have hb := (Below.refl w.heap.size w).alloc (Nat.le_refl _) o
 exact ⟨F, S, h1.below hb, h2.trans (hb.mono h2.size), ⟨fun hF => Nat.lt_irrefl _ (h1.lt _ (.inl hF)).2, fun hF => Nat.lt_irrefl _ (h1.lt _ (.inr hF)).2⟩, heap_alloc_new w o⟩
theorem OfGB.out (h : OfGB w0 w M m ns Q o) : OfG w0 w M m ns := by obtain ⟨F, S, h1, h2, _, _⟩ := h; exact ⟨F, S, h1, h2⟩
theorem OfGB.row (h : OfGB w0 w M m ns Q o) : w.heap[Q]? = some o := by obtain ⟨F, S, h1, h2, _, h3⟩ := h; exact h3
theorem OfGB.below (h : OfGB w0 w M m ns Q o) (hb : Below w.heap.size w w') : OfGB w0 w' M m ns Q o := by
 obtain ⟨F, S, h1, h2, h3, h4⟩ := h
 exact ⟨F, S, h1.below hb, h2.trans (hb.mono h2.size), h3, (hb.block Q (Array.getElem?_eq_some_iff.1 h4).1).trans h4⟩
theorem OfGB.put {cs : Array Value} {T : TypeId} (h : OfGB w0 w M m ns Q (.cells cs T (0, 0))) (hQ : w0.heap.size ≤ Q) (j : Nat) (u : Value) : OfGB w0 (w.setCell ⟨Q, j, none⟩ u) M m ns Q (.cells (cs.setIfInBounds j u) T (0, 0)) := by
 obtain ⟨F, S, h1, h2, h3, h4⟩ := h
 have hf : Fr (fun b => b = Q) w (w.setCell ⟨Q, j, none⟩ u) := Fr.set _ _ _ rfl
 exact ⟨F, S, h1.frame hf (fun b hb => by rw [hb]; exact h3), h2.trans (hf.below (fun b hb => by rw [hb]; exact hQ) h2.size), h3, block_setCell h4⟩
theorem OfG.read (h : OfG w0 w M m ns) : ∃ tv nv pv gv yv lv, TksV w tv m.toks ∧ BlsV w gv m.given ∧ NnsV w yv m.types ∧ StsV w lv m.lefts ∧ (∀ j, w.cell? ⟨M, j, none⟩ = (gCells tv nv pv gv yv lv m)[j]?) := by
 obtain ⟨F, S, h1, h2⟩ := h
 exact h1.read
theorem OfG.typeOf (h : OfG w0 w M m ns) (n : ByteArray) : Calls Try.prog 49 #[.pointer (some ⟨M, 0, none⟩), .string n] w (fun e w' => e = .returned (.int .i64 (m.typeOf n)) ∧ Below w.heap.size w w') := by
 obtain ⟨F, S, h1, h2⟩ := h
 exact typeOf_g h1 n
theorem OfG.size (h : OfG w0 w M m ns) : w0.heap.size ≤ w.heap.size := by obtain ⟨F, S, h1, h2⟩ := h; exact h2.size
end
theorem Mk.typeOf_at (m : Mk) (n : ByteArray) : m.typeOf n = -1 ∨ ∃ k : Nat, m.typeOf n = k ∧ k < m.types.length := by
 unfold Mk.typeOf
 rcases firstN_lt (typP m.types n) m.types.length 0 with e | ⟨k, e, _, h, _⟩
 · exact .inl e
 · exact .inr ⟨k, e, h⟩
def nonTag (m : Mk) (n : ByteArray) : ByteArray := if m.typeOf n < 0 then ⟨#[]⟩ else (m.types.getD (m.typeOf n).toNat noNn).tag
def nsTo (m : Mk) (ns : List Nn) : Nat → List Nn
 | 0 => ns
 | i + 1 => nsTo m ns i ++ [⟨m.lefts.getD i ⟨#[]⟩, nonTag m (m.lefts.getD i ⟨#[]⟩)⟩]
theorem nsTo_len (m : Mk) (ns : List Nn) : ∀ i, (nsTo m ns i).length = ns.length + i
 | 0 => rfl
 | i + 1 => by
   show (nsTo m ns i ++ _).length = _
   rw [List.length_append, nsTo_len m ns i]; simp; omega
theorem Try.infoNonG : (Try.prog.info? 106).map (fun i => (i.zero, i.size, i.bytes)) = some (some (.agg #[.string ByteArray.empty, .string ByteArray.empty]), 2, 32) := by kernel_rfl
set_option maxRecDepth 100000 in
set_option maxHeartbeats 40000000 in
theorem of_nons {w0 W0 : World} {M : Nat} {m : Mk} {ns : List Nn}
  {v0 v1 v2 v3 v4 v5 v7 v8 v9 v10 v11 v12 v13 v14 v15 v16 v17 v19 v20 v21 v22 v23 v24 v25 v26 v27 v28 v29 v30 v31 v32 v33 v34 v35 v36 v37 v38 v39 v40 v41 v42 v43 v44 v45 v46 v47 v48 v49 v50 v51 v52 v53 v54 v55 v56 v57 v58 v59 v60 v61 v62 v63 v64 v65 v66 v67 v68 v69 v70 v71 v72 v73 v74 v75 v76 v77 v78 v79 v80 v81 v82 v83 v84 v85 v86 v87 v88 v89 v90 v91 v92 v93 v94 v95 v96 v97 v98 v99 v100 v101 v102 v103 v104 v105 v106 v107 v108 v109 v110 v111 v112 v113 v114 v115 v116 v117 v118 v119 v120 v121 v122 v123 v124 v125 v126 v127 v128 v129 v130 v131 v132 v133 v134 v135 v136 v137 v138 v139 v140 v141 v142 v143 v144 v145 v146 v147 v148 v149 v150 v151 v152 v153 v154 v155 v156 v157 v158 v159 v160 v161 v162 v163 v164 v165 v166 v167 v168 v169 v170 v171 v172 v173 v174 v175 v176 v177 v178 v179 v180 v181 v182 v183 v184 v185 v186 v187 v188 v189 v190 v191 v192 v193 v194 v195 v196 v197 v198 v199 v200 v201 v202 v203 v204 v205 v206 v207 v208 v209 v210 v211 v212 v213 v214 v215 v216 v217 v218 v219 v220 v221 v222 v223 v224 v225 v226 v227 v228 v229 v230 v231 v232 v233 v234 v235 v236 v237 v238 v239 v240 v241 v242 v243 v244 v245 v246 v247 v248 v249 v250 v251 v252 v253 v254 v255 v256 v257 v258 v259 v260 v261 v262 v263 v264 v265 v266 v267 v268 v269 v270 v271 v272 v273 v274 v275 v276 v277 v278 v279 v280 v281 v282 v283 v284 v285 v286 v287 v288 v289 v290 v291 v292 v293 v294 v295 v296 v297 v298 v299 v300 v301 v302 v303 v304 v305 v306 v307 v308 v309 v310 v311 v312 v313 v314 v315 v316 v317 v318 v319 v320 v321 v322 v323 v324 v325 v326 v327 v328 v329 v330 v331 v332 v333 v334 v335 v336 v337 v338 v339 v340 v341 v342 v343 v344 v345 v346 v347 v348 v349 v350 v351 v352 v353 v354 v355 v356 v357 v358 v359 v360 v361 v362 v363 v364 v365 v366 v367 v368 v369 v370 v371 v372 v373 v374 v375 v376 v377 v378 v379 v380 v381 v382 v383 v384 v385 v386 v387 v388 v389 v390 v391 v392 v393 v394 v395 v396 v397 v398 v399 v400 v401 v402 v403 v404 v405 v406 v407 v408 v409 v410 v411 v412 v413 v414 v415 v416 v417 v418 v419 v420 v421 v422 v423 v424 v425 v426 v427 v428 v429 v430 v431 v432 v433 v434 : Value} {K : Act → World → Prop} {RE : Ending → World → Prop}
  (h0 : OfG w0 W0 M m ns) (hlf : m.lefts.length ≤ 1000) (hns : ns.length ≤ 1000)
  (hK : ∀ (x18 x19 x20 x272 x273 x274 x275 x276 x277 x278 x279 x280 x281 x282 x283 x284 x285 x286 x287 x288 x289 x290 x291 x292 x293 x294 x295 x296 x297 x298 x299 x300 x301 x302 x303 x304 x305 x306 x307 x308 x309 x310 x311 x312 x313 x314 x315 : Value) (wx : World), OfG w0 wx M m (nsTo m ns m.lefts.length) → K { tmps := List.toArray (v0 :: v1 :: v2 :: v3 :: v4 :: v5 :: (.pointer (some ⟨M, 0, none⟩) : Value) :: v7 :: v8 :: v9 :: v10 :: v11 :: v12 :: v13 :: v14 :: v15 :: v16 :: v17 :: x18 :: x19 :: x20 :: v21 :: v22 :: v23 :: v24 :: v25 :: v26 :: v27 :: v28 :: v29 :: v30 :: v31 :: v32 :: v33 :: v34 :: v35 :: v36 :: v37 :: v38 :: v39 :: v40 :: v41 :: v42 :: v43 :: v44 :: v45 :: v46 :: v47 :: v48 :: v49 :: v50 :: v51 :: v52 :: v53 :: v54 :: v55 :: v56 :: v57 :: v58 :: v59 :: v60 :: v61 :: v62 :: v63 :: v64 :: v65 :: v66 :: v67 :: v68 :: v69 :: v70 :: v71 :: v72 :: v73 :: v74 :: v75 :: v76 :: v77 :: v78 :: v79 :: v80 :: v81 :: v82 :: v83 :: v84 :: v85 :: v86 :: v87 :: v88 :: v89 :: v90 :: v91 :: v92 :: v93 :: v94 :: v95 :: v96 :: v97 :: v98 :: v99 :: v100 :: v101 :: v102 :: v103 :: v104 :: v105 :: v106 :: v107 :: v108 :: v109 :: v110 :: v111 :: v112 :: v113 :: v114 :: v115 :: v116 :: v117 :: v118 :: v119 :: v120 :: v121 :: v122 :: v123 :: v124 :: v125 :: v126 :: v127 :: v128 :: v129 :: v130 :: v131 :: v132 :: v133 :: v134 :: v135 :: v136 :: v137 :: v138 :: v139 :: v140 :: v141 :: v142 :: v143 :: v144 :: v145 :: v146 :: v147 :: v148 :: v149 :: v150 :: v151 :: v152 :: v153 :: v154 :: v155 :: v156 :: v157 :: v158 :: v159 :: v160 :: v161 :: v162 :: v163 :: v164 :: v165 :: v166 :: v167 :: v168 :: v169 :: v170 :: v171 :: v172 :: v173 :: v174 :: v175 :: v176 :: v177 :: v178 :: v179 :: v180 :: v181 :: v182 :: v183 :: v184 :: v185 :: v186 :: v187 :: v188 :: v189 :: v190 :: v191 :: v192 :: v193 :: v194 :: v195 :: v196 :: v197 :: v198 :: v199 :: v200 :: v201 :: v202 :: v203 :: v204 :: v205 :: v206 :: v207 :: v208 :: v209 :: v210 :: v211 :: v212 :: v213 :: v214 :: v215 :: v216 :: v217 :: v218 :: v219 :: v220 :: v221 :: v222 :: v223 :: v224 :: v225 :: v226 :: v227 :: v228 :: v229 :: v230 :: v231 :: v232 :: v233 :: v234 :: v235 :: v236 :: v237 :: v238 :: v239 :: v240 :: v241 :: v242 :: v243 :: v244 :: v245 :: v246 :: v247 :: v248 :: v249 :: v250 :: v251 :: v252 :: v253 :: v254 :: v255 :: v256 :: v257 :: v258 :: v259 :: v260 :: v261 :: v262 :: v263 :: v264 :: v265 :: v266 :: v267 :: v268 :: v269 :: v270 :: v271 :: x272 :: x273 :: x274 :: x275 :: x276 :: x277 :: x278 :: x279 :: x280 :: x281 :: x282 :: x283 :: x284 :: x285 :: x286 :: x287 :: x288 :: x289 :: x290 :: x291 :: x292 :: x293 :: x294 :: x295 :: x296 :: x297 :: x298 :: x299 :: x300 :: x301 :: x302 :: x303 :: x304 :: x305 :: x306 :: x307 :: x308 :: x309 :: x310 :: x311 :: x312 :: x313 :: x314 :: x315 :: v316 :: v317 :: v318 :: v319 :: v320 :: v321 :: v322 :: v323 :: v324 :: v325 :: v326 :: v327 :: v328 :: v329 :: v330 :: v331 :: v332 :: v333 :: v334 :: v335 :: v336 :: v337 :: v338 :: v339 :: v340 :: v341 :: v342 :: v343 :: v344 :: v345 :: v346 :: v347 :: v348 :: v349 :: v350 :: v351 :: v352 :: v353 :: v354 :: v355 :: v356 :: v357 :: v358 :: v359 :: v360 :: v361 :: v362 :: v363 :: v364 :: v365 :: v366 :: v367 :: v368 :: v369 :: v370 :: v371 :: v372 :: v373 :: v374 :: v375 :: v376 :: v377 :: v378 :: v379 :: v380 :: v381 :: v382 :: v383 :: v384 :: v385 :: v386 :: v387 :: v388 :: v389 :: v390 :: v391 :: v392 :: v393 :: v394 :: v395 :: v396 :: v397 :: v398 :: v399 :: v400 :: v401 :: v402 :: v403 :: v404 :: v405 :: v406 :: v407 :: v408 :: v409 :: v410 :: v411 :: v412 :: v413 :: v414 :: v415 :: v416 :: v417 :: v418 :: v419 :: v420 :: v421 :: v422 :: v423 :: v424 :: v425 :: v426 :: v427 :: v428 :: v429 :: v430 :: v431 :: v432 :: v433 :: v434 :: []), defers := [] } wx) :
  Code.wp Try.prog ((blkOf 14 (Try.f35.body.getD .skip)).getD .skip) (Exit.then K (bodyPost Try.prog Try.f35 RE)) { tmps := List.toArray (v0 :: v1 :: v2 :: v3 :: v4 :: v5 :: (.pointer (some ⟨M, 0, none⟩) : Value) :: v7 :: v8 :: v9 :: v10 :: v11 :: v12 :: v13 :: v14 :: v15 :: v16 :: v17 :: (.int .i64 0 : Value) :: v19 :: v20 :: v21 :: v22 :: v23 :: v24 :: v25 :: v26 :: v27 :: v28 :: v29 :: v30 :: v31 :: v32 :: v33 :: v34 :: v35 :: v36 :: v37 :: v38 :: v39 :: v40 :: v41 :: v42 :: v43 :: v44 :: v45 :: v46 :: v47 :: v48 :: v49 :: v50 :: v51 :: v52 :: v53 :: v54 :: v55 :: v56 :: v57 :: v58 :: v59 :: v60 :: v61 :: v62 :: v63 :: v64 :: v65 :: v66 :: v67 :: v68 :: v69 :: v70 :: v71 :: v72 :: v73 :: v74 :: v75 :: v76 :: v77 :: v78 :: v79 :: v80 :: v81 :: v82 :: v83 :: v84 :: v85 :: v86 :: v87 :: v88 :: v89 :: v90 :: v91 :: v92 :: v93 :: v94 :: v95 :: v96 :: v97 :: v98 :: v99 :: v100 :: v101 :: v102 :: v103 :: v104 :: v105 :: v106 :: v107 :: v108 :: v109 :: v110 :: v111 :: v112 :: v113 :: v114 :: v115 :: v116 :: v117 :: v118 :: v119 :: v120 :: v121 :: v122 :: v123 :: v124 :: v125 :: v126 :: v127 :: v128 :: v129 :: v130 :: v131 :: v132 :: v133 :: v134 :: v135 :: v136 :: v137 :: v138 :: v139 :: v140 :: v141 :: v142 :: v143 :: v144 :: v145 :: v146 :: v147 :: v148 :: v149 :: v150 :: v151 :: v152 :: v153 :: v154 :: v155 :: v156 :: v157 :: v158 :: v159 :: v160 :: v161 :: v162 :: v163 :: v164 :: v165 :: v166 :: v167 :: v168 :: v169 :: v170 :: v171 :: v172 :: v173 :: v174 :: v175 :: v176 :: v177 :: v178 :: v179 :: v180 :: v181 :: v182 :: v183 :: v184 :: v185 :: v186 :: v187 :: v188 :: v189 :: v190 :: v191 :: v192 :: v193 :: v194 :: v195 :: v196 :: v197 :: v198 :: v199 :: v200 :: v201 :: v202 :: v203 :: v204 :: v205 :: v206 :: v207 :: v208 :: v209 :: v210 :: v211 :: v212 :: v213 :: v214 :: v215 :: v216 :: v217 :: v218 :: v219 :: v220 :: v221 :: v222 :: v223 :: v224 :: v225 :: v226 :: v227 :: v228 :: v229 :: v230 :: v231 :: v232 :: v233 :: v234 :: v235 :: v236 :: v237 :: v238 :: v239 :: v240 :: v241 :: v242 :: v243 :: v244 :: v245 :: v246 :: v247 :: v248 :: v249 :: v250 :: v251 :: v252 :: v253 :: v254 :: v255 :: v256 :: v257 :: v258 :: v259 :: v260 :: v261 :: v262 :: v263 :: v264 :: v265 :: v266 :: v267 :: v268 :: v269 :: v270 :: v271 :: v272 :: v273 :: v274 :: v275 :: v276 :: v277 :: v278 :: v279 :: v280 :: v281 :: v282 :: v283 :: v284 :: v285 :: v286 :: v287 :: v288 :: v289 :: v290 :: v291 :: v292 :: v293 :: v294 :: v295 :: v296 :: v297 :: v298 :: v299 :: v300 :: v301 :: v302 :: v303 :: v304 :: v305 :: v306 :: v307 :: v308 :: v309 :: v310 :: v311 :: v312 :: v313 :: v314 :: v315 :: v316 :: v317 :: v318 :: v319 :: v320 :: v321 :: v322 :: v323 :: v324 :: v325 :: v326 :: v327 :: v328 :: v329 :: v330 :: v331 :: v332 :: v333 :: v334 :: v335 :: v336 :: v337 :: v338 :: v339 :: v340 :: v341 :: v342 :: v343 :: v344 :: v345 :: v346 :: v347 :: v348 :: v349 :: v350 :: v351 :: v352 :: v353 :: v354 :: v355 :: v356 :: v357 :: v358 :: v359 :: v360 :: v361 :: v362 :: v363 :: v364 :: v365 :: v366 :: v367 :: v368 :: v369 :: v370 :: v371 :: v372 :: v373 :: v374 :: v375 :: v376 :: v377 :: v378 :: v379 :: v380 :: v381 :: v382 :: v383 :: v384 :: v385 :: v386 :: v387 :: v388 :: v389 :: v390 :: v391 :: v392 :: v393 :: v394 :: v395 :: v396 :: v397 :: v398 :: v399 :: v400 :: v401 :: v402 :: v403 :: v404 :: v405 :: v406 :: v407 :: v408 :: v409 :: v410 :: v411 :: v412 :: v413 :: v414 :: v415 :: v416 :: v417 :: v418 :: v419 :: v420 :: v421 :: v422 :: v423 :: v424 :: v425 :: v426 :: v427 :: v428 :: v429 :: v430 :: v431 :: v432 :: v433 :: v434 :: []), defers := [] } W0 := by
 conv => arg 2; whnf
 have hSt : ∀ i, nsTo m ns (i + 1) = nsTo m ns i ++ [⟨m.lefts.getD i ⟨#[]⟩, nonTag m (m.lefts.getD i ⟨#[]⟩)⟩] := fun i => rfl
 have hS0 : nsTo m ns 0 = ns := rfl
 have hNN := nsTo_len m ns
 have hlw := h0.size
 generalize nsTo m ns = dt0 at *
 have HSt := Lib.hid hSt
 have HS0 := Lib.hid hS0
 have HNN := Lib.hid hNN
 have HI0 := Lib.hid h0
 have HKK := Lib.hid hK
 clear hSt hS0 h0 hK hNN hlw
 go_cut [] from 272 to 315 (fun wx => OfG w0 wx M m (dt0 m.lefts.length))
 case rest =>
  exact HKK.out u18 u19 u20 u272 u273 u274 u275 u276 u277 u278 u279 u280 u281 u282 u283 u284 u285 u286 u287 u288 u289 u290 u291 u292 u293 u294 u295 u296 u297 u298 u299 u300 u301 u302 u303 u304 u305 u306 u307 u308 u309 u310 u311 u312 u313 u314 u315 _ hcut
 case first =>
  clear HKK
  go_wp2_with fail
  go_loopw [18] (fun x18 W => ∃ i : Nat, i ≤ m.lefts.length ∧ x18 = .int .i64 i ∧ Hid (OfG w0 W M m (dt0 i))) (fun x18 _ => m.lefts.length - (intOf x18).toNat)
  case atStart => exact ⟨0, Nat.zero_le _, rfl, by rw [HS0.out]; exact HI0⟩
  case round =>
   clear HI0
   obtain ⟨k, hk, rfl, HI⟩ := hrel
   rename World => W
   obtain ⟨tv, nv, pv, gv, yv, lv, r1, r2, r3, r4, r5⟩ := HI.out.read
   obtain ⟨la, ln, lc, e0, hln, hlc, hlm, hlx⟩ := r4.open
   subst e0
   have x7 := r5 7
   simp only [gCells, List.getElem?_cons_succ, List.getElem?_cons_zero] at x7
   clear r1 r2 r3 r4 r5
   by_cases hlt : k < m.lefts.length
   · obtain ⟨b, o, e2, y0⟩ := hlx.out k (by rw [hln.out]; exact hlt)
     subst e2
     have i1 : (k : Int) < (ln : Int) := by have := hln.out; omega
     have hs := HSt.out k
     have hnl := HNN.out k
     generalize m.lefts.getD k ⟨#[]⟩ = xn at *
     generalize dt0 k = nk at *
     have hqs := HI.out.size
     have HB := Lib.hid (HI.out.box (.cells #[.string xn, .string ⟨#[]⟩] 106))
     have HSE := Lib.hid hs
     clear hs hlx
     go_upto_region 54 with fail
     clear x7 y0 HI
     generalize W.alloc (.cells #[.string xn, .string ⟨#[]⟩] 106) = W1 at *
     generalize W.heap.size = Q at *
     have q0 := cell_of_row _ Q 0 _ _ _ HB.out.row
     simp only [List.getElem?_toArray, List.getElem?_cons_succ, List.getElem?_cons_zero] at q0
     have HTy := Lib.hid (HB.out.out.typeOf xn)
     have htg := m.typeOf_at xn
     have hnt : nonTag m xn = (if m.typeOf xn < 0 then ⟨#[]⟩ else (m.types.getD (m.typeOf xn).toNat noNn).tag) := rfl
     generalize nonTag m xn = tg at *
     generalize m.typeOf xn = T at *
     have HNT := Lib.hid hnt
     clear hnt
     go_upto_if 294 with (first | (go_at_call 49; (with_reducible refine HTy.out.mono ?_); rintro e w2 ⟨rfl, hb2⟩))
     have HB2 := Lib.hid (HB.out.below hb2)
     clear HTy q0 HB hb2
     go_cut [] from 272 to 303 (fun wx => Hid (OfGB w0 wx M m nk Q (.cells #[.string xn, .string tg] 106 (0, 0))))
     case first =>
      rcases htg with rfl | ⟨j, rfl, hj⟩
      · go_wp2_with fail
        go_meet
        case rel => rw [HNT.out, if_pos (by omega)]; exact HB2
      · obtain ⟨tv, nv, pv, gv, yv, lv, r1, r2, r3, r4, r5⟩ := HB2.out.out.read
        obtain ⟨ya, yn, yc, e0, hyn, hyc, hym, hyx⟩ := r3.open
        subst e0
        have x6 := r5 6
        simp only [gCells, List.getElem?_cons_succ, List.getElem?_cons_zero] at x6
        obtain ⟨b2, o2, e3, z0, z1⟩ := hyx.out j (by rw [hyn.out]; exact hj)
        subst e3
        have i2 : (j : Int) < (yn : Int) := by have := hyn.out; omega
        have hTG : tg = (m.types.getD j noNn).tag := by
         have e := HNT.out
         rw [if_neg (by omega)] at e
         simpa using e
        rw [← hTG] at z1
        have HP := Lib.hid (HB2.out.put hqs 1 (.string tg))
        have q1 := cell_of_row _ Q 1 _ _ _ HB2.out.row
        simp only [List.getElem?_toArray, List.getElem?_cons_succ, List.getElem?_cons_zero] at q1
        have f1 := free_of_block (j := 1) HB2.out.row
        clear r1 r2 r3 r4 r5 hyx hTG z0
        go_wp2_with fail
        go_meet
        case rel => exact HP
     case rest =>
      have hB8 := hcut.out
      clear hcut HB2 HNT htg
      rename World => V8
      have HST : Hid (dt0 (k + 1) = nk ++ [⟨xn, tg⟩]) := HSE
      clear HSE
      go_upto_region 57 with fail
      have q0 := cell_of_row _ Q 0 _ _ _ hB8.row
      have q1 := cell_of_row _ Q 1 _ _ _ hB8.row
      simp only [List.getElem?_toArray, List.getElem?_cons_succ, List.getElem?_cons_zero] at q0 q1
      obtain ⟨F, S, h1, h2, h3, h4⟩ := hB8
      obtain ⟨tv, nv, pv, gv, yv, lv, ys, hFi, hO⟩ := h1.is
      obtain ⟨va, vc, e0⟩ := own_slice (hO.1.own ⟨106, 2, nv, nk.length, nk.flatMap nnC⟩ (by simp [gRows]))
      simp only at e0
      subst e0
      obtain ⟨i0, hi0, iz0, iz1, iz2⟩ := info_parts Try.infoNonG
      have hbL : Below V8.heap.size V8 (V8.drew.alloc (.cells #[.string xn, .string tg] 106)) := (Below.refl V8.heap.size V8).drew.alloc (Nat.le_refl _) _
      have hMQ : M ≠ Q := fun e => h3.1 ((hFi Q).2 (.inl e.symm))
      have hMn : some M ≠ (Value.slice va nk.length vc).ownBlock := fun e => hO.1.notM ⟨106, 2, (.slice va nk.length vc), nk.length, nk.flatMap nnC⟩ (by simp [gRows]) e.symm
      have hQn : some Q ≠ (Value.slice va nk.length vc).ownBlock := fun e => h3.1 ((hFi Q).2 (.inr ⟨⟨106, 2, (.slice va nk.length vc), nk.length, nk.flatMap nnC⟩, by simp [gRows], e.symm⟩))
      have x2W := hO.1.cell 1
      simp only [gCells, List.getElem?_cons_succ, List.getElem?_cons_zero] at x2W
      have x2D : V8.drew.cell? ⟨M, 1, none⟩ = some (.slice va nk.length vc) := x2W
      have x2L : (V8.drew.alloc (.cells #[.string xn, .string tg] 106)).cell? ⟨M, 1, none⟩ = some (.slice va nk.length vc) := cell_up hbL x2W
      have x2A : (V8.alloc (.cells #[.string xn, .string tg] 106)).cell? ⟨M, 1, none⟩ = some (.slice va nk.length vc) := x2L
      have SW : V8.drew.cell? ⟨Q, 0, none⟩ = some (.string xn) ∧ V8.drew.cell? ⟨Q, 1, none⟩ = some (.string tg) := ⟨q0, q1⟩
      have SL : (V8.drew.alloc (.cells #[.string xn, .string tg] 106)).cell? ⟨Q, 0, none⟩ = some (.string xn) ∧ (V8.drew.alloc (.cells #[.string xn, .string tg] 106)).cell? ⟨Q, 1, none⟩ = some (.string tg) := ⟨cell_up hbL q0, cell_up hbL q1⟩
      have HOL := Lib.hid (hO.below hbL)
      have ho4 := HOL.out.1.own ⟨106, 2, (.slice va nk.length vc), nk.length, nk.flatMap nnC⟩ (by simp [gRows])
      have hf4 := HOL.out.1.free 1
      have hM4 := HOL.out.1.mlt
      have hB4 : w0.heap.size ≤ (V8.drew.alloc (.cells #[.string xn, .string tg] 106)).heap.size := Nat.le_trans HOL.out.1.mB (Nat.le_of_lt hM4)
      have H2L := Lib.hid (h2.trans (hbL.mono h2.size))
      have hbn1 : nk.length + 1 ≤ maxLen := by unfold maxLen; omega
      have hbn2 : (nk.length + 1) * 32 ≤ 140737488355328 := by omega
      clear hO h1 h2 h3 h4 x2W hFi hnl
      refine wp_region_held_drew (S := (fun Xw => Xw.cell? ⟨Q, 0, none⟩ = some (.string xn) ∧ Xw.cell? ⟨Q, 1, none⟩ = some (.string tg))) (by kernel_rfl) ?hS0 (fun hHeld => ?hR0)
      case hS0 => exact SW
      case hR0 =>
       refine tk 0 ?_
       try simp only [Act.put, gA, gB, gC, gD, gE, gF]
       refine tk 1 ?_
       try simp only [Act.put, gA, gB, gC, gD, gE, gF]
       refine tk 2 ?_
       try simp only [Act.put, gA, gB, gC, gD, gE, gF]
       refine tk 3 ?_
       try simp only [Act.put, gA, gB, gC, gD, gE, gF]
       refine tk 4 ?_
       try simp only [Act.put, gA, gB, gC, gD, gE, gF]
       refine tk 6 ?_
       try simp only [Act.put, gA, gB, gC, gD, gE, gF]
       refine wpAnyH_ready (rs := [5, 7]) (by kernel_rfl) (by simp) ?_
       refine AllReadyH.cons rfl (fun K hK => ?_) ?_
       · try simp only [gA, gB, gC]
         go_simp
         refine hK.out _ _ SW (fun hHeld => ?_)
         clear hK K
         try simp only [Act.put, gA, gB, gC, gD, gE, gF]
         refine wpAnyH_ready (rs := [7]) (by kernel_rfl) (by simp) ?_
         refine AllReadyH.cons rfl (fun K hK => ?_) .nil
         try simp only [gA, gB, gC]
         go_simp
         refine hK.out _ _ SL (fun hHeld => ?_)
         clear hK K
         try simp only [Act.put, gA, gB, gC, gD, gE, gF]
         refine wpAnyH_ready (rs := [8]) (by kernel_rfl) (by simp) ?_
         refine AllReadyH.cons rfl (fun K hK => ?_) .nil
         refine step_append_lies _ (by rfl) _ _ _ (by rfl) w0.heap.size 106 i0 (.agg #[.string ByteArray.empty, .string ByteArray.empty]) 2 32 Try.underlying35 hi0 iz0 iz1 iz2 rfl (by omega) (.slice va nk.length vc) nk.length (nk.flatMap nnC) (by rfl) ho4 ⟨V8.heap.size, 0, none⟩ 1 1 [.string xn, .string tg] (by rfl) (by rfl) (lit_cells V8.drew #[.string xn, .string tg] 106) (by simp [Value.oneCell']) (by omega) hbn1 hbn2 hB4 _ rfl ?_
         intro gg cap2 w5 hown5 hgrow5 hat hlt5
         have k5 : w5.cell? ⟨Q, 0, none⟩ = some (.string xn) ∧ w5.cell? ⟨Q, 1, none⟩ = some (.string tg) := ⟨hgrow5.cell SL.1 hQn, hgrow5.cell SL.2 hQn⟩
         have f5 : w5.cell? ⟨M, 1, none⟩ = some (.slice va nk.length vc) := (hgrow5.cell x2L hMn)
         have r5 : w5.frozen? ⟨M, 1, none⟩ = false := (hgrow5.frozen_far ⟨M, 1, none⟩ hM4 hMn).trans hf4
         refine hK.out _ _ k5 (fun hHeld => ?_)
         clear hK K
         try simp only [Act.put, gA, gB, gC, gD, gE, gF]
         refine tk 9 ?_
         try simp only [Act.put, gA, gB, gC, gD, gE, gF]
         refine tk 10 ?_
         try simp only [Act.put, gA, gB, gC, gD, gE, gF]
         refine tk 11 ?_
         try simp only [Act.put, gA, gB, gC, gD, gE, gF]
         refine wpAnyH_ready (rs := [12]) (by kernel_rfl) (by simp) ?_
         refine AllReadyH.cons rfl (fun K hK => ?_) .nil
         try simp only [gA, gB, gC]
         go_simp
         refine hK.out _ _ ⟨(World.cell?_setCell_far _ _ _ _ hMQ).trans k5.1, (World.cell?_setCell_far _ _ _ _ hMQ).trans k5.2⟩ (fun hHeld => ?_)
         clear hK K
         try simp only [Act.put, gA, gB, gC, gD, gE, gF]
         refine wpAnyH_done (by kernel_rfl) ?_ _
         go_wp2_with fail
         go_round
         case rel =>
          obtain ⟨a1, a2, a3⟩ := HOL.out.push (k := ⟨xn, tg⟩) hgrow5 hown5 (hat.imp (fun e => e.symm) (fun e => by rw [e]; rfl))
          exact ⟨k + 1, by omega, by go_num, by rw [HST.out]; exact Lib.hid ⟨_, S, ⟨⟨_, _, _, _, _, _, _, fun _ => Iff.rfl, a1⟩⟩, (H2L.out).trans (a3.below (fun b hb => (HOL.out.1.lt b hb).1) H2L.out.size)⟩⟩
         case measure => simp [intOf]; omega
       refine AllReadyH.cons rfl (fun K hK => ?_) .nil
       try simp only [gA, gB, gC]
       go_simp
       refine hK.out _ _ SL (fun hHeld => ?_)
       clear hK K
       try simp only [Act.put, gA, gB, gC, gD, gE, gF]
       refine wpAnyH_ready (rs := [5]) (by kernel_rfl) (by simp) ?_
       refine AllReadyH.cons rfl (fun K hK => ?_) .nil
       try simp only [gA, gB, gC]
       go_simp
       refine hK.out _ _ SL (fun hHeld => ?_)
       clear hK K
       try simp only [Act.put, gA, gB, gC, gD, gE, gF]
       refine wpAnyH_ready (rs := [8]) (by kernel_rfl) (by simp) ?_
       refine AllReadyH.cons rfl (fun K hK => ?_) .nil
       refine step_append_lies _ (by rfl) _ _ _ (by rfl) w0.heap.size 106 i0 (.agg #[.string ByteArray.empty, .string ByteArray.empty]) 2 32 Try.underlying35 hi0 iz0 iz1 iz2 rfl (by omega) (.slice va nk.length vc) nk.length (nk.flatMap nnC) (by rfl) ho4 ⟨V8.heap.size, 0, none⟩ 1 1 [.string xn, .string tg] (by rfl) (by rfl) (lit_cells V8.drew #[.string xn, .string tg] 106) (by simp [Value.oneCell']) (by omega) hbn1 hbn2 hB4 _ rfl ?_
       intro gg cap2 w5 hown5 hgrow5 hat hlt5
       have k5 : w5.cell? ⟨Q, 0, none⟩ = some (.string xn) ∧ w5.cell? ⟨Q, 1, none⟩ = some (.string tg) := ⟨hgrow5.cell SL.1 hQn, hgrow5.cell SL.2 hQn⟩
       have f5 : w5.cell? ⟨M, 1, none⟩ = some (.slice va nk.length vc) := (hgrow5.cell x2L hMn)
       have r5 : w5.frozen? ⟨M, 1, none⟩ = false := (hgrow5.frozen_far ⟨M, 1, none⟩ hM4 hMn).trans hf4
       refine hK.out _ _ k5 (fun hHeld => ?_)
       clear hK K
       try simp only [Act.put, gA, gB, gC, gD, gE, gF]
       refine tk 9 ?_
       try simp only [Act.put, gA, gB, gC, gD, gE, gF]
       refine tk 10 ?_
       try simp only [Act.put, gA, gB, gC, gD, gE, gF]
       refine tk 11 ?_
       try simp only [Act.put, gA, gB, gC, gD, gE, gF]
       refine wpAnyH_ready (rs := [12]) (by kernel_rfl) (by simp) ?_
       refine AllReadyH.cons rfl (fun K hK => ?_) .nil
       try simp only [gA, gB, gC]
       go_simp
       refine hK.out _ _ ⟨(World.cell?_setCell_far _ _ _ _ hMQ).trans k5.1, (World.cell?_setCell_far _ _ _ _ hMQ).trans k5.2⟩ (fun hHeld => ?_)
       clear hK K
       try simp only [Act.put, gA, gB, gC, gD, gE, gF]
       refine wpAnyH_done (by kernel_rfl) ?_ _
       go_wp2_with fail
       go_round
       case rel =>
        obtain ⟨a1, a2, a3⟩ := HOL.out.push (k := ⟨xn, tg⟩) hgrow5 hown5 (hat.imp (fun e => e.symm) (fun e => by rw [e]; rfl))
        exact ⟨k + 1, by omega, by go_num, by rw [HST.out]; exact Lib.hid ⟨_, S, ⟨⟨_, _, _, _, _, _, _, fun _ => Iff.rfl, a1⟩⟩, (H2L.out).trans (a3.below (fun b hb => (HOL.out.1.lt b hb).1) H2L.out.size)⟩⟩
       case measure => simp [intOf]; omega
   · have i1 : ¬ (k : Int) < (ln : Int) := by have := hln.out; omega
     have hkr : k = m.lefts.length := by omega
     clear hlx
     have HKR := Lib.hid hkr
     clear hkr
     go_wp2_with fail
     go_meet
     case rel => rw [← HKR.out]; exact HI.out
end Go.Proofs.Ytkgbifbbpmdpgaa
