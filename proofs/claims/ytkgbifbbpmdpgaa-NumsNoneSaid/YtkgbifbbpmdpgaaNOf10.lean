/- Of: the alternatives. -/
import Derived.Test.YtkgbifbbpmdpgaaNOf9
set_option linter.unusedVariables false
set_option linter.unusedSimpArgs false
namespace Go.Proofs.Ytkgbifbbpmdpgaa

open List renaming getElem_toArray → gA, getElem_cons_succ → gB, getElem_cons_zero → gC, setIfInBounds_toArray → gD, set_cons_zero → gE, set_cons_succ → gF
open Go.RowKit
def noAl : Al := ⟨[], noSm, 0⟩
def noRl : Rl := ⟨⟨#[]⟩, [], 0⟩
def altsTo (r : Rl) (m : Mk) : Nat → Mk
 | 0 => m
 | k + 1 => (altsTo r m k).alt r.left (r.alts.getD k noAl)
def rulTo (rs : List Rl) (m : Mk) : Nat → Mk
 | 0 => m
 | i + 1 => altsTo (rs.getD i noRl) (rulTo rs m i) (rs.getD i noRl).alts.length
structure MkP (m : Mk) (t l p : Nat) : Prop where
 tk : m.toks.length ≤ t
 gv : m.given.length = m.toks.length
 lf : m.lefts.length ≤ l
 pd : m.prods.length ≤ p
 nn : 0 ≤ m.inner ∧ m.inner ≤ p
theorem MkP.wide {m : Mk} {t l p t' l' p' : Nat} (h : MkP m t l p) (h1 : t ≤ t') (h2 : l ≤ l') (h3 : p ≤ p') : MkP m t' l' p' :=
 ⟨Nat.le_trans h.tk h1, h.gv, Nat.le_trans h.lf h2, Nat.le_trans h.pd h3, ⟨h.nn.1, by have := h.nn.2; omega⟩⟩
theorem altPrec_more (m : Mk) (x : Sm) (r : List Int) : (m.altPrec x r).1.toks.length ≤ m.toks.length + 1 ∧ (m.altPrec x r).1.lefts = m.lefts ∧ (m.altPrec x r).1.prods = m.prods ∧ (m.altPrec x r).1.inner = m.inner ∧ (m.given.length = m.toks.length → (m.altPrec x r).1.given.length = (m.altPrec x r).1.toks.length) := by
 unfold Mk.altPrec
 split
 · exact ⟨Nat.le_succ _, rfl, rfl, rfl, id⟩
 · split
   · exact m.symbol_more x
   · split
     · exact m.symbol_more x
     · obtain ⟨s1, s2, s3, s4, s5, s6, s7⟩ := m.fail_same x.pos x.name
       exact ⟨by rw [s1]; omega, s5, s2, s7, fun e => by rw [s1, s3]; exact e⟩
theorem MkP.alt {m : Mk} {t l p : Nat} (h : MkP m t l p) (ln : ByteArray) (a : Al) (ha : a.parts.length ≤ 100) : MkP (m.alt ln a) (t + 101) l (p + 101) := by
 obtain ⟨u1, u2, u3, u4, u5, u6⟩ := au_bounds m a h.gv h.nn.1 a.parts.length
 obtain ⟨q1, q2, q3, q4, q5⟩ := altPrec_more (auTo m a a.parts.length).m a.prec (auTo m a a.parts.length).right
 have e : m.alt ln a = ((auTo m a a.parts.length).m.altPrec a.prec (auTo m a a.parts.length).right).1.addProd ⟨1 + m.left ln, (auTo m a a.parts.length).right, ((auTo m a a.parts.length).m.altPrec a.prec (auTo m a a.parts.length).right).2, (auTo m a a.parts.length).code, (auTo m a a.parts.length).right, (auTo m a a.parts.length).pos⟩ := rfl
 rw [e]
 have ht := h.tk
 have hp := h.pd
 have hn := h.nn
 refine ⟨?_, q5 u5, ?_, ?_, ?_⟩
 · show ((auTo m a a.parts.length).m.altPrec a.prec _).1.toks.length ≤ _
   omega
 · show ((auTo m a a.parts.length).m.altPrec a.prec _).1.lefts.length ≤ _
   rw [q2, u2]; exact h.lf
 · simp only [Mk.addProd, List.length_append, List.length_singleton]
   rw [q3]; omega
 · show 0 ≤ ((auTo m a a.parts.length).m.altPrec a.prec _).1.inner ∧ ((auTo m a a.parts.length).m.altPrec a.prec _).1.inner ≤ _
   rw [q4]; omega
theorem MkP.altsTo {r : Rl} {m : Mk} {t l p : Nat} (h : MkP m t l p) (hr : ∀ a ∈ r.alts, a.parts.length ≤ 100) : ∀ k, MkP (altsTo r m k) (t + 101 * k) l (p + 101 * k)
 | 0 => h
 | k + 1 => by
   have h1 := MkP.altsTo h hr k
   have ha : (r.alts.getD k noAl).parts.length ≤ 100 := by
    rw [List.getD_eq_getElem?_getD]
    cases e : r.alts[k]? with
    | none => exact Nat.zero_le _
    | some a => exact hr a (List.mem_of_getElem? e)
   exact (h1.alt r.left _ ha).wide (by omega) (Nat.le_refl _) (by omega)
theorem MkP.rulTo {rs : List Rl} {m : Mk} {t l p : Nat} (h : MkP m t l p) (hr : ∀ r ∈ rs, r.alts.length ≤ 20 ∧ ∀ a ∈ r.alts, a.parts.length ≤ 100) : ∀ i, MkP (rulTo rs m i) (t + 2020 * i) l (p + 2020 * i)
 | 0 => h
 | i + 1 => by
   have h1 := MkP.rulTo h hr i
   have ha : (rs.getD i noRl).alts.length ≤ 20 ∧ ∀ a ∈ (rs.getD i noRl).alts, a.parts.length ≤ 100 := by
    rw [List.getD_eq_getElem?_getD]
    cases e : rs[i]? with
    | none => exact ⟨Nat.zero_le _, fun a ha => by cases ha⟩
    | some a => exact hr a (List.mem_of_getElem? e)
   exact (h1.altsTo ha.2 _).wide (by omega) (Nat.le_refl _) (by omega)
set_option maxRecDepth 100000 in
set_option maxHeartbeats 40000000 in
theorem of_alts {w0 W0 : World} {M bS : Nat} {rs : List Rl} {da : Option Addr} {dn dc : Nat} {sp stl : ByteArray} {dsv : Value} {m0 : Mk}
  {v0 v2 v3 v4 v5 v7 v8 v9 v10 v11 v12 v13 v14 v15 v17 v18 v19 v20 v21 v22 v23 v24 v25 v26 v27 v28 v29 v30 v31 v32 v33 v34 v35 v36 v37 v38 v39 v40 v41 v42 v43 v44 v45 v46 v47 v48 v49 v50 v51 v52 v53 v54 v55 v56 v57 v58 v59 v60 v61 v62 v63 v64 v65 v66 v67 v68 v69 v70 v71 v72 v73 v74 v75 v76 v77 v78 v79 v80 v81 v82 v83 v84 v85 v86 v87 v88 v89 v90 v91 v92 v93 v94 v95 v96 v97 v98 v99 v100 v101 v102 v103 v104 v105 v106 v107 v108 v109 v110 v111 v112 v113 v114 v115 v116 v117 v118 v119 v120 v121 v122 v123 v124 v125 v126 v127 v128 v129 v130 v131 v132 v133 v134 v135 v136 v137 v138 v139 v140 v141 v142 v143 v144 v145 v146 v147 v148 v149 v150 v151 v152 v153 v154 v155 v156 v157 v158 v159 v160 v161 v162 v163 v164 v165 v166 v167 v168 v169 v170 v171 v172 v173 v174 v175 v176 v177 v178 v179 v180 v181 v182 v183 v184 v185 v186 v187 v188 v189 v190 v191 v192 v193 v194 v195 v196 v197 v198 v199 v200 v201 v202 v203 v204 v205 v206 v207 v208 v209 v210 v211 v212 v213 v214 v215 v216 v217 v218 v219 v220 v221 v222 v223 v224 v225 v226 v227 v228 v229 v230 v231 v232 v233 v234 v235 v236 v237 v238 v239 v240 v241 v242 v243 v244 v245 v246 v247 v248 v249 v250 v251 v252 v253 v254 v255 v256 v257 v258 v259 v260 v261 v262 v263 v264 v265 v266 v267 v268 v269 v270 v271 v272 v273 v274 v275 v276 v277 v278 v279 v280 v281 v282 v283 v284 v285 v286 v287 v288 v289 v290 v291 v292 v293 v294 v295 v296 v297 v298 v299 v300 v301 v302 v303 v304 v305 v306 v307 v308 v309 v310 v311 v312 v313 v314 v315 v316 v317 v318 v319 v320 v321 v322 v323 v324 v325 v326 v327 v328 v329 v330 v331 v332 v333 v334 v335 v336 v337 v338 v339 v340 v341 v342 v343 v344 v345 v346 v347 v348 v349 v350 v351 v352 v353 v354 v355 v356 v357 v358 v359 v360 v361 v362 v363 v364 v365 v366 v367 v368 v369 v370 v371 v372 v373 v374 v375 v376 v377 v378 v379 v380 v381 v382 v383 v384 v385 v386 v387 v388 v389 v390 v391 v392 v393 v394 v395 v396 v397 v398 v399 v400 v401 v402 v403 v404 v405 v406 v407 v408 v409 v410 v411 v412 v413 v414 v415 v416 v417 v418 v419 v420 v421 v422 v423 v424 v425 v426 v427 v428 v429 v430 v431 v432 v433 v434 : Value} {K : Act → World → Prop} {RE : Ending → World → Prop}
  (hrs : RlsV w0 (.slice da dn dc) rs) (hSB : w0.heap[bS]? = some (.cells #[.string sp, dsv, .slice da dn dc, .string stl] 25 (0, 0)))
  (h0 : OfI w0 W0 M m0) (hN : MkP m0 100000 300 1) (hdl : rs.length ≤ 300) (hsl : ∀ r ∈ rs, r.alts.length ≤ 20 ∧ ∀ a ∈ r.alts, a.parts.length ≤ 100)
  (hlit : ∀ r ∈ rs, ∀ a ∈ r.alts, (∀ p ∈ a.parts, p.code.size = 0 → p.sym.lit = true → 1 ≤ p.sym.name.size) ∧ (a.prec.name.size ≠ 0 → a.prec.lit = true → 1 ≤ a.prec.name.size))
  (hK : ∀ (x16 x17 x213 x214 x215 x216 x217 x218 x219 x220 x221 x222 x223 x224 x225 x226 x227 x228 x229 x230 x231 x232 x233 x234 x235 x236 x237 x238 x239 x240 x241 x242 x243 x244 x245 x246 x247 : Value) (wx : World), OfI w0 wx M (rulTo rs m0 rs.length) → K { tmps := List.toArray (v0 :: (.pointer (some ⟨bS, 0, none⟩) : Value) :: v2 :: v3 :: v4 :: v5 :: (.pointer (some ⟨M, 0, none⟩) : Value) :: v7 :: v8 :: v9 :: v10 :: v11 :: v12 :: v13 :: v14 :: v15 :: x16 :: x17 :: v18 :: v19 :: v20 :: v21 :: v22 :: v23 :: v24 :: v25 :: v26 :: v27 :: v28 :: v29 :: v30 :: v31 :: v32 :: v33 :: v34 :: v35 :: v36 :: v37 :: v38 :: v39 :: v40 :: v41 :: v42 :: v43 :: v44 :: v45 :: v46 :: v47 :: v48 :: v49 :: v50 :: v51 :: v52 :: v53 :: v54 :: v55 :: v56 :: v57 :: v58 :: v59 :: v60 :: v61 :: v62 :: v63 :: v64 :: v65 :: v66 :: v67 :: v68 :: v69 :: v70 :: v71 :: v72 :: v73 :: v74 :: v75 :: v76 :: v77 :: v78 :: v79 :: v80 :: v81 :: v82 :: v83 :: v84 :: v85 :: v86 :: v87 :: v88 :: v89 :: v90 :: v91 :: v92 :: v93 :: v94 :: v95 :: v96 :: v97 :: v98 :: v99 :: v100 :: v101 :: v102 :: v103 :: v104 :: v105 :: v106 :: v107 :: v108 :: v109 :: v110 :: v111 :: v112 :: v113 :: v114 :: v115 :: v116 :: v117 :: v118 :: v119 :: v120 :: v121 :: v122 :: v123 :: v124 :: v125 :: v126 :: v127 :: v128 :: v129 :: v130 :: v131 :: v132 :: v133 :: v134 :: v135 :: v136 :: v137 :: v138 :: v139 :: v140 :: v141 :: v142 :: v143 :: v144 :: v145 :: v146 :: v147 :: v148 :: v149 :: v150 :: v151 :: v152 :: v153 :: v154 :: v155 :: v156 :: v157 :: v158 :: v159 :: v160 :: v161 :: v162 :: v163 :: v164 :: v165 :: v166 :: v167 :: v168 :: v169 :: v170 :: v171 :: v172 :: v173 :: v174 :: v175 :: v176 :: v177 :: v178 :: v179 :: v180 :: v181 :: v182 :: v183 :: v184 :: v185 :: v186 :: v187 :: v188 :: v189 :: v190 :: v191 :: v192 :: v193 :: v194 :: v195 :: v196 :: v197 :: v198 :: v199 :: v200 :: v201 :: v202 :: v203 :: v204 :: v205 :: v206 :: v207 :: v208 :: v209 :: v210 :: v211 :: v212 :: x213 :: x214 :: x215 :: x216 :: x217 :: x218 :: x219 :: x220 :: x221 :: x222 :: x223 :: x224 :: x225 :: x226 :: x227 :: x228 :: x229 :: x230 :: x231 :: x232 :: x233 :: x234 :: x235 :: x236 :: x237 :: x238 :: x239 :: x240 :: x241 :: x242 :: x243 :: x244 :: x245 :: x246 :: x247 :: v248 :: v249 :: v250 :: v251 :: v252 :: v253 :: v254 :: v255 :: v256 :: v257 :: v258 :: v259 :: v260 :: v261 :: v262 :: v263 :: v264 :: v265 :: v266 :: v267 :: v268 :: v269 :: v270 :: v271 :: v272 :: v273 :: v274 :: v275 :: v276 :: v277 :: v278 :: v279 :: v280 :: v281 :: v282 :: v283 :: v284 :: v285 :: v286 :: v287 :: v288 :: v289 :: v290 :: v291 :: v292 :: v293 :: v294 :: v295 :: v296 :: v297 :: v298 :: v299 :: v300 :: v301 :: v302 :: v303 :: v304 :: v305 :: v306 :: v307 :: v308 :: v309 :: v310 :: v311 :: v312 :: v313 :: v314 :: v315 :: v316 :: v317 :: v318 :: v319 :: v320 :: v321 :: v322 :: v323 :: v324 :: v325 :: v326 :: v327 :: v328 :: v329 :: v330 :: v331 :: v332 :: v333 :: v334 :: v335 :: v336 :: v337 :: v338 :: v339 :: v340 :: v341 :: v342 :: v343 :: v344 :: v345 :: v346 :: v347 :: v348 :: v349 :: v350 :: v351 :: v352 :: v353 :: v354 :: v355 :: v356 :: v357 :: v358 :: v359 :: v360 :: v361 :: v362 :: v363 :: v364 :: v365 :: v366 :: v367 :: v368 :: v369 :: v370 :: v371 :: v372 :: v373 :: v374 :: v375 :: v376 :: v377 :: v378 :: v379 :: v380 :: v381 :: v382 :: v383 :: v384 :: v385 :: v386 :: v387 :: v388 :: v389 :: v390 :: v391 :: v392 :: v393 :: v394 :: v395 :: v396 :: v397 :: v398 :: v399 :: v400 :: v401 :: v402 :: v403 :: v404 :: v405 :: v406 :: v407 :: v408 :: v409 :: v410 :: v411 :: v412 :: v413 :: v414 :: v415 :: v416 :: v417 :: v418 :: v419 :: v420 :: v421 :: v422 :: v423 :: v424 :: v425 :: v426 :: v427 :: v428 :: v429 :: v430 :: v431 :: v432 :: v433 :: v434 :: []), defers := [] } wx) :
  Code.wp Try.prog ((blkOf 10 (Try.f35.body.getD .skip)).getD .skip) (Exit.then K (bodyPost Try.prog Try.f35 RE)) { tmps := List.toArray (v0 :: (.pointer (some ⟨bS, 0, none⟩) : Value) :: v2 :: v3 :: v4 :: v5 :: (.pointer (some ⟨M, 0, none⟩) : Value) :: v7 :: v8 :: v9 :: v10 :: v11 :: v12 :: v13 :: v14 :: v15 :: (.int .i64 0 : Value) :: v17 :: v18 :: v19 :: v20 :: v21 :: v22 :: v23 :: v24 :: v25 :: v26 :: v27 :: v28 :: v29 :: v30 :: v31 :: v32 :: v33 :: v34 :: v35 :: v36 :: v37 :: v38 :: v39 :: v40 :: v41 :: v42 :: v43 :: v44 :: v45 :: v46 :: v47 :: v48 :: v49 :: v50 :: v51 :: v52 :: v53 :: v54 :: v55 :: v56 :: v57 :: v58 :: v59 :: v60 :: v61 :: v62 :: v63 :: v64 :: v65 :: v66 :: v67 :: v68 :: v69 :: v70 :: v71 :: v72 :: v73 :: v74 :: v75 :: v76 :: v77 :: v78 :: v79 :: v80 :: v81 :: v82 :: v83 :: v84 :: v85 :: v86 :: v87 :: v88 :: v89 :: v90 :: v91 :: v92 :: v93 :: v94 :: v95 :: v96 :: v97 :: v98 :: v99 :: v100 :: v101 :: v102 :: v103 :: v104 :: v105 :: v106 :: v107 :: v108 :: v109 :: v110 :: v111 :: v112 :: v113 :: v114 :: v115 :: v116 :: v117 :: v118 :: v119 :: v120 :: v121 :: v122 :: v123 :: v124 :: v125 :: v126 :: v127 :: v128 :: v129 :: v130 :: v131 :: v132 :: v133 :: v134 :: v135 :: v136 :: v137 :: v138 :: v139 :: v140 :: v141 :: v142 :: v143 :: v144 :: v145 :: v146 :: v147 :: v148 :: v149 :: v150 :: v151 :: v152 :: v153 :: v154 :: v155 :: v156 :: v157 :: v158 :: v159 :: v160 :: v161 :: v162 :: v163 :: v164 :: v165 :: v166 :: v167 :: v168 :: v169 :: v170 :: v171 :: v172 :: v173 :: v174 :: v175 :: v176 :: v177 :: v178 :: v179 :: v180 :: v181 :: v182 :: v183 :: v184 :: v185 :: v186 :: v187 :: v188 :: v189 :: v190 :: v191 :: v192 :: v193 :: v194 :: v195 :: v196 :: v197 :: v198 :: v199 :: v200 :: v201 :: v202 :: v203 :: v204 :: v205 :: v206 :: v207 :: v208 :: v209 :: v210 :: v211 :: v212 :: v213 :: v214 :: v215 :: v216 :: v217 :: v218 :: v219 :: v220 :: v221 :: v222 :: v223 :: v224 :: v225 :: v226 :: v227 :: v228 :: v229 :: v230 :: v231 :: v232 :: v233 :: v234 :: v235 :: v236 :: v237 :: v238 :: v239 :: v240 :: v241 :: v242 :: v243 :: v244 :: v245 :: v246 :: v247 :: v248 :: v249 :: v250 :: v251 :: v252 :: v253 :: v254 :: v255 :: v256 :: v257 :: v258 :: v259 :: v260 :: v261 :: v262 :: v263 :: v264 :: v265 :: v266 :: v267 :: v268 :: v269 :: v270 :: v271 :: v272 :: v273 :: v274 :: v275 :: v276 :: v277 :: v278 :: v279 :: v280 :: v281 :: v282 :: v283 :: v284 :: v285 :: v286 :: v287 :: v288 :: v289 :: v290 :: v291 :: v292 :: v293 :: v294 :: v295 :: v296 :: v297 :: v298 :: v299 :: v300 :: v301 :: v302 :: v303 :: v304 :: v305 :: v306 :: v307 :: v308 :: v309 :: v310 :: v311 :: v312 :: v313 :: v314 :: v315 :: v316 :: v317 :: v318 :: v319 :: v320 :: v321 :: v322 :: v323 :: v324 :: v325 :: v326 :: v327 :: v328 :: v329 :: v330 :: v331 :: v332 :: v333 :: v334 :: v335 :: v336 :: v337 :: v338 :: v339 :: v340 :: v341 :: v342 :: v343 :: v344 :: v345 :: v346 :: v347 :: v348 :: v349 :: v350 :: v351 :: v352 :: v353 :: v354 :: v355 :: v356 :: v357 :: v358 :: v359 :: v360 :: v361 :: v362 :: v363 :: v364 :: v365 :: v366 :: v367 :: v368 :: v369 :: v370 :: v371 :: v372 :: v373 :: v374 :: v375 :: v376 :: v377 :: v378 :: v379 :: v380 :: v381 :: v382 :: v383 :: v384 :: v385 :: v386 :: v387 :: v388 :: v389 :: v390 :: v391 :: v392 :: v393 :: v394 :: v395 :: v396 :: v397 :: v398 :: v399 :: v400 :: v401 :: v402 :: v403 :: v404 :: v405 :: v406 :: v407 :: v408 :: v409 :: v410 :: v411 :: v412 :: v413 :: v414 :: v415 :: v416 :: v417 :: v418 :: v419 :: v420 :: v421 :: v422 :: v423 :: v424 :: v425 :: v426 :: v427 :: v428 :: v429 :: v430 :: v431 :: v432 :: v433 :: v434 :: []), defers := [] } W0 := by
 conv => arg 2; whnf
 obtain ⟨da', dn', dc', e0, hdn, hdc, hdm, hx⟩ := hrs.open
 cases e0
 have hdn2 := hdn.out
 have hSt : ∀ i, rulTo rs m0 (i + 1) = altsTo (rs.getD i noRl) (rulTo rs m0 i) (rs.getD i noRl).alts.length := fun i => rfl
 have hS0 : rulTo rs m0 0 = m0 := rfl
 have hNN := MkP.rulTo (rs := rs) hN hsl
 generalize rulTo rs m0 = dt0 at *
 rw [← hdn2] at hK hdl
 have HSt := Lib.hid hSt
 have HNN := Lib.hid hNN
 have HS0 := Lib.hid hS0
 have HSL := Lib.hid hsl
 have HLI := Lib.hid hlit
 have HI0 := Lib.hid h0
 have HKK := Lib.hid hK
 have c0 := cell_of_row _ bS 2 _ _ _ hSB
 simp only [List.getElem?_toArray, List.getElem?_cons_succ, List.getElem?_cons_zero] at c0
 have HC0 := Lib.hid c0
 clear hSt hNN hS0 hsl hlit h0 hdn2 hN hK hSB hrs c0
 go_cut [] from 213 to 247 (fun wx => OfI w0 wx M (dt0 dn))
 case rest =>
  exact HKK.out u16 u17 u213 u214 u215 u216 u217 u218 u219 u220 u221 u222 u223 u224 u225 u226 u227 u228 u229 u230 u231 u232 u233 u234 u235 u236 u237 u238 u239 u240 u241 u242 u243 u244 u245 u246 u247 _ hcut
 case first =>
  clear HKK
  go_wp2_with fail
  go_loopw [16] (fun x16 W => ∃ i : Nat, i ≤ dn ∧ x16 = .int .i64 i ∧ Hid (OfI w0 W M (dt0 i))) (fun x16 _ => dn - (intOf x16).toNat)
  case atStart => exact ⟨0, Nat.zero_le _, rfl, by rw [HS0.out]; exact HI0⟩
  case round =>
   clear HI0
   obtain ⟨i, hi, rfl, HI⟩ := hrel
   rename World => W
   have hlow := HI.out.low
   have c1 := cell_up hlow HC0.out
   by_cases hlt : i < dn
   · obtain ⟨b, o, ⟨rl, ras, rp⟩, av, e2, hx0, hav, y0, y1, y2⟩ := hx.out i hlt
     subst e2
     simp only at hav y0 y1 y2
     obtain ⟨sa, sn, sc, e3, hsn, hsc, hsm, hsx⟩ := hav.open
     subst e3
     have i1 : (i : Int) < (dn : Int) := by omega
     have hgx : rs.getD i noRl = ⟨rl, ras, rp⟩ := by rw [List.getD_eq_getElem?_getD, hx0]; rfl
     have hmem := List.mem_of_getElem? hx0
     have hsl := HSL.out _ hmem
     have HLX := Lib.hid (HLI.out _ hmem)
     have hs := HSt.out i
     rw [hgx] at hs
     have hN1 := HNN.out i
     simp only at hsl hs
     have hsn2 := hsn.out
     rw [← hsn2] at hs hsl
     generalize dt0 i = s1 at *
     have HN3 := Lib.hid (fun k => MkP.altsTo (r := ⟨rl, ras, rp⟩) hN1 hsl.2 k)
     have hs20 := hsl.1
     have HPL := Lib.hid hsl.2
     have HSE := Lib.hid hs
     have Y0 := Lib.hid y0
     have Y1 := Lib.hid y1
     clear y0 y1 y2 hgx hmem hx0 hs hN1 hav hsn2 hsl hlow
     go_upto_block 12 with fail
     clear c1
     have HI1 : Hid (OfI w0 W M (altsTo ⟨rl, ras, rp⟩ s1 0)) := HI
     clear HI
     go_wp2_with fail
     go_loopw [17] (fun x17 V => ∃ k : Nat, k ≤ sn ∧ x17 = .int .i64 k ∧ Hid (OfI w0 V M (altsTo ⟨rl, ras, rp⟩ s1 k))) (fun x17 _ => sn - (intOf x17).toNat)
     case atStart => exact ⟨0, Nat.zero_le _, rfl, HI1⟩
     case round =>
      clear HI1
      obtain ⟨k, hk, rfl, HV⟩ := hrel
      rename World => V
      have hlV := HV.out.low
      have c1 := cell_up hlV HC0.out
      have z0 := cell_up hlV Y0.out
      have z1 := cell_up hlV Y1.out
      by_cases hlk : k < sn
      · obtain ⟨sb, so, ⟨aps, ⟨xn, xl, xm, xp⟩, ap⟩, pv, e4, hy0, hpv, y0, y1, y2, y3, y4, y5⟩ := hsx.out k hlk
        subst e4
        simp only at y0 y1 y2 y3 y4 y5 hpv
        obtain ⟨pa, pn, pc, e5, _, _, _, _⟩ := hpv.open
        subst e5
        have i2 : (k : Int) < (sn : Int) := by omega
        have YY : Hid (w0.cell? ⟨bS, 2, none⟩ = some (.slice (some ⟨b, o, none⟩) dn dc) ∧ w0.cell? ⟨b, o + i * 3, none⟩ = some (.string rl) ∧ w0.cell? ⟨b, o + i * 3 + 1, none⟩ = some (.slice (some ⟨sb, so, none⟩) sn sc) ∧ w0.cell? ⟨sb, so + k * 6, none⟩ = some (.slice pa pn pc) ∧ w0.cell? ⟨sb, so + k * 6 + 1, none⟩ = some (.string xn) ∧ w0.cell? ⟨sb, so + k * 6 + 2, none⟩ = some (.bool xl) ∧ w0.cell? ⟨sb, so + k * 6 + 3, none⟩ = some (.int .i64 xm) ∧ w0.cell? ⟨sb, so + k * 6 + 4, none⟩ = some (.int .i64 xp) ∧ w0.cell? ⟨sb, so + k * 6 + 5, none⟩ = some (.int .i64 ap)) := Lib.hid ⟨HC0.out, Y0.out, Y1.out, y0, y1, y2, y3, y4, y5⟩
        have hgs : ras.getD k noAl = ⟨aps, ⟨xn, xl, xm, xp⟩, ap⟩ := by rw [List.getD_eq_getElem?_getD, hy0]; rfl
        have hst : altsTo ⟨rl, ras, rp⟩ s1 (k + 1) = (altsTo ⟨rl, ras, rp⟩ s1 k).alt rl (ras.getD k noAl) := rfl
        rw [hgs] at hst
        have hxl := HLX.out _ (List.mem_of_getElem? hy0)
        have hpl := HPL.out _ (List.mem_of_getElem? hy0)
        simp only at hxl hpl
        have hN4 := HN3.out k
        generalize altsTo ⟨rl, ras, rp⟩ s1 k = sk at *
        have HST := Lib.hid hst
        have HN4 := Lib.hid hN4
        have HXL := Lib.hid hxl
        have HPV := Lib.hid (fun V (hV : Below w0.heap.size w0 V) => hpv.below hV)
        have HDc := Lib.hid (fun U (hU : Below V.heap.size V U) => (HV.out.below hU).alt rl (.slice pa pn pc) ⟨aps, ⟨xn, xl, xm, xp⟩, ap⟩ HPV.out HXL.out.1 HXL.out.2 (by simp only; omega) (by have := HN4.out.tk; omega) HN4.out.gv (by have := HN4.out.lf; omega) (by have := HN4.out.pd; omega) (by have := HN4.out.nn; omega))
        simp only at HDc
        have SW : V.drew.cell? ⟨bS, 2, none⟩ = some (.slice (some ⟨b, o, none⟩) dn dc) ∧ V.drew.cell? ⟨b, o + i * 3, none⟩ = some (.string rl) ∧ V.drew.cell? ⟨b, o + i * 3 + 1, none⟩ = some (.slice (some ⟨sb, so, none⟩) sn sc) ∧ V.drew.cell? ⟨sb, so + k * 6, none⟩ = some (.slice pa pn pc) ∧ V.drew.cell? ⟨sb, so + k * 6 + 1, none⟩ = some (.string xn) ∧ V.drew.cell? ⟨sb, so + k * 6 + 2, none⟩ = some (.bool xl) ∧ V.drew.cell? ⟨sb, so + k * 6 + 3, none⟩ = some (.int .i64 xm) ∧ V.drew.cell? ⟨sb, so + k * 6 + 4, none⟩ = some (.int .i64 xp) ∧ V.drew.cell? ⟨sb, so + k * 6 + 5, none⟩ = some (.int .i64 ap) := ⟨cell_up hlV.drew YY.out.1, cell_up hlV.drew YY.out.2.1, cell_up hlV.drew YY.out.2.2.1, cell_up hlV.drew YY.out.2.2.2.1, cell_up hlV.drew YY.out.2.2.2.2.1, cell_up hlV.drew YY.out.2.2.2.2.2.1, cell_up hlV.drew YY.out.2.2.2.2.2.2.1, cell_up hlV.drew YY.out.2.2.2.2.2.2.2.1, cell_up hlV.drew YY.out.2.2.2.2.2.2.2.2⟩
        clear y0 y1 y2 y3 y4 y5 hgs hst hxl hy0 hN4 hpv hlV hpl
        have w3 := cell_up HV.out.low YY.out.2.2.2.1
        go_upto_region 46 with fail
        refine wp_region_held_drew (S := (fun Xw => Xw.cell? ⟨bS, 2, none⟩ = some (.slice (some ⟨b, o, none⟩) dn dc) ∧ Xw.cell? ⟨b, o + i * 3, none⟩ = some (.string rl) ∧ Xw.cell? ⟨b, o + i * 3 + 1, none⟩ = some (.slice (some ⟨sb, so, none⟩) sn sc) ∧ Xw.cell? ⟨sb, so + k * 6, none⟩ = some (.slice pa pn pc) ∧ Xw.cell? ⟨sb, so + k * 6 + 1, none⟩ = some (.string xn) ∧ Xw.cell? ⟨sb, so + k * 6 + 2, none⟩ = some (.bool xl) ∧ Xw.cell? ⟨sb, so + k * 6 + 3, none⟩ = some (.int .i64 xm) ∧ Xw.cell? ⟨sb, so + k * 6 + 4, none⟩ = some (.int .i64 xp) ∧ Xw.cell? ⟨sb, so + k * 6 + 5, none⟩ = some (.int .i64 ap))) (by kernel_rfl) ?hS0 (fun hHeld => ?hR0)
        case hS0 => exact SW
        case hR0 =>
         refine tk 0 ?_
         try simp only [Act.put, gA, gB, gC, gD, gE, gF]
         refine tk 1 ?_
         try simp only [Act.put, gA, gB, gC, gD, gE, gF]
         refine tk 2 ?_
         try simp only [Act.put, gA, gB, gC, gD, gE, gF]
         refine tk 3 ?_
         try simp only [Act.put, gA, gB, gC, gD, gE, gF]
         refine tk 4 ?_
         try simp only [Act.put, gA, gB, gC, gD, gE, gF]
         refine tk 5 ?_
         try simp only [Act.put, gA, gB, gC, gD, gE, gF]
         refine tk 6 ?_
         try simp only [Act.put, gA, gB, gC, gD, gE, gF]
         refine tk 7 ?_
         try simp only [Act.put, gA, gB, gC, gD, gE, gF]
         refine tk 8 ?_
         try simp only [Act.put, gA, gB, gC, gD, gE, gF]
         refine tk 9 ?_
         try simp only [Act.put, gA, gB, gC, gD, gE, gF]
         refine tk 10 ?_
         try simp only [Act.put, gA, gB, gC, gD, gE, gF]
         refine tk 11 ?_
         try simp only [Act.put, gA, gB, gC, gD, gE, gF]
         refine tk 12 ?_
         try simp only [Act.put, gA, gB, gC, gD, gE, gF]
         refine tk 13 ?_
         try simp only [Act.put, gA, gB, gC, gD, gE, gF]
         refine tk 14 ?_
         try simp only [Act.put, gA, gB, gC, gD, gE, gF]
         refine tk 15 ?_
         try simp only [Act.put, gA, gB, gC, gD, gE, gF]
         refine wpAnyH_ready (rs := [16]) (by kernel_rfl) (by simp) ?_
         refine AllReadyH.cons rfl (fun K hK => ?_) .nil
         try simp only [gA, gB, gC]
         go_simp
         go_at_call 48
         (with_reducible refine (HDc.out _ (Below.refl V.heap.size V).drew).mono ?_)
         rintro e w9 ⟨rfl, hB9⟩
         have hl9 := hB9.low
         have S9 : w9.cell? ⟨bS, 2, none⟩ = some (.slice (some ⟨b, o, none⟩) dn dc) ∧ w9.cell? ⟨b, o + i * 3, none⟩ = some (.string rl) ∧ w9.cell? ⟨b, o + i * 3 + 1, none⟩ = some (.slice (some ⟨sb, so, none⟩) sn sc) ∧ w9.cell? ⟨sb, so + k * 6, none⟩ = some (.slice pa pn pc) ∧ w9.cell? ⟨sb, so + k * 6 + 1, none⟩ = some (.string xn) ∧ w9.cell? ⟨sb, so + k * 6 + 2, none⟩ = some (.bool xl) ∧ w9.cell? ⟨sb, so + k * 6 + 3, none⟩ = some (.int .i64 xm) ∧ w9.cell? ⟨sb, so + k * 6 + 4, none⟩ = some (.int .i64 xp) ∧ w9.cell? ⟨sb, so + k * 6 + 5, none⟩ = some (.int .i64 ap) := ⟨cell_up hl9 YY.out.1, cell_up hl9 YY.out.2.1, cell_up hl9 YY.out.2.2.1, cell_up hl9 YY.out.2.2.2.1, cell_up hl9 YY.out.2.2.2.2.1, cell_up hl9 YY.out.2.2.2.2.2.1, cell_up hl9 YY.out.2.2.2.2.2.2.1, cell_up hl9 YY.out.2.2.2.2.2.2.2.1, cell_up hl9 YY.out.2.2.2.2.2.2.2.2⟩
         have HB9 := Lib.hid hB9
         clear hB9 hl9
         go_wp2_with fail
         refine hK.out _ _ S9 (fun hHeld => ?_)
         clear hK K
         try simp only [Act.put, gA, gB, gC, gD, gE, gF]
         refine wpAnyH_done (by kernel_rfl) ?_ _
         go_wp2_with fail
         go_round
         case rel => exact ⟨k + 1, by omega, by go_num, by rw [HST.out]; exact HB9⟩
         case measure => simp [intOf]; omega
      · have i2 : ¬ (k : Int) < (sn : Int) := by omega
        obtain rfl : k = sn := by omega
        clear hlV
        go_wp2_with fail
        go_round
        case rel => exact ⟨i + 1, by omega, by go_num, by rw [HSE.out]; exact HV⟩
        case measure => simp [intOf]; omega
   · have i1 : ¬ (i : Int) < (dn : Int) := by omega
     obtain rfl : i = dn := by omega
     clear hlow
     go_wp2_with fail
     go_meet
     case rel => exact HI.out
end Go.Proofs.Ytkgbifbbpmdpgaa
