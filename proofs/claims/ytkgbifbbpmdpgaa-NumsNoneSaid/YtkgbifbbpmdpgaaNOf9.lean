/- Of: the declarations. -/
import Derived.Test.YtkgbifbbpmdpgaaNOfQ
set_option linter.unusedVariables false
set_option linter.unusedSimpArgs false
namespace Go.Proofs.Ytkgbifbbpmdpgaa

open List renaming getElem_toArray → gA, getElem_cons_succ → gB, getElem_cons_zero → gC, setIfInBounds_toArray → gD, set_cons_zero → gE, set_cons_succ → gF
open Go.RowKit
def OfB (w0 w : World) (M : Nat) (m : Mk) (Q : Nat) (o : Obj) : Prop := ∃ F S, MkV w w0.heap.size M F S m ∧ Below w0.heap.size w0 w ∧ ¬ F Q ∧ w.heap[Q]? = some o
section
variable {w0 w w' : World} {M Q : Nat} {m m' : Mk} {o : Obj}
theorem OfI.box (h : OfI w0 w M m) (o : Obj) : OfB w0 (w.alloc o) M m w.heap.size o := by
 obtain ⟨F, S, h1, h2⟩ := h
 have hb := (Below.refl w.heap.size w).alloc (Nat.le_refl _) o
 exact ⟨F, S, h1.below hb, h2.trans (hb.mono h2.size), fun hF => Nat.lt_irrefl _ (h1.lt _ (.inl hF)).2, heap_alloc_new w o⟩
theorem OfB.out (h : OfB w0 w M m Q o) : OfI w0 w M m := by obtain ⟨F, S, h1, h2, _, _⟩ := h; exact ⟨F, S, h1, h2⟩
theorem OfB.row (h : OfB w0 w M m Q o) : w.heap[Q]? = some o := by obtain ⟨F, S, h1, h2, _, h3⟩ := h; exact h3
theorem OfB.below (h : OfB w0 w M m Q o) (hb : Below w.heap.size w w') : OfB w0 w' M m Q o := by
 obtain ⟨F, S, h1, h2, h3, h4⟩ := h
 exact ⟨F, S, h1.below hb, h2.trans (hb.mono h2.size), h3, (hb.block Q (Array.getElem?_eq_some_iff.1 h4).1).trans h4⟩
theorem OfB.goes {F S : Nat → Prop} {r : Value} {e : Ending} (h1 : MkV w w0.heap.size M F S m) (h2 : Below w0.heap.size w0 w) (h3 : ¬ F Q) (h4 : w.heap[Q]? = some o) (h : Goes w w0.heap.size M F S m' r e w') : e = .returned r ∧ OfB w0 w' M m' Q o := by
 obtain ⟨F', e, a, b, c⟩ := h
 have hl := (Array.getElem?_eq_some_iff.1 h4).1
 exact ⟨e, F', S, a, h2.trans (c.below (fun b hb => (h1.lt b (.inl hb)).1) h2.size), fun hF => (b Q hF).elim h3 (fun h => by omega), (c.block Q hl h3).trans h4⟩
theorem OfB.declare (h : OfB w0 w M m Q o) (dv : Value) (d : Dc) (hdv : DcV w dv d) (x : Sm) (hk : 1 ≤ d.kind ∧ d.kind ≤ 5) (hx : x.lit = true → 1 ≤ x.name.size) (hn : m.toks.length ≤ 900000) (hl : m.given.length = m.toks.length) (hty : m.types.length ≤ 1000000) :
  Calls Try.prog 44 #[.pointer (some ⟨M, 0, none⟩), dv, x.agg] w (fun e w' => e = .returned (.tuple #[]) ∧ OfB w0 w' M (m.declare d x) Q o) := by
 obtain ⟨F, S, h1, h2, h3, h4⟩ := h
 exact (declare_any h1 dv d hdv x hk hx hn hl hty).mono (fun e w' hg => OfB.goes h1 h2 h3 h4 hg)
theorem OfB.fail (h : OfB w0 w M m Q o) (p : Int) (n : ByteArray) : Calls Try.prog 45 #[.pointer (some ⟨M, 0, none⟩), .int .i64 p, .string n] w (fun e w' => e = .returned (.tuple #[]) ∧ OfB w0 w' M (m.fail p n) Q o) := by
 obtain ⟨F, S, h1, h2, h3, h4⟩ := h
 exact (fail_any h1 p n).mono (fun e w' hg => OfB.goes h1 h2 h3 h4 hg)
theorem OfB.level (h : OfB w0 w M m Q o) : w.cell? ⟨M, 11, none⟩ = some (.int .i64 m.level) ∧ w.frozen? ⟨M, 11, none⟩ = false ∧ ∀ q : Int, OfB w0 (w.setCell ⟨M, 11, none⟩ (.int .i64 q)) M { m with level := q } Q o := by
 obtain ⟨F, S, h1, h2, h3, h4⟩ := h
 obtain ⟨tv, pv, gv, yv, lv, ys, hFi, hO⟩ := h1.opened
 refine ⟨hO.1.cell 11, hO.1.free 11, fun q => ⟨F, S, ⟨⟨tv, pv, gv, yv, lv, ys, hFi, StW.put hO.1 11 (.int .i64 q), hO.2.frame (D := fun b => b = M) (Fr.set w _ _ rfl) (fun b hS e => (hO.1.low b hS).2.2 e)⟩⟩, h2.trans ((Fr.set (D := fun b => b = M) w ⟨M, 11, none⟩ _ rfl).below (fun b hb => by rw [hb]; exact hO.1.mB) h2.size), h3, ?_⟩⟩
 exact (Below.heap_setCell w ⟨M, 11, none⟩ _ Q (fun e => h3 ((hFi Q).2 (.inl e)))).trans h4
end
set_option maxRecDepth 100000 in
set_option maxHeartbeats 40000000 in
theorem of_decls {w0 W0 : World} {M bS : Nat} {ds : List Dc} {da : Option Addr} {dn dc : Nat} {sp stl : ByteArray} {rsv : Value} {s0 : Mk × ByteArray}
  {v0 v2 v3 v4 v5 v9 v10 v11 v12 v13 v14 v15 v16 v17 v18 v19 v20 v21 v22 v23 v24 v25 v26 v27 v28 v29 v30 v31 v32 v33 v34 v35 v36 v37 v38 v39 v40 v41 v42 v43 v44 v45 v46 v47 v48 v49 v50 v51 v52 v53 v54 v55 v56 v57 v58 v59 v60 v61 v62 v63 v64 v65 v66 v67 v68 v69 v70 v71 v72 v73 v74 v75 v76 v77 v78 v79 v80 v81 v82 v83 v84 v85 v86 v87 v88 v89 v90 v91 v92 v93 v94 v95 v96 v97 v98 v99 v100 v101 v102 v103 v104 v105 v106 v107 v108 v109 v110 v111 v112 v113 v114 v115 v116 v117 v118 v119 v120 v121 v122 v123 v124 v125 v126 v127 v128 v129 v130 v131 v132 v133 v134 v135 v136 v137 v138 v139 v140 v141 v142 v143 v144 v145 v146 v147 v148 v149 v150 v151 v152 v153 v154 v155 v156 v157 v158 v159 v160 v161 v162 v163 v164 v165 v166 v167 v168 v169 v170 v171 v172 v173 v174 v175 v176 v177 v178 v179 v180 v181 v182 v183 v184 v185 v186 v187 v188 v189 v190 v191 v192 v193 v194 v195 v196 v197 v198 v199 v200 v201 v202 v203 v204 v205 v206 v207 v208 v209 v210 v211 v212 v213 v214 v215 v216 v217 v218 v219 v220 v221 v222 v223 v224 v225 v226 v227 v228 v229 v230 v231 v232 v233 v234 v235 v236 v237 v238 v239 v240 v241 v242 v243 v244 v245 v246 v247 v248 v249 v250 v251 v252 v253 v254 v255 v256 v257 v258 v259 v260 v261 v262 v263 v264 v265 v266 v267 v268 v269 v270 v271 v272 v273 v274 v275 v276 v277 v278 v279 v280 v281 v282 v283 v284 v285 v286 v287 v288 v289 v290 v291 v292 v293 v294 v295 v296 v297 v298 v299 v300 v301 v302 v303 v304 v305 v306 v307 v308 v309 v310 v311 v312 v313 v314 v315 v316 v317 v318 v319 v320 v321 v322 v323 v324 v325 v326 v327 v328 v329 v330 v331 v332 v333 v334 v335 v336 v337 v338 v339 v340 v341 v342 v343 v344 v345 v346 v347 v348 v349 v350 v351 v352 v353 v354 v355 v356 v357 v358 v359 v360 v361 v362 v363 v364 v365 v366 v367 v368 v369 v370 v371 v372 v373 v374 v375 v376 v377 v378 v379 v380 v381 v382 v383 v384 v385 v386 v387 v388 v389 v390 v391 v392 v393 v394 v395 v396 v397 v398 v399 v400 v401 v402 v403 v404 v405 v406 v407 v408 v409 v410 v411 v412 v413 v414 v415 v416 v417 v418 v419 v420 v421 v422 v423 v424 v425 v426 v427 v428 v429 v430 v431 v432 v433 v434 : Value} {K : Act → World → Prop} {RE : Ending → World → Prop}
  (hds : DcsV w0 (.slice da dn dc) ds) (hSB : w0.heap[bS]? = some (.cells #[.string sp, .slice da dn dc, rsv, .string stl] 25 (0, 0)))
  (h0 : OfI w0 W0 M s0.1) (hN : MkN s0.1 3 0 0 0) (hdl : ds.length ≤ 300) (hsl : ∀ d ∈ ds, d.syms.length ≤ 300) (hkd : ∀ d ∈ ds, 1 ≤ d.kind ∧ d.kind ≤ 6) (hlit : ∀ d ∈ ds, ∀ x ∈ d.syms, x.lit = true → 1 ≤ x.name.size)
  (hK : ∀ (x8 x9 x10 x41 x42 x43 x44 x45 x46 x47 x48 x49 x50 x51 x52 x53 x54 x55 x56 x57 x58 x59 x60 x61 x62 x63 x64 x65 x66 x67 x68 x69 x70 x71 x72 x73 x74 x75 x76 x77 x78 x79 x80 x81 x82 x83 x84 x85 x86 x87 x88 x89 x90 x91 x92 x93 x94 x95 x96 x97 x98 x99 x100 x101 x102 x103 x104 x105 x106 x107 : Value) (wx : World), OfI w0 wx M (dclTo ds s0 ds.length).1 → K { tmps := List.toArray (v0 :: (.pointer (some ⟨bS, 0, none⟩) : Value) :: v2 :: v3 :: v4 :: v5 :: (.pointer (some ⟨M, 0, none⟩) : Value) :: (.string (dclTo ds s0 ds.length).2 : Value) :: x8 :: x9 :: x10 :: v11 :: v12 :: v13 :: v14 :: v15 :: v16 :: v17 :: v18 :: v19 :: v20 :: v21 :: v22 :: v23 :: v24 :: v25 :: v26 :: v27 :: v28 :: v29 :: v30 :: v31 :: v32 :: v33 :: v34 :: v35 :: v36 :: v37 :: v38 :: v39 :: v40 :: x41 :: x42 :: x43 :: x44 :: x45 :: x46 :: x47 :: x48 :: x49 :: x50 :: x51 :: x52 :: x53 :: x54 :: x55 :: x56 :: x57 :: x58 :: x59 :: x60 :: x61 :: x62 :: x63 :: x64 :: x65 :: x66 :: x67 :: x68 :: x69 :: x70 :: x71 :: x72 :: x73 :: x74 :: x75 :: x76 :: x77 :: x78 :: x79 :: x80 :: x81 :: x82 :: x83 :: x84 :: x85 :: x86 :: x87 :: x88 :: x89 :: x90 :: x91 :: x92 :: x93 :: x94 :: x95 :: x96 :: x97 :: x98 :: x99 :: x100 :: x101 :: x102 :: x103 :: x104 :: x105 :: x106 :: x107 :: v108 :: v109 :: v110 :: v111 :: v112 :: v113 :: v114 :: v115 :: v116 :: v117 :: v118 :: v119 :: v120 :: v121 :: v122 :: v123 :: v124 :: v125 :: v126 :: v127 :: v128 :: v129 :: v130 :: v131 :: v132 :: v133 :: v134 :: v135 :: v136 :: v137 :: v138 :: v139 :: v140 :: v141 :: v142 :: v143 :: v144 :: v145 :: v146 :: v147 :: v148 :: v149 :: v150 :: v151 :: v152 :: v153 :: v154 :: v155 :: v156 :: v157 :: v158 :: v159 :: v160 :: v161 :: v162 :: v163 :: v164 :: v165 :: v166 :: v167 :: v168 :: v169 :: v170 :: v171 :: v172 :: v173 :: v174 :: v175 :: v176 :: v177 :: v178 :: v179 :: v180 :: v181 :: v182 :: v183 :: v184 :: v185 :: v186 :: v187 :: v188 :: v189 :: v190 :: v191 :: v192 :: v193 :: v194 :: v195 :: v196 :: v197 :: v198 :: v199 :: v200 :: v201 :: v202 :: v203 :: v204 :: v205 :: v206 :: v207 :: v208 :: v209 :: v210 :: v211 :: v212 :: v213 :: v214 :: v215 :: v216 :: v217 :: v218 :: v219 :: v220 :: v221 :: v222 :: v223 :: v224 :: v225 :: v226 :: v227 :: v228 :: v229 :: v230 :: v231 :: v232 :: v233 :: v234 :: v235 :: v236 :: v237 :: v238 :: v239 :: v240 :: v241 :: v242 :: v243 :: v244 :: v245 :: v246 :: v247 :: v248 :: v249 :: v250 :: v251 :: v252 :: v253 :: v254 :: v255 :: v256 :: v257 :: v258 :: v259 :: v260 :: v261 :: v262 :: v263 :: v264 :: v265 :: v266 :: v267 :: v268 :: v269 :: v270 :: v271 :: v272 :: v273 :: v274 :: v275 :: v276 :: v277 :: v278 :: v279 :: v280 :: v281 :: v282 :: v283 :: v284 :: v285 :: v286 :: v287 :: v288 :: v289 :: v290 :: v291 :: v292 :: v293 :: v294 :: v295 :: v296 :: v297 :: v298 :: v299 :: v300 :: v301 :: v302 :: v303 :: v304 :: v305 :: v306 :: v307 :: v308 :: v309 :: v310 :: v311 :: v312 :: v313 :: v314 :: v315 :: v316 :: v317 :: v318 :: v319 :: v320 :: v321 :: v322 :: v323 :: v324 :: v325 :: v326 :: v327 :: v328 :: v329 :: v330 :: v331 :: v332 :: v333 :: v334 :: v335 :: v336 :: v337 :: v338 :: v339 :: v340 :: v341 :: v342 :: v343 :: v344 :: v345 :: v346 :: v347 :: v348 :: v349 :: v350 :: v351 :: v352 :: v353 :: v354 :: v355 :: v356 :: v357 :: v358 :: v359 :: v360 :: v361 :: v362 :: v363 :: v364 :: v365 :: v366 :: v367 :: v368 :: v369 :: v370 :: v371 :: v372 :: v373 :: v374 :: v375 :: v376 :: v377 :: v378 :: v379 :: v380 :: v381 :: v382 :: v383 :: v384 :: v385 :: v386 :: v387 :: v388 :: v389 :: v390 :: v391 :: v392 :: v393 :: v394 :: v395 :: v396 :: v397 :: v398 :: v399 :: v400 :: v401 :: v402 :: v403 :: v404 :: v405 :: v406 :: v407 :: v408 :: v409 :: v410 :: v411 :: v412 :: v413 :: v414 :: v415 :: v416 :: v417 :: v418 :: v419 :: v420 :: v421 :: v422 :: v423 :: v424 :: v425 :: v426 :: v427 :: v428 :: v429 :: v430 :: v431 :: v432 :: v433 :: v434 :: []), defers := [] } wx) :
  Code.wp Try.prog ((blkOf 0 (Try.f35.body.getD .skip)).getD .skip) (Exit.then K (bodyPost Try.prog Try.f35 RE)) { tmps := List.toArray (v0 :: (.pointer (some ⟨bS, 0, none⟩) : Value) :: v2 :: v3 :: v4 :: v5 :: (.pointer (some ⟨M, 0, none⟩) : Value) :: (.string s0.2 : Value) :: (.int .i64 0 : Value) :: v9 :: v10 :: v11 :: v12 :: v13 :: v14 :: v15 :: v16 :: v17 :: v18 :: v19 :: v20 :: v21 :: v22 :: v23 :: v24 :: v25 :: v26 :: v27 :: v28 :: v29 :: v30 :: v31 :: v32 :: v33 :: v34 :: v35 :: v36 :: v37 :: v38 :: v39 :: v40 :: v41 :: v42 :: v43 :: v44 :: v45 :: v46 :: v47 :: v48 :: v49 :: v50 :: v51 :: v52 :: v53 :: v54 :: v55 :: v56 :: v57 :: v58 :: v59 :: v60 :: v61 :: v62 :: v63 :: v64 :: v65 :: v66 :: v67 :: v68 :: v69 :: v70 :: v71 :: v72 :: v73 :: v74 :: v75 :: v76 :: v77 :: v78 :: v79 :: v80 :: v81 :: v82 :: v83 :: v84 :: v85 :: v86 :: v87 :: v88 :: v89 :: v90 :: v91 :: v92 :: v93 :: v94 :: v95 :: v96 :: v97 :: v98 :: v99 :: v100 :: v101 :: v102 :: v103 :: v104 :: v105 :: v106 :: v107 :: v108 :: v109 :: v110 :: v111 :: v112 :: v113 :: v114 :: v115 :: v116 :: v117 :: v118 :: v119 :: v120 :: v121 :: v122 :: v123 :: v124 :: v125 :: v126 :: v127 :: v128 :: v129 :: v130 :: v131 :: v132 :: v133 :: v134 :: v135 :: v136 :: v137 :: v138 :: v139 :: v140 :: v141 :: v142 :: v143 :: v144 :: v145 :: v146 :: v147 :: v148 :: v149 :: v150 :: v151 :: v152 :: v153 :: v154 :: v155 :: v156 :: v157 :: v158 :: v159 :: v160 :: v161 :: v162 :: v163 :: v164 :: v165 :: v166 :: v167 :: v168 :: v169 :: v170 :: v171 :: v172 :: v173 :: v174 :: v175 :: v176 :: v177 :: v178 :: v179 :: v180 :: v181 :: v182 :: v183 :: v184 :: v185 :: v186 :: v187 :: v188 :: v189 :: v190 :: v191 :: v192 :: v193 :: v194 :: v195 :: v196 :: v197 :: v198 :: v199 :: v200 :: v201 :: v202 :: v203 :: v204 :: v205 :: v206 :: v207 :: v208 :: v209 :: v210 :: v211 :: v212 :: v213 :: v214 :: v215 :: v216 :: v217 :: v218 :: v219 :: v220 :: v221 :: v222 :: v223 :: v224 :: v225 :: v226 :: v227 :: v228 :: v229 :: v230 :: v231 :: v232 :: v233 :: v234 :: v235 :: v236 :: v237 :: v238 :: v239 :: v240 :: v241 :: v242 :: v243 :: v244 :: v245 :: v246 :: v247 :: v248 :: v249 :: v250 :: v251 :: v252 :: v253 :: v254 :: v255 :: v256 :: v257 :: v258 :: v259 :: v260 :: v261 :: v262 :: v263 :: v264 :: v265 :: v266 :: v267 :: v268 :: v269 :: v270 :: v271 :: v272 :: v273 :: v274 :: v275 :: v276 :: v277 :: v278 :: v279 :: v280 :: v281 :: v282 :: v283 :: v284 :: v285 :: v286 :: v287 :: v288 :: v289 :: v290 :: v291 :: v292 :: v293 :: v294 :: v295 :: v296 :: v297 :: v298 :: v299 :: v300 :: v301 :: v302 :: v303 :: v304 :: v305 :: v306 :: v307 :: v308 :: v309 :: v310 :: v311 :: v312 :: v313 :: v314 :: v315 :: v316 :: v317 :: v318 :: v319 :: v320 :: v321 :: v322 :: v323 :: v324 :: v325 :: v326 :: v327 :: v328 :: v329 :: v330 :: v331 :: v332 :: v333 :: v334 :: v335 :: v336 :: v337 :: v338 :: v339 :: v340 :: v341 :: v342 :: v343 :: v344 :: v345 :: v346 :: v347 :: v348 :: v349 :: v350 :: v351 :: v352 :: v353 :: v354 :: v355 :: v356 :: v357 :: v358 :: v359 :: v360 :: v361 :: v362 :: v363 :: v364 :: v365 :: v366 :: v367 :: v368 :: v369 :: v370 :: v371 :: v372 :: v373 :: v374 :: v375 :: v376 :: v377 :: v378 :: v379 :: v380 :: v381 :: v382 :: v383 :: v384 :: v385 :: v386 :: v387 :: v388 :: v389 :: v390 :: v391 :: v392 :: v393 :: v394 :: v395 :: v396 :: v397 :: v398 :: v399 :: v400 :: v401 :: v402 :: v403 :: v404 :: v405 :: v406 :: v407 :: v408 :: v409 :: v410 :: v411 :: v412 :: v413 :: v414 :: v415 :: v416 :: v417 :: v418 :: v419 :: v420 :: v421 :: v422 :: v423 :: v424 :: v425 :: v426 :: v427 :: v428 :: v429 :: v430 :: v431 :: v432 :: v433 :: v434 :: []), defers := [] } W0 := by
 conv => arg 2; whnf
 obtain ⟨da', dn', dc', e0, hdn, hdc, hdm, hx⟩ := hds.open
 cases e0
 have hdn2 := hdn.out
 have hSt : ∀ i, dclTo ds s0 (i + 1) = symTo (ds.getD i noDc) (levUp (ds.getD i noDc) (dclTo ds s0 i).1, (dclTo ds s0 i).2) (ds.getD i noDc).syms.length := fun i => rfl
 have hS0 : dclTo ds s0 0 = s0 := rfl
 have hNN := MkN.dclTo (ds := ds) hN hsl
 generalize dclTo ds s0 = dt0 at *
 rw [← hdn2] at hK hdl
 have HSt := Lib.hid hSt
 have HNN := Lib.hid hNN
 have HS0 := Lib.hid hS0
 have HSL := Lib.hid hsl
 have HKD := Lib.hid hkd
 have HLI := Lib.hid hlit
 have HI0 := Lib.hid h0
 have HKK := Lib.hid hK
 have HSB := Lib.hid hSB
 clear hSt hNN hS0 hsl hkd hlit h0 hdn2 hN hK hSB hds
 go_cut [7] from 41 to 107 (fun (x7 : Value) wx => x7 = .string (dt0 dn).2 ∧ OfI w0 wx M (dt0 dn).1)
 case rest =>
  obtain ⟨rfl, hI⟩ := hcut
  exact HKK.out u8 u9 u10 u41 u42 u43 u44 u45 u46 u47 u48 u49 u50 u51 u52 u53 u54 u55 u56 u57 u58 u59 u60 u61 u62 u63 u64 u65 u66 u67 u68 u69 u70 u71 u72 u73 u74 u75 u76 u77 u78 u79 u80 u81 u82 u83 u84 u85 u86 u87 u88 u89 u90 u91 u92 u93 u94 u95 u96 u97 u98 u99 u100 u101 u102 u103 u104 u105 u106 u107 _ hI
 case first =>
  clear HKK
  go_wp2_with fail
  go_loopw [7, 8] (fun x7 x8 W => ∃ i : Nat, i ≤ dn ∧ x8 = .int .i64 i ∧ x7 = .string (dt0 i).2 ∧ Hid (OfI w0 W M (dt0 i).1)) (fun _ x8 _ => dn - (intOf x8).toNat)
  case atStart => exact ⟨0, Nat.zero_le _, rfl, by rw [HS0.out], by rw [HS0.out]; exact HI0⟩
  case round =>
   clear HI0
   obtain ⟨i, hi, rfl, rfl, HI⟩ := hrel
   rename World => W
   have hlow := HI.out.low
   have c1 := cell_of_row _ bS 1 _ _ _ ((hlow.block bS (Array.getElem?_eq_some_iff.1 HSB.out).1).trans HSB.out)
   simp only [List.getElem?_toArray, List.getElem?_cons_succ, List.getElem?_cons_zero] at c1
   by_cases hlt : i < dn
   · obtain ⟨b, o, ⟨dk, dt, dsy, dp⟩, sv, e2, hx0, hsv, y0, y1, y2, y3⟩ := hx.out i hlt
     subst e2
     simp only at hsv y0 y1 y2 y3
     obtain ⟨sa, sn, sc, e3, hsn, hsc, hsm, hsx⟩ := hsv.open
     subst e3
     have i1 : (i : Int) < (dn : Int) := by omega
     have z0 := cell_up hlow y0
     have z1 := cell_up hlow y1
     have z2 := cell_up hlow y2
     have z3 := cell_up hlow y3
     have hgx : ds.getD i noDc = ⟨dk, dt, dsy, dp⟩ := by rw [List.getD_eq_getElem?_getD, hx0]; rfl
     have hmem := List.mem_of_getElem? hx0
     have hsl := HSL.out _ hmem
     have hkd := HKD.out _ hmem
     have HLX := Lib.hid (HLI.out _ hmem)
     have hs := HSt.out i
     rw [hgx] at hs
     have hN1 := HNN.out i
     have HB := Lib.hid (HI.out.box (.cells #[.int .i64 dk, .string dt, .slice sa sn sc, .int .i64 dp] 64 (0, 0)))
     simp only at hsl hkd hs
     have hsn2 := hsn.out
     rw [← hsn2] at hs hsl
     generalize dt0 i = s1 at *
     have hN2 := (MkN.levUp (d := ⟨dk, dt, dsy, dp⟩) hN1)
     have HN3 := Lib.hid (fun k => MkN.symTo (d := ⟨dk, dt, dsy, dp⟩) (s := (levUp ⟨dk, dt, dsy, dp⟩ s1.1, s1.2)) hN2 k)
     have HSE := Lib.hid hs
     have hLU : levUp ⟨dk, dt, dsy, dp⟩ s1.1 = (if 2 ≤ dk ∧ dk ≤ 4 then { s1.1 with level := s1.1.level + 1 } else s1.1) := rfl
     have hLv := hN1.lv
     have HSVV := Lib.hid (fun V (hV : Below w0.heap.size w0 V) => hsv.below hV)
     clear y0 y1 y2 y3 hgx hmem hx0 hs hN1 hN2 hsv hsn2
     go_upto_region 10 with fail
     clear z0 z1 z2 z3 c1 hlow
     generalize W.alloc (.cells #[.int .i64 dk, .string dt, .slice sa sn sc, .int .i64 dp] 64) = W1 at *
     generalize W.heap.size = Q at *
     have q0 := cell_of_row _ Q 0 _ _ _ HB.out.row
     simp only [List.getElem?_toArray, List.getElem?_cons_succ, List.getElem?_cons_zero] at q0
     clear HI
     go_cut [60] from 53 to 60 (fun x60 wx => x60 = .bool (decide (2 ≤ dk ∧ dk ≤ 4)) ∧ wx = W1)
     case first =>
      by_cases h1 : 2 ≤ dk
      · by_cases h2 : dk ≤ 4
        · go_wp2_with fail
          go_meet
          case rel => exact ⟨by rw [decide_eq_true (by omega)], rfl⟩
        · go_wp2_with fail
          go_meet
          case rel => exact ⟨by rw [decide_eq_false (by omega)], rfl⟩
      · go_wp2_with fail
        go_meet
        case rel => exact ⟨by rw [decide_eq_false (by omega)], rfl⟩
     case rest =>
      obtain ⟨rfl, rfl⟩ := hcut
      generalize hbb : decide (2 ≤ dk ∧ dk ≤ 4) = bb
      have HBB := Lib.hid hbb
      have HLU := Lib.hid hLU
      clear hbb hLU q0
      rename World => W1
      go_upto_if 60 with fail
      go_cut [] from 41 to 67 (fun wx => Hid (OfB w0 wx M (levUp ⟨dk, dt, dsy, dp⟩ s1.1) Q (.cells #[.int .i64 dk, .string dt, .slice sa sn sc, .int .i64 dp] 64 (0, 0))))
      case first =>
       obtain ⟨m11, f11, hset⟩ := HB.out.level
       cases bb with
       | true =>
         have hc := of_decide_eq_true HBB.out
         have HL := Lib.hid (hset (s1.1.level + 1))
         clear hset
         go_wp2_with fail
         go_meet
         case rel => rw [HLU.out, if_pos hc]; exact HL
       | false =>
         have hc := of_decide_eq_false HBB.out
         clear hset
         go_wp2_with fail
         go_meet
         case rel => rw [HLU.out, if_neg hc]; exact HB
      case rest =>
       have HB2 := hcut
       clear hcut HB HBB HLU
       rename World => W2
       go_wp2_with fail
       go_loopw [7, 10] (fun x7 x10 V => ∃ k : Nat, k ≤ sn ∧ x10 = .int .i64 k ∧ x7 = .string (symTo ⟨dk, dt, dsy, dp⟩ (levUp ⟨dk, dt, dsy, dp⟩ s1.1, s1.2) k).2 ∧ Hid (OfB w0 V M (symTo ⟨dk, dt, dsy, dp⟩ (levUp ⟨dk, dt, dsy, dp⟩ s1.1, s1.2) k).1 Q (.cells #[.int .i64 dk, .string dt, .slice sa sn sc, .int .i64 dp] 64 (0, 0)))) (fun _ x10 _ => sn - (intOf x10).toNat)
       case atStart => exact ⟨0, Nat.zero_le _, rfl, rfl, HB2⟩
       case round =>
        clear HB2
        obtain ⟨k, hk, rfl, rfl, HV⟩ := hrel
        rename World => V
        have q2 := cell_of_row _ Q 2 _ _ _ HV.out.row
        simp only [List.getElem?_toArray, List.getElem?_cons_succ, List.getElem?_cons_zero] at q2
        by_cases hlk : k < sn
        · obtain ⟨sb, so, ⟨xn, xl, xm, xp⟩, e4, hy0, y0, y1, y2, y3⟩ := hsx.out k hlk
          subst e4
          simp only at y0 y1 y2 y3
          have i2 : (k : Int) < (sn : Int) := by omega
          have hlV := HV.out.out.low
          have q0 := cell_of_row _ Q 0 _ _ _ HV.out.row
          have q1 := cell_of_row _ Q 1 _ _ _ HV.out.row
          have q3 := cell_of_row _ Q 3 _ _ _ HV.out.row
          simp only [List.getElem?_toArray, List.getElem?_cons_succ, List.getElem?_cons_zero] at q0 q1 q3
          have z0 := cell_up hlV y0
          have z1 := cell_up hlV y1
          have z2 := cell_up hlV y2
          have z3 := cell_up hlV y3
          have Y0 := Lib.hid y0
          have Y1 := Lib.hid y1
          have Y2 := Lib.hid y2
          have Y3 := Lib.hid y3
          have hgs : dsy.getD k noSm = ⟨xn, xl, xm, xp⟩ := by rw [List.getD_eq_getElem?_getD, hy0]; rfl
          have hst : symTo ⟨dk, dt, dsy, dp⟩ (levUp ⟨dk, dt, dsy, dp⟩ s1.1, s1.2) (k + 1) = (if dk = 6 then ((symTo ⟨dk, dt, dsy, dp⟩ (levUp ⟨dk, dt, dsy, dp⟩ s1.1, s1.2) k).1.failIf (!((symTo ⟨dk, dt, dsy, dp⟩ (levUp ⟨dk, dt, dsy, dp⟩ s1.1, s1.2) k).2.toList.isEmpty)) xp xn, xn) else ((symTo ⟨dk, dt, dsy, dp⟩ (levUp ⟨dk, dt, dsy, dp⟩ s1.1, s1.2) k).1.declare ⟨dk, dt, dsy, dp⟩ ⟨xn, xl, xm, xp⟩, (symTo ⟨dk, dt, dsy, dp⟩ (levUp ⟨dk, dt, dsy, dp⟩ s1.1, s1.2) k).2)) := by
           show symStep _ (dsy.getD k noSm) _ = _
           rw [hgs]; rfl
          have hxl := HLX.out _ (List.mem_of_getElem? hy0)
          simp only at hxl
          have HXL := Lib.hid hxl
          have hN4 := HN3.out k
          generalize symTo ⟨dk, dt, dsy, dp⟩ (levUp ⟨dk, dt, dsy, dp⟩ s1.1, s1.2) k = sk at *
          have HST := Lib.hid hst
          have HN4 := Lib.hid hN4
          clear y0 y1 y2 y3 hgs hst hxl hy0 hlV hN4
          by_cases hk6 : dk = 6
          · subst hk6
            go_upto_if 87 with fail
            generalize hbq : (!sk.2.toList.isEmpty) = bq
            have HBQ := Lib.hid hbq
            clear hbq
            go_cut [] from 78 to 101 (fun wx => Hid (OfB w0 wx M (sk.1.failIf bq xp xn) Q (.cells #[.int .i64 6, .string dt, .slice (some ⟨sb, so, none⟩) sn sc, .int .i64 dp] 64 (0, 0))))
            case first =>
             cases bq with
             | false =>
               go_wp2_with fail
               go_meet
               case rel => exact HV
             | true =>
               have HFl := Lib.hid (fun U (hU : Below V.heap.size V U) => (HV.out.below hU).fail xp xn)
               have SW : V.drew.cell? ⟨Q, 2, none⟩ = some (.slice (some ⟨sb, so, none⟩) sn sc) ∧ V.drew.cell? ⟨sb, so + k * 4, none⟩ = some (.string xn) ∧ V.drew.cell? ⟨sb, so + k * 4 + 3, none⟩ = some (.int .i64 xp) := ⟨q2, z0, z3⟩
               go_upto_region 18 with fail
               refine wp_region_held_drew (S := (fun Xw => Xw.cell? ⟨Q, 2, none⟩ = some (.slice (some ⟨sb, so, none⟩) sn sc) ∧ Xw.cell? ⟨sb, so + k * 4, none⟩ = some (.string xn) ∧ Xw.cell? ⟨sb, so + k * 4 + 3, none⟩ = some (.int .i64 xp))) (by kernel_rfl) ?hS0 (fun hHeld => ?hR0)
               case hS0 => exact SW
               case hR0 =>
                refine tk 0 ?_
                try simp only [Act.put, gA, gB, gC, gD, gE, gF]
                refine tk 1 ?_
                try simp only [Act.put, gA, gB, gC, gD, gE, gF]
                refine tk 2 ?_
                try simp only [Act.put, gA, gB, gC, gD, gE, gF]
                refine tk 3 ?_
                try simp only [Act.put, gA, gB, gC, gD, gE, gF]
                refine tk 4 ?_
                try simp only [Act.put, gA, gB, gC, gD, gE, gF]
                refine tk 5 ?_
                try simp only [Act.put, gA, gB, gC, gD, gE, gF]
                refine tk 6 ?_
                try simp only [Act.put, gA, gB, gC, gD, gE, gF]
                refine tk 7 ?_
                try simp only [Act.put, gA, gB, gC, gD, gE, gF]
                refine tk 8 ?_
                try simp only [Act.put, gA, gB, gC, gD, gE, gF]
                refine tk 9 ?_
                try simp only [Act.put, gA, gB, gC, gD, gE, gF]
                refine tk 10 ?_
                try simp only [Act.put, gA, gB, gC, gD, gE, gF]
                refine tk 11 ?_
                try simp only [Act.put, gA, gB, gC, gD, gE, gF]
                refine tk 12 ?_
                try simp only [Act.put, gA, gB, gC, gD, gE, gF]
                refine wpAnyH_ready (rs := [13]) (by kernel_rfl) (by simp) ?_
                refine AllReadyH.cons rfl (fun K hK => ?_) .nil
                try simp only [gA, gB, gC]
                go_simp
                go_at_call 45
                (with_reducible refine (HFl.out _ (Below.refl V.heap.size V).drew).mono ?_)
                rintro e w9 ⟨rfl, hB9⟩
                have hl9 := hB9.out.low
                have S9 : w9.cell? ⟨Q, 2, none⟩ = some (.slice (some ⟨sb, so, none⟩) sn sc) ∧ w9.cell? ⟨sb, so + k * 4, none⟩ = some (.string xn) ∧ w9.cell? ⟨sb, so + k * 4 + 3, none⟩ = some (.int .i64 xp) := ⟨cell_of_row _ _ 2 _ _ _ hB9.row, cell_up hl9 Y0.out, cell_up hl9 Y3.out⟩
                have HB9 := Lib.hid hB9
                clear hB9 hl9
                go_wp2_with fail
                refine hK.out _ _ S9 (fun hHeld => ?_)
                clear hK K
                try simp only [Act.put, gA, gB, gC, gD, gE, gF]
                refine wpAnyH_done (by kernel_rfl) ?_ _
                go_wp2_with fail
                go_meet
                case rel => exact HB9
            case rest =>
             have HC := hcut
             clear hcut q0 q1 q2 q3 z0 z1 z2 z3
             rename World => U
             have hlU := HC.out.out.low
             have z0 := cell_up hlU Y0.out
             have q2 := cell_of_row _ Q 2 _ _ _ HC.out.row
             simp only [List.getElem?_toArray, List.getElem?_cons_succ, List.getElem?_cons_zero] at q2
             clear hlU
             go_wp2_with fail
             go_round
             case rel => exact ⟨k + 1, by omega, by go_num, by rw [HST.out, if_pos rfl], by rw [HST.out, if_pos rfl]; rw [← HBQ.out] at HC; exact HC⟩
             case measure => simp [intOf]; omega
          · have hk6b : (dk == 6) = false := by simpa using hk6
            have HDc := Lib.hid (fun U (hU : Below V.heap.size V U) => (HV.out.below hU).declare (.agg #[.int .i64 dk, .string dt, .slice (some ⟨sb, so, none⟩) sn sc, .int .i64 dp]) ⟨dk, dt, dsy, dp⟩ ⟨_, rfl, HSVV.out _ (HV.out.below hU).out.low⟩ ⟨xn, xl, xm, xp⟩ (by simp only; omega) HXL.out (by have := HN4.out.tk; omega) HN4.out.gv (by have := HN4.out.ty; omega))
            unfold Sm.agg at HDc
            simp only at HDc
            have SW : V.drew.cell? ⟨Q, 0, none⟩ = some (.int .i64 dk) ∧ V.drew.cell? ⟨Q, 1, none⟩ = some (.string dt) ∧ V.drew.cell? ⟨Q, 2, none⟩ = some (.slice (some ⟨sb, so, none⟩) sn sc) ∧ V.drew.cell? ⟨Q, 3, none⟩ = some (.int .i64 dp) ∧ V.drew.cell? ⟨sb, so + k * 4, none⟩ = some (.string xn) ∧ V.drew.cell? ⟨sb, so + k * 4 + 1, none⟩ = some (.bool xl) ∧ V.drew.cell? ⟨sb, so + k * 4 + 2, none⟩ = some (.int .i64 xm) ∧ V.drew.cell? ⟨sb, so + k * 4 + 3, none⟩ = some (.int .i64 xp) := ⟨q0, q1, q2, q3, z0, z1, z2, z3⟩
            go_upto_region 16 with fail
            refine wp_region_held_drew (S := (fun Xw => Xw.cell? ⟨Q, 0, none⟩ = some (.int .i64 dk) ∧ Xw.cell? ⟨Q, 1, none⟩ = some (.string dt) ∧ Xw.cell? ⟨Q, 2, none⟩ = some (.slice (some ⟨sb, so, none⟩) sn sc) ∧ Xw.cell? ⟨Q, 3, none⟩ = some (.int .i64 dp) ∧ Xw.cell? ⟨sb, so + k * 4, none⟩ = some (.string xn) ∧ Xw.cell? ⟨sb, so + k * 4 + 1, none⟩ = some (.bool xl) ∧ Xw.cell? ⟨sb, so + k * 4 + 2, none⟩ = some (.int .i64 xm) ∧ Xw.cell? ⟨sb, so + k * 4 + 3, none⟩ = some (.int .i64 xp))) (by kernel_rfl) ?hS0 (fun hHeld => ?hR0)
            case hS0 => exact SW
            case hR0 =>
             refine tk 0 ?_
             try simp only [Act.put, gA, gB, gC, gD, gE, gF]
             refine tk 1 ?_
             try simp only [Act.put, gA, gB, gC, gD, gE, gF]
             refine tk 2 ?_
             try simp only [Act.put, gA, gB, gC, gD, gE, gF]
             refine tk 3 ?_
             try simp only [Act.put, gA, gB, gC, gD, gE, gF]
             refine tk 4 ?_
             try simp only [Act.put, gA, gB, gC, gD, gE, gF]
             refine tk 5 ?_
             try simp only [Act.put, gA, gB, gC, gD, gE, gF]
             refine tk 6 ?_
             try simp only [Act.put, gA, gB, gC, gD, gE, gF]
             refine wpAnyH_ready (rs := [7]) (by kernel_rfl) (by simp) ?_
             refine AllReadyH.cons rfl (fun K hK => ?_) .nil
             try simp only [gA, gB, gC]
             go_simp
             go_at_call 44
             (with_reducible refine (HDc.out _ (Below.refl V.heap.size V).drew).mono ?_)
             rintro e w9 ⟨rfl, hB9⟩
             have hl9 := hB9.out.low
             have S9 : w9.cell? ⟨Q, 0, none⟩ = some (.int .i64 dk) ∧ w9.cell? ⟨Q, 1, none⟩ = some (.string dt) ∧ w9.cell? ⟨Q, 2, none⟩ = some (.slice (some ⟨sb, so, none⟩) sn sc) ∧ w9.cell? ⟨Q, 3, none⟩ = some (.int .i64 dp) ∧ w9.cell? ⟨sb, so + k * 4, none⟩ = some (.string xn) ∧ w9.cell? ⟨sb, so + k * 4 + 1, none⟩ = some (.bool xl) ∧ w9.cell? ⟨sb, so + k * 4 + 2, none⟩ = some (.int .i64 xm) ∧ w9.cell? ⟨sb, so + k * 4 + 3, none⟩ = some (.int .i64 xp) := ⟨cell_of_row _ _ 0 _ _ _ hB9.row, cell_of_row _ _ 1 _ _ _ hB9.row, cell_of_row _ _ 2 _ _ _ hB9.row, cell_of_row _ _ 3 _ _ _ hB9.row, cell_up hl9 Y0.out, cell_up hl9 Y1.out, cell_up hl9 Y2.out, cell_up hl9 Y3.out⟩
             have HB9 := Lib.hid hB9
             clear hB9 hl9
             go_wp2_with fail
             refine hK.out _ _ S9 (fun hHeld => ?_)
             clear hK K
             try simp only [Act.put, gA, gB, gC, gD, gE, gF]
             refine wpAnyH_done (by kernel_rfl) ?_ _
             go_wp2_with fail
             go_round
             case rel => exact ⟨k + 1, by omega, by go_num, by rw [HST.out, if_neg hk6], by rw [HST.out, if_neg hk6]; exact HB9⟩
             case measure => simp [intOf]; omega
        · have i2 : ¬ (k : Int) < (sn : Int) := by omega
          obtain rfl : k = sn := by omega
          go_wp2_with fail
          go_round
          case rel => exact ⟨i + 1, by omega, by go_num, by rw [HSE.out], by rw [HSE.out]; exact Lib.hid HV.out.out⟩
          case measure => simp [intOf]; omega
   · have i1 : ¬ (i : Int) < (dn : Int) := by omega
     obtain rfl : i = dn := by omega
     go_wp2_with fail
     go_meet
     case rel => exact ⟨rfl, HI.out⟩
end Go.Proofs.Ytkgbifbbpmdpgaa
