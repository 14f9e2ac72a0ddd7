/- What the laid variables and the world's shape give the walks. -/
import Derived.Test.YtnoppoifepbchaaDoorRows
import Derived.Shelf.Spec.TrailingZeros
import Derived.ProofKit
import Derived.LaidMore
import Derived.OpenShut
import Derived.ShutString
import Derived.ChangeOld
import Derived.Below
import Derived.Stop.Joined
import Derived.Lib.LaidTab
import Derived.HandedShaped
import Derived.Test.YtnoppoifepbchaaDoorBuilder
import Derived.Shelf.LaysM
import Derived.Stop.LaidErr
import Derived.Lay
import Derived.Test.YtnoppoifepbchaaDoorSrc
import Derived.Deep.Slices
import Derived.Lib.SmallJoins
namespace Go.Proofs.YtnoppoifepbchaaDoor
section
section
open Go.ChangeShapes Go.WideShapes Go.ChangeAt Go.WideMaps Go.WideElems Go.RowKit
set_option linter.unusedVariables false

theorem own : ownKnob Tryd.prog.godebug = none := by kernel_rfl
theorem laidOut : laidOutB Tryd.prog = true := by kernel_rfl

abbrev laid : List (String × DataW Unit) := [("math/bits.deBruijn32tab", Rows.laid_math_bits_deBruijn32tab), ("math/bits.deBruijn64tab", Rows.laid_math_bits_deBruijn64tab), ("internal/strconv.uint64pow10", Rows.laid_internal_strconv_uint64pow10)]

theorem door_met (os : Os) (args : Array Value) : laidMetH Tryd.prog laid ((World.doorLaid Tryd.prog 400 os).forCall (fun _ _ => 0) ⟨#[], args, []⟩).memory :=
 laidMetH_of_parts3 (fuel := 8) (laidMet_of_run' 8 (by kernel_rfl) (by kernel_rfl)) (by kernel_rfl) (by kernel_rfl)

section
variable {H : Type} {enc : TypeId × Value → H}

/-- the contract is handed the condition on the world, and the world's shape too -/
theorem handed_shaped_and {a : Assume} {C : Checked} {os : Os} {f : FuncId} {fn : Func} {s : ChangeSpec} {conds : List PathCond} {apart fresh handsOn again : Bool} {X : World → Array Value → Prop}
  (hX : ∀ (w w' : World) (args : Array Value), w.heap = w'.heap → X w args → X w' args)
  (own : ownKnob C.prog.godebug = none) (started : os.Started) (noInit : C.prog.inits.idxOf? f = none) (hfn : C.prog.funcs[f]? = some fn)
  (witness : ∃ (w : World) (tape : Tape) (i : Input), w.os = os ∧ (w.forCall tape i).Shaped C.prog ∧ i.vars = [] ∧ Input.okWide C.prog (w.forCall tape i) .any w.heap.size f i ∧
    ((s.pre enc C.prog fn conds apart (w.forCall tape i).memory i.args ∧ X (w.forCall tape i).memory i.args) ∧ sizedMet enc C.prog fn (OpenSpec.ofChange s) apart (w.forCall tape i).memory i.args) ∧ a.holds C.prog (lone (Frame.enter C.prog f i.args .normal) [] (w.forCall tape i)))
  (contract : ∀ (W : World) (base : Nat) (args : Array Value) (ds gs : List (DataW H)) (before : List MemPlace),
    (∀ (j : Nat) t v, fn.params[j]? = some t → args[j]? = some v → Value.okWide C.prog W .any base t v) →
    DataW.Whole enc C.prog fn.params.toList s.vars apart W args.toList ds gs before → X W args → W.ShapedOpen C.prog →
    Calls C.prog f args W fun e W' => ∃ v, e = .returned v ∧ s.post enc C.prog fn apart fresh handsOn again W args v W') :
  ReturnsInHanded a C os f .any (fun w args => (s.pre enc C.prog fn conds apart w args ∧ X w args) ∧ sizedMet enc C.prog fn (OpenSpec.ofChange s) apart w args) (s.post enc C.prog fn apart fresh handsOn again) := by
 refine returnsInHanded_of_calls own started noInit witness ?_
 intro w tape i _ hsh _ hok hpre _
 obtain ⟨_, _, _, fn', hfn', _, _, _, _, hval⟩ := hok
 obtain rfl : fn' = fn := Option.some.inj (hfn'.symm.trans hfn)
 obtain ⟨⟨⟨ds, gs, before, hw, _⟩, hx⟩, _⟩ := hpre
 refine (contract (w.forCall tape i) w.heap.size i.args ds gs before hval (DataW.Whole.of_heap (w' := w.forCall tape i) (by rfl) hw) (hX _ _ _ (by rfl) hx) hsh).mono fun e W' ⟨v, he, hp⟩ => ?_
 subst he
 exact ChangeSpec.post_blind hp
end

theorem laid_tail {P : Program} {W : World} {x : String × DataW Unit} {rest : List (String × DataW Unit)} {ps : List MemPlace} (h : DataW.LaidVars P W (x :: rest) ps) : ∃ q, DataW.LaidVars P W rest q := by
 obtain ⟨_, _, _, _, _, q, _, _, _, _, hr, _⟩ := h
 exact ⟨q, hr⟩

theorem tabIs_of_vars {P : Program} {W : World} {name : String} {k : IntKind} {zs : List Int} {rest : List (String × DataW Unit)} {ps : List MemPlace} {g : Nat} {t e : TypeId} {n : Nat}
  (hg : P.globalNamed name = some g) (hty : (P.globals[g]?).map (·.type) = some t) (ht : P.underlying t = some (.array n e)) (he : P.underlying e = some (.int k)) (hce : P.cellsOf e = 1) (hct : P.cellsOf t = n)
  (h : DataW.LaidVars P W ((name, Lib.tabData k zs) :: rest) ps) : Lib.TabIs P W name k zs := by
 obtain ⟨g', t', cs, fuel, p, q, hg', ht', hvar, hd, _, _⟩ := h
 obtain rfl := Option.some.inj (hg.symm.trans hg')
 obtain rfl := Option.some.inj (hty.symm.trans ht')
 unfold Lib.TabIs
 rw [hvar, ← Lib.cells_of_tab ht he hce hct hd]

theorem powData : (Rows.laid_internal_strconv_uint64pow10 : DataW Unit) = Lib.tabData .u64 Lib.pow10Tab := rfl

theorem max_of {W : World} (h : W.ShapedOpen Tryd.prog) : MaxAt W :=
 Go.Proofs.cell_of_shapedOpen_int (zero := #[.int .i64 0]) (t := 3) h (of_decide_eq_true (by kernel_rfl)) (by kernel_rfl) rfl (by kernel_rfl) (by kernel_rfl) Tryd.underlying3

theorem env_of {W : World} (hsh : W.ShapedOpen Tryd.prog) (h : laidMetH Tryd.prog laid W) : Env W := by
 rw [MakeChecks.laidMetH_plain _ _ _ (by kernel_rfl)] at h
 obtain ⟨ps, h, _⟩ := h
 obtain ⟨_, h⟩ := laid_tail h
 obtain ⟨_, h⟩ := laid_tail h
 rw [powData] at h
 exact ⟨max_of hsh, tabIs_of_vars (g := 1) (by kernel_rfl) (by kernel_rfl) Tryd.underlying158 Tryd.underlying68 (by kernel_rfl) (by kernel_rfl) h⟩
end
end
section
open Go.ChangeShapes Go.WideShapes Go.ChangeAt Go.WideMaps Go.WideElems Go.RowKit Go.Deep

section
variable {H : Type} {enc : TypeId × Value → H} {P : Program} {W : World} {base : Nat} {sp : Nat → Bool} {held : Bool}
/-- a slice whose elements read as R -/
theorem list_of_trod {α : Type} [Inhabited α] {R : World → List Value → α → Prop} {Q : α → Prop} {T E : TypeId} {size : Nat} (hT : P.underlying T = some (.slice E)) (hc : P.cellsOf E = size) (hs : 0 < size)
  (hx : ∀ n cs x, DataW.trod enc P W base sp held n E cs = some x → ∃ y : α, R W cs y ∧ Q y) {fuel : Nat} {cs : List Value} {x : DataW H × List MemPlace} (h : DataW.trod enc P W base sp held fuel T cs = some x) :
  ∃ v l, cs = [v] ∧ ListV size R W v l ∧ ∀ y ∈ l, Q y := by
 rcases open_slice hT h with ⟨hcs, _⟩ | ⟨a, n, c, m, k, D, Pl, hcs, _, hl, hm, hmm, _, hi⟩
 · exact ⟨_, [], hcs, ListV.nil _ _ _, fun y hy => absurd hy (by simp)⟩
 · have hlm : n ≤ m := by rw [hmm]; split <;> omega
   rw [hc] at hi
   have hp : ∀ i, ∃ y : α, i < n → ∃ cs', W.cells? base (a.add (i * size)) size = some cs' ∧ R W cs' y ∧ Q y := fun i => by
    by_cases hlt : i < n
    · obtain ⟨cs', h1, h2⟩ := hi i (by omega)
      obtain ⟨y, h3, h4⟩ := hx _ _ _ h2
      exact ⟨y, fun _ => ⟨cs', h1, h3, h4⟩⟩
    · exact ⟨default, fun h => absurd h hlt⟩
   obtain ⟨f, hf⟩ := Classical.axiomOfChoice hp
   have hat : ∀ i, i < n → ∃ cs', cs'.length = size ∧ R W cs' (f i) ∧ Q (f i) ∧ ∀ j, j < size → W.cell? ((a.add (i * size)).add j) = cs'[j]? := fun i hin => by
    obtain ⟨cs', h1, h2, h3⟩ := hf i hin
    obtain ⟨_, hlen, hat⟩ := World.cells?_some h1
    exact ⟨cs', hlen, h2, h3, hat⟩
   have hspot : 0 < n → a.spot = none := fun h0 => by
    obtain ⟨cs', h1, _, _, h2⟩ := hat 0 h0
    have h3 := h2 0 hs
    rw [List.getElem?_eq_getElem (by omega)] at h3
    have e : (a.add (0 * size)).add 0 = a := by simp [Addr.add]
    rw [e] at h3
    exact World.cell?_spot h3
   refine ⟨_, (List.range n).map f, hcs, ⟨some a, c, by simp, by simpa using hl, by unfold maxLen at hm; omega, (fun h => by cases h), fun i y hy => ?_⟩, fun y hy => ?_⟩
   · have hin : i < n := by have := (List.getElem?_eq_some_iff.1 hy).1; simpa using this
     have e : y = f i := by
      rw [List.getElem?_map, List.getElem?_range hin] at hy
      simpa using hy.symm
     subst e
     have hs0 := hspot (by omega)
     obtain ⟨b, off, spot⟩ := a
     subst hs0
     obtain ⟨cs', h1, h2, _, h3⟩ := hat i hin
     refine ⟨b, off, cs', rfl, h1, h2, fun j hj => ?_⟩
     have h4 := h3 j hj
     rw [addr_add, addr_add] at h4
     rw [h4, List.getD_eq_getElem?_getD, List.getElem?_eq_getElem (by omega)]; rfl
   · obtain ⟨i, hi1, rfl⟩ := List.mem_map.1 hy
     obtain ⟨_, _, _, h3, _⟩ := hat i (by simpa using hi1)
     exact h3

/-- structs of three, four fields, as cells -/
theorem elem4 {F : TypeId} {f0 f1 f2 f3 : Field} {n : Nat} {cs : List Value} {x : DataW H × List MemPlace} (hF : P.underlying F = some (.struct #[f0, f1, f2, f3])) (hcF : P.cellsOf F = 4)
  (c0 : P.cellsOf f0.type = 1) (c1 : P.cellsOf f1.type = 1) (c2 : P.cellsOf f2.type = 1) (c3 : P.cellsOf f3.type = 1) (o0 : f0.offset = 0) (o1 : f1.offset = 1) (o2 : f2.offset = 2) (o3 : f3.offset = 3)
  (h : DataW.trod enc P W base sp held n F cs = some x) : ∃ v0 v1 v2 v3 y0 y1 y2 y3 m, cs = [v0, v1, v2, v3] ∧ DataW.trod enc P W base sp held m f0.type [v0] = some y0 ∧ DataW.trod enc P W base sp held m f1.type [v1] = some y1 ∧
    DataW.trod enc P W base sp held m f2.type [v2] = some y2 ∧ DataW.trod enc P W base sp held m f3.type [v3] = some y3 := by
 obtain ⟨ys, m, _, _, hl, hyl, hf⟩ := DataW.trod_struct hF h
 rw [hcF] at hl
 have g0 := hf 0 f0 rfl
 have g1 := hf 1 f1 rfl
 have g2 := hf 2 f2 rfl
 have g3 := hf 3 f3 rfl
 match cs, hl, ys, hyl with
 | [v0, v1, v2, v3], _, [y0, y1, y2, y3], _ =>
   rw [c0, o0] at g0
   rw [c1, o1] at g1
   rw [c2, o2] at g2
   rw [c3, o3] at g3
   exact ⟨v0, v1, v2, v3, y0, y1, y2, y3, m, rfl, g0, g1, g2, g3⟩
theorem elem3 {F : TypeId} {f0 f1 f2 : Field} {n : Nat} {cs : List Value} {x : DataW H × List MemPlace} (hF : P.underlying F = some (.struct #[f0, f1, f2])) (hcF : P.cellsOf F = 3)
  (c0 : P.cellsOf f0.type = 1) (c1 : P.cellsOf f1.type = 1) (c2 : P.cellsOf f2.type = 1) (o0 : f0.offset = 0) (o1 : f1.offset = 1) (o2 : f2.offset = 2)
  (h : DataW.trod enc P W base sp held n F cs = some x) : ∃ v0 v1 v2 y0 y1 y2 m, cs = [v0, v1, v2] ∧ DataW.trod enc P W base sp held m f0.type [v0] = some y0 ∧ DataW.trod enc P W base sp held m f1.type [v1] = some y1 ∧
    DataW.trod enc P W base sp held m f2.type [v2] = some y2 := by
 obtain ⟨ys, m, _, _, hl, hyl, hf⟩ := DataW.trod_struct hF h
 rw [hcF] at hl
 have g0 := hf 0 f0 rfl
 have g1 := hf 1 f1 rfl
 have g2 := hf 2 f2 rfl
 match cs, hl, ys, hyl with
 | [v0, v1, v2], _, [y0, y1, y2], _ =>
   rw [c0, o0] at g0
   rw [c1, o1] at g1
   rw [c2, o2] at g2
   exact ⟨v0, v1, v2, y0, y1, y2, m, rfl, g0, g1, g2⟩
theorem elem411 {F : TypeId} {f0 f1 f2 : Field} {n : Nat} {cs : List Value} {x : DataW H × List MemPlace} (hF : P.underlying F = some (.struct #[f0, f1, f2])) (hcF : P.cellsOf F = 6)
  (c0 : P.cellsOf f0.type = 4) (c1 : P.cellsOf f1.type = 1) (c2 : P.cellsOf f2.type = 1) (o0 : f0.offset = 0) (o1 : f1.offset = 4) (o2 : f2.offset = 5)
  (h : DataW.trod enc P W base sp held n F cs = some x) : ∃ v0 v1 v2 v3 v4 v5 y0 y1 y2 m, cs = [v0, v1, v2, v3, v4, v5] ∧ DataW.trod enc P W base sp held m f0.type [v0, v1, v2, v3] = some y0 ∧ DataW.trod enc P W base sp held m f1.type [v4] = some y1 ∧
    DataW.trod enc P W base sp held m f2.type [v5] = some y2 := by
 obtain ⟨ys, m, _, _, hl, hyl, hf⟩ := DataW.trod_struct hF h
 rw [hcF] at hl
 have g0 := hf 0 f0 rfl
 have g1 := hf 1 f1 rfl
 have g2 := hf 2 f2 rfl
 match cs, hl, ys, hyl with
 | [v0, v1, v2, v3, v4, v5], _, [y0, y1, y2], _ =>
   rw [c0, o0] at g0
   rw [c1, o1] at g1
   rw [c2, o2] at g2
   exact ⟨v0, v1, v2, v3, v4, v5, y0, y1, y2, m, rfl, g0, g1, g2⟩
theorem elem141 {F : TypeId} {f0 f1 f2 : Field} {n : Nat} {cs : List Value} {x : DataW H × List MemPlace} (hF : P.underlying F = some (.struct #[f0, f1, f2])) (hcF : P.cellsOf F = 6)
  (c0 : P.cellsOf f0.type = 1) (c1 : P.cellsOf f1.type = 4) (c2 : P.cellsOf f2.type = 1) (o0 : f0.offset = 0) (o1 : f1.offset = 1) (o2 : f2.offset = 5)
  (h : DataW.trod enc P W base sp held n F cs = some x) : ∃ v0 v1 v2 v3 v4 v5 y0 y1 y2 m, cs = [v0, v1, v2, v3, v4, v5] ∧ DataW.trod enc P W base sp held m f0.type [v0] = some y0 ∧ DataW.trod enc P W base sp held m f1.type [v1, v2, v3, v4] = some y1 ∧
    DataW.trod enc P W base sp held m f2.type [v5] = some y2 := by
 obtain ⟨ys, m, _, _, hl, hyl, hf⟩ := DataW.trod_struct hF h
 rw [hcF] at hl
 have g0 := hf 0 f0 rfl
 have g1 := hf 1 f1 rfl
 have g2 := hf 2 f2 rfl
 match cs, hl, ys, hyl with
 | [v0, v1, v2, v3, v4, v5], _, [y0, y1, y2], _ =>
   rw [c0, o0] at g0
   rw [c1, o1] at g1
   rw [c2, o2] at g2
   exact ⟨v0, v1, v2, v3, v4, v5, y0, y1, y2, m, rfl, g0, g1, g2⟩
end

section
variable {H : Type} {enc : TypeId × Value → H} {W : World} {base : Nat} {sp : Nat → Bool} {held : Bool} {n : Nat} {cs : List Value} {x : DataW H × List MemPlace}
theorem sm_elem (h : DataW.trod enc Tryd.prog W base sp held n 40 cs = some x) : ∃ y : Sm, smR W cs y ∧ SmIn y := by
 obtain ⟨v0, v1, v2, v3, y0, y1, y2, y3, m, rfl, h0, h1, h2, h3⟩ := elem4 Tryd.underlying40 (by kernel_rfl) (by kernel_rfl) (by kernel_rfl) (by kernel_rfl) (by kernel_rfl) rfl rfl rfl rfl h
 obtain ⟨s, e0, _, hs⟩ := DataW.trod_string Tryd.underlying9 h0
 obtain ⟨b, e1, _⟩ := DataW.trod_bool Tryd.underlying4 h1
 obtain ⟨i, e2, _, hi⟩ := DataW.trod_int Tryd.underlying3 h2
 obtain ⟨j, e3, _, hj⟩ := DataW.trod_int Tryd.underlying3 h3
 cases e0; cases e1; cases e2; cases e3
 exact ⟨⟨s, b, i, j⟩, rfl, hs, hi, hj⟩
theorem pt_elem (h : DataW.trod enc Tryd.prog W base sp held n 44 cs = some x) : ∃ y : Pt, ptR W cs y ∧ PtIn y := by
 obtain ⟨v0, v1, v2, v3, v4, v5, y0, y1, y2, m, rfl, h0, h1, h2⟩ := elem411 Tryd.underlying44 (by kernel_rfl) (by kernel_rfl) (by kernel_rfl) (by kernel_rfl) rfl rfl rfl h
 obtain ⟨q, e0, hq⟩ := sm_elem h0
 obtain ⟨s, e1, _, hs⟩ := DataW.trod_string Tryd.underlying9 h1
 obtain ⟨j, e2, _, hj⟩ := DataW.trod_int Tryd.underlying3 h2
 cases e0; cases e1; cases e2
 exact ⟨⟨q, s, j⟩, rfl, hq, hs, hj⟩
theorem al_elem (h : DataW.trod enc Tryd.prog W base sp held n 42 cs = some x) : ∃ y : Al, alR W cs y ∧ AlIn y := by
 obtain ⟨v0, v1, v2, v3, v4, v5, y0, y1, y2, m, rfl, h0, h1, h2⟩ := elem141 Tryd.underlying42 (by kernel_rfl) (by kernel_rfl) (by kernel_rfl) (by kernel_rfl) rfl rfl rfl h
 obtain ⟨v, l, e0, hl, hq0⟩ := list_of_trod (size := 6) (R := ptR) (Q := PtIn) Tryd.underlying38 (by kernel_rfl) (by omega) (fun n cs x h => pt_elem h) h0
 obtain ⟨q, e1, hq⟩ := sm_elem h1
 obtain ⟨j, e2, _, hj⟩ := DataW.trod_int Tryd.underlying3 h2
 cases e0; cases e1; cases e2
 exact ⟨⟨l, q, j⟩, ⟨_, rfl, hl⟩, hq0, hq, hj⟩
theorem rl_elem (h : DataW.trod enc Tryd.prog W base sp held n 37 cs = some x) : ∃ y : Rl, rlR W cs y ∧ RlIn y := by
 obtain ⟨v0, v1, v2, y0, y1, y2, m, rfl, h0, h1, h2⟩ := elem3 Tryd.underlying37 (by kernel_rfl) (by kernel_rfl) (by kernel_rfl) (by kernel_rfl) rfl rfl rfl h
 obtain ⟨s, e0, _, hs⟩ := DataW.trod_string Tryd.underlying9 h0
 obtain ⟨v, l, e1, hl, hq0⟩ := list_of_trod (size := 6) (R := alR) (Q := AlIn) Tryd.underlying35 (by kernel_rfl) (by omega) (fun n cs x h => al_elem h) h1
 obtain ⟨j, e2, _, hj⟩ := DataW.trod_int Tryd.underlying3 h2
 cases e0; cases e1; cases e2
 exact ⟨⟨s, l, j⟩, ⟨_, rfl, hl⟩, hs, hq0, hj⟩
theorem dc_elem (h : DataW.trod enc Tryd.prog W base sp held n 51 cs = some x) : ∃ y : Dc, dcR W cs y ∧ DcIn y := by
 obtain ⟨v0, v1, v2, v3, y0, y1, y2, y3, m, rfl, h0, h1, h2, h3⟩ := elem4 Tryd.underlying51 (by kernel_rfl) (by kernel_rfl) (by kernel_rfl) (by kernel_rfl) (by kernel_rfl) rfl rfl rfl rfl h
 obtain ⟨i, e0, _, hi⟩ := DataW.trod_int Tryd.underlying3 h0
 obtain ⟨s, e1, _, hs⟩ := DataW.trod_string Tryd.underlying9 h1
 obtain ⟨v, l, e2, hl, hq0⟩ := list_of_trod (size := 4) (R := smR) (Q := SmIn) Tryd.underlying49 (by kernel_rfl) (by omega) (fun n cs x h => sm_elem h) h2
 obtain ⟨j, e3, _, hj⟩ := DataW.trod_int Tryd.underlying3 h3
 cases e0; cases e1; cases e2; cases e3
 exact ⟨⟨i, s, l, j⟩, ⟨_, rfl, hl⟩, hi, hs, hq0, hj⟩
set_option maxRecDepth 100000 in
theorem so_of_trod {r : Reach} {b0 : Nat} {v : Value} {d : DataW H} {p : List MemPlace} (hv : Value.okWide Tryd.prog W r b0 29 v) (h : DataW.Trod enc Tryd.prog W base sp held 29 v d p) : ∃ s, SoV W v s ∧ SoIn s := by
 obtain ⟨v0, v1, v2, v3, y0, y1, y2, y3, m, rfl, _, _, h0, h1, h2, h3⟩ := Go.Joins.open_agg4 Tryd.underlying29 (by kernel_rfl) (by kernel_rfl) hv h
 obtain ⟨s, e0, _, hs⟩ := DataW.trod_string Tryd.underlying9 h0
 obtain ⟨_, l, e1, hl, hq0⟩ := list_of_trod (size := 4) (R := dcR) (Q := DcIn) Tryd.underlying26 (by kernel_rfl) (by omega) (fun n cs x h => dc_elem h) h1
 obtain ⟨_, k, e2, hk, hq1⟩ := list_of_trod (size := 3) (R := rlR) (Q := RlIn) Tryd.underlying27 (by kernel_rfl) (by omega) (fun n cs x h => rl_elem h) h2
 obtain ⟨t, e3, _, ht⟩ := DataW.trod_string Tryd.underlying9 h3
 cases e0; cases e1; cases e2; cases e3
 exact ⟨⟨s, l, k, t⟩, ⟨_, _, rfl, hl, hk⟩, hs, hq0, hq1, ht⟩
end
end
end Go.Proofs.YtnoppoifepbchaaDoor
