/- A grammar of a source. -/
import Derived.Test.YtkgbifbbpmdpgaaQPr1
set_option linter.unusedVariables false
set_option linter.unusedSimpArgs false
namespace Go.Proofs.Ytkgbifbbpmdpgaa

open Go.RowKit
def gmOf (so : So) : Gm := (ofAll so).1
def okOf (so : So) : Bool := (ofAll so).2.1 == 0
theorem okOf_w {so : So} (h : okOf so = true) : GmW (gmOf so) := ofAll_w (by simpa [okOf] using h)
def GrGo (so : So) (w : World) (E : Ending) (w' : World) : Prop := ∃ (t n p : Option Addr) (n1 c1 n2 c2 n3 c3 : Nat) (S : Nat → Prop),
 E = .returned (.tuple #[.agg #[.slice t n1 c1, .slice n n2 c2, .slice p n3 c3, .string (gmOf so).pro, .string (gmOf so).tail], .bool (okOf so)]) ∧
 Firm S w' (fun X => GmO X t n p n1 c1 n2 c2 n3 c3 (gmOf so).pro (gmOf so).tail (gmOf so)) ∧ (∀ b, S b → w.heap.size ≤ b) ∧ Below w.heap.size w w'
theorem results_cell_one {fn : Func} {p q : Tmp} {ty : TypeId} {P : Program} (h : fn.results = #[.cell p ty, .tmp q]) (tmps : Array Value) (w : World) (g : Nat) (t : TypeId) (cs : Array Value) (fr : Nat × Nat) {fs : Array Field}
  (hp : tmps.getD p undef = .pointer (some ⟨g, 0, none⟩)) {u : Value} (hv : tmps.getD q undef = u) (hg : w.heap[g]? = some (.cells cs t fr))
  (hu : P.underlying ty = some (.struct fs)) (hi : (P.info? ty).map (·.size) = some cs.size) :
  (results fn tmps).run P w = .ok (.tuple #[.agg cs, u]) w := by
 have hp' : tmps[p]?.getD undef = .pointer (some ⟨g, 0, none⟩) := by simpa using hp
 subst hv
 simp [results, h, hp', asAddr, run_loadVar_row w g t ty cs fr _ hg hu rfl hi]
set_option maxRecDepth 100000 in
set_option maxHeartbeats 4000000 in
theorem grammar_any {w : World} {so : So} {a1 a2 : Option Addr} {n1 c1 n2 c2 : Nat} (h : SoV w (.agg #[.string so.pro, .slice a1 n1 c1, .slice a2 n2 c2, .string so.tail]) so) (hs : SoSmall so) (hB : SoB so) :
  Calls Try.prog 13 #[.agg #[.string so.pro, .slice a1 n1 c1, .slice a2 n2 c2, .string so.tail]] w (GrGo so w) := by
 have HOf := Lib.hid (fun (V : World) (hV : Below w.heap.size w V) => of_any _ so V (h.below hV) hs hB)
 unfold GmGo at HOf
 have hb2 : Below w.heap.size w ((w.alloc (.cells #[.string so.pro, .slice a1 n1 c1, .slice a2 n2 c2, .string so.tail] 25)).alloc (.cells #[.slice none 0 0, .slice none 0 0, .slice none 0 0, .string ⟨#[]⟩, .string ⟨#[]⟩] 38)) := ((Below.refl w.heap.size w).alloc (Nat.le_refl _) _).alloc (by simp) _
 have hrS : ((w.alloc (.cells #[.string so.pro, .slice a1 n1 c1, .slice a2 n2 c2, .string so.tail] 25)).alloc (.cells #[.slice none 0 0, .slice none 0 0, .slice none 0 0, .string ⟨#[]⟩, .string ⟨#[]⟩] 38)).heap[w.heap.size]? = some (.cells #[.string so.pro, .slice a1 n1 c1, .slice a2 n2 c2, .string so.tail] 25 (0, 0)) := ofKeep _ _ (ofMade w _ _ _ rfl)
 have hrG : ((w.alloc (.cells #[.string so.pro, .slice a1 n1 c1, .slice a2 n2 c2, .string so.tail] 25)).alloc (.cells #[.slice none 0 0, .slice none 0 0, .slice none 0 0, .string ⟨#[]⟩, .string ⟨#[]⟩] 38)).heap[w.heap.size + 1]? = some (.cells #[.slice none 0 0, .slice none 0 0, .slice none 0 0, .string ⟨#[]⟩, .string ⟨#[]⟩] 38 (0, 0)) := ofMade _ _ _ _ (by simp)
 have hz2 : ((w.alloc (.cells #[.string so.pro, .slice a1 n1 c1, .slice a2 n2 c2, .string so.tail] 25)).alloc (.cells #[.slice none 0 0, .slice none 0 0, .slice none 0 0, .string ⟨#[]⟩, .string ⟨#[]⟩] 38)).heap.size = w.heap.size + 2 := by simp
 have s0 := cell_of_row _ _ 0 _ _ _ hrS
 have s1 := cell_of_row _ _ 1 _ _ _ hrS
 have s2 := cell_of_row _ _ 2 _ _ _ hrS
 have s3 := cell_of_row _ _ 3 _ _ _ hrS
 simp only [List.getElem?_toArray, List.getElem?_cons_succ, List.getElem?_cons_zero] at s0 s1 s2 s3
 have hok : okOf so = ((ofAll so).2.1 == 0) := rfl
 have hgm : gmOf so = (ofAll so).1 := rfl
 unfold GrGo
 rw [hok, hgm]
 generalize ofAll so = R at HOf ⊢
 obtain ⟨G, E0, P0, N0⟩ := R
 simp only at HOf ⊢
 clear hok hgm h hs hB
 go_enter Try.func13, Try.ntmps13
 go_upto_region 1 with fail
 generalize ((w.alloc (.cells #[.string so.pro, .slice a1 n1 c1, .slice a2 n2 c2, .string so.tail] 25)).alloc (.cells #[.slice none 0 0, .slice none 0 0, .slice none 0 0, .string ⟨#[]⟩, .string ⟨#[]⟩] 38)) = V2 at *
 have HOf2 := Lib.hid (HOf.out _ hb2)
 clear HOf
 generalize hpr : G.pro = pr at *
 generalize htl : G.tail = tl at *
 go_upto_region 2 with (first | (go_at_call 35; (with_reducible refine HOf2.out.mono ?_); rintro e w3 ⟨t, n, p, m1, d1, m2, d2, m3, d3, S, rfl, hF, hS, hb3⟩))
 have hb4 := hb2.trans (hb3.mono hb2.size)
 have hk : Below w3.heap.size w3 (w3.alloc (.cells #[.slice t m1 d1, .slice n m2 d2, .slice p m3 d3, .string pr, .string tl] 38)) := (Below.refl _ _).alloc (Nat.le_refl _) _
 have hb5 := hb4.trans (hk.mono hb4.size)
 have hrG3 := (hb3.block (w.heap.size + 1) (by rw [hz2]; omega)).trans hrG
 have hrG4 := ofKeep w3 (.cells #[.slice t m1 d1, .slice n m2 d2, .slice p m3 d3, .string pr, .string tl] 38) hrG3
 have hrN := ofMade w3 #[.slice t m1 d1, .slice n m2 d2, .slice p m3 d3, .string pr, .string tl] 38 w3.heap.size rfl
 have hsz := hb3.size
 rw [hz2] at hsz
 have k0 := cell_of_row _ _ 0 _ _ _ hrN
 have k1 := cell_of_row _ _ 1 _ _ _ hrN
 have k2 := cell_of_row _ _ 2 _ _ _ hrN
 have k3 := cell_of_row _ _ 3 _ _ _ hrN
 have k4 := cell_of_row _ _ 4 _ _ _ hrN
 simp only [List.getElem?_toArray, List.getElem?_cons_succ, List.getElem?_cons_zero] at k0 k1 k2 k3 k4
 have hF4 : Firm S (w3.alloc (.cells #[.slice t m1 d1, .slice n m2 d2, .slice p m3 d3, .string pr, .string tl] 38)) (fun X => GmV X (.agg #[.slice t m1 d1, .slice n m2 d2, .slice p m3 d3, .string pr, .string tl]) G) := hF.below hk
 clear hF hrS hrG hrG3 hrN s0 s1 s2 s3 hb2 HOf2
 generalize w3.alloc (.cells #[.slice t m1 d1, .slice n m2 d2, .slice p m3 d3, .string pr, .string tl] 38) = w4 at *
 have t0 := cell_of_row _ _ 0 _ _ _ hrG4
 have t1 := cell_of_row _ _ 1 _ _ _ hrG4
 have t2 := cell_of_row _ _ 2 _ _ _ hrG4
 have t3 := cell_of_row _ _ 3 _ _ _ hrG4
 have t4 := cell_of_row _ _ 4 _ _ _ hrG4
 simp only [List.getElem?_toArray, List.getElem?_cons_succ, List.getElem?_cons_zero] at t0 t1 t2 t3 t4
 have z0 : w4.frozen? ⟨w.heap.size + 1, 0, none⟩ = false := free_of_block hrG4
 have z1 : w4.frozen? ⟨w.heap.size + 1, 1, none⟩ = false := free_of_block hrG4
 have z2 : w4.frozen? ⟨w.heap.size + 1, 2, none⟩ = false := free_of_block hrG4
 have z3 : w4.frozen? ⟨w.heap.size + 1, 3, none⟩ = false := free_of_block hrG4
 have z4 : w4.frozen? ⟨w.heap.size + 1, 4, none⟩ = false := free_of_block hrG4
 go_wp2_with fail
 subst hpr
 subst htl
 have hfar : ∀ b, S b → (((((w4.setCell ⟨w.heap.size + 1, 0, none⟩ (.slice t m1 d1)).setCell ⟨w.heap.size + 1, 1, none⟩ (.slice n m2 d2)).setCell ⟨w.heap.size + 1, 2, none⟩ (.slice p m3 d3)).setCell ⟨w.heap.size + 1, 3, none⟩ (.string G.pro)).setCell ⟨w.heap.size + 1, 4, none⟩ (.string G.tail)).heap[b]? = w4.heap[b]? := fun b hb =>
  have hne : b ≠ w.heap.size + 1 := by have := hS b hb; rw [hz2] at this; omega
  set5_far hne _ _ _ _ _
 exact bodyPost_ret (v := .tuple #[.agg #[.slice t m1 d1, .slice n m2 d2, .slice p m3 d3, .string G.pro, .string G.tail], .bool (E0 == 0)]) (results_cell_one rfl _ _ (w.heap.size + 1) 38 #[.slice t m1 d1, .slice n m2 d2, .slice p m3 d3, .string G.pro, .string G.tail] (0, 0) rfl rfl
  (block_set5 hrG4 _ _ _ _ _) Try.underlying38 ofGmInfo) rfl
  ⟨t, n, p, m1, d1, m2, d2, m3, d3, S, rfl, Firm.imp (hF4.keep hfar) (fun X hX => GmO.of hX), fun b hb => by have := hS b hb; rw [hz2] at this; omega, set5_below hb5 (Nat.le_succ _) _ _ _ _ _⟩
end Go.Proofs.Ytkgbifbbpmdpgaa
