/- leveled, walked. -/
import Derived.Test.YtkgbifbbpmdpgaaPLv0
import Derived.Deep.RegionLaw
import Derived.Deep.OwnRows
import Derived.Deep.AppendLies
set_option linter.unusedVariables false
set_option linter.unusedSimpArgs false
namespace Go.Proofs.Ytkgbifbbpmdpgaa
open List renaming getElem_toArray → gA, getElem_cons_succ → gB, getElem_cons_zero → gC, setIfInBounds_toArray → gD, set_cons_zero → gE, set_cons_succ → gF
open Go.RowKit
theorem lvDeclInfo : (Try.prog.info? 64).map (fun i => (i.zero, i.size, i.bytes)) = some (some (.agg #[.int .i64 0, .string ByteArray.empty, .slice none 0 0, .int .i64 0]), 4, 56) := by kernel_rfl
theorem lvAltInfo : (Try.prog.info? 71).map (fun i => (i.zero, i.size, i.bytes)) = some (some (.agg #[.slice none 0 0, .string ByteArray.empty, .bool false, .int .i64 0, .int .i64 0, .int .i64 0]), 6, 72) := by kernel_rfl
def LvGo (so : So) (n : Nat) (w : World) (E : Ending) (w' : World) : Prop := ∃ (t nn p : Option Addr) (n1 c1 n2 c2 n3 c3 : Nat) (S : Nat → Prop),
 E = .returned (.tuple #[.agg #[.slice t n1 c1, .slice nn n2 c2, .slice p n3 c3, .string (gmOf so).pro, .string (gmOf so).tail], .int .i64 (n : Int), .bool (okOf so)]) ∧
 Firm S w' (fun X => GmO X t nn p n1 c1 n2 c2 n3 c3 (gmOf so).pro (gmOf so).tail (gmOf so)) ∧ (∀ b, S b → w.heap.size ≤ b) ∧ Below w.heap.size w w'
theorem results_cell_two {fn : Func} {p q r : Tmp} {ty : TypeId} {P : Program} (h : fn.results = #[.cell p ty, .tmp q, .tmp r]) (tmps : Array Value) (w : World) (g : Nat) (t : TypeId) (cs : Array Value) (fr : Nat × Nat) {fs : Array Field}
  (hp : tmps.getD p undef = .pointer (some ⟨g, 0, none⟩)) {u v : Value} (hv : tmps.getD q undef = u) (hv2 : tmps.getD r undef = v) (hg : w.heap[g]? = some (.cells cs t fr))
  (hu : P.underlying ty = some (.struct fs)) (hi : (P.info? ty).map (·.size) = some cs.size) :
  (results fn tmps).run P w = .ok (.tuple #[.agg cs, u, v]) w := by
 have hp' : tmps[p]?.getD undef = .pointer (some ⟨g, 0, none⟩) := by simpa using hp
 subst hv hv2
 simp [results, h, hp', asAddr, run_loadVar_row w g t ty cs fr _ hg hu rfl hi]
set_option maxRecDepth 100000 in
set_option maxHeartbeats 40000000 in
theorem leveled_any {w : World} {a : Option Addr} {len cap : Nat} {kinds : List Int} (hk : IntsV w (.slice a len cap) kinds) (hwf : ∀ x ∈ kinds, (Lit.int .i64 x).wf = true) (o s : Nat) (ho : o ≤ 900000) (hs : s ≤ 900000) :
  Calls Try.prog 18 #[.slice a len cap, .int .i64 (o : Int), .int .i64 (s : Int)] w (LvGo (levS kinds o s) (min kinds.length 9) w) := by
 obtain ⟨a', n', c', e0, hl0, hc0, hm0, hx0⟩ := hk.open
 cases e0
 have hmin : (if (9 : Int) < (len : Int) then (9 : Int) else (len : Int)) = ((min kinds.length 9 : Nat) : Int) := by rw [← hl0.out]; split <;> omega
 unfold LvGo
 generalize hgg : gmOf (levS kinds o s) = g
 generalize hoo : okOf (levS kinds o s) = ok
 generalize hn : min kinds.length 9 = n at *
 have hb4 : Below w.heap.size w ((((w.alloc (.cells #[.slice none 0 0, .slice none 0 0, .slice none 0 0, .string ⟨#[]⟩, .string ⟨#[]⟩] 38)).alloc (.cells #[.string ⟨#[]⟩, .slice none 0 0, .slice none 0 0, .string ⟨#[]⟩] 25)).alloc (.cells #[.string ⟨#[101]⟩, .bool false, .int .i64 0, .int .i64 0, .string ⟨#[]⟩, .int .i64 0] 78)).alloc (.cells #[.string ⟨#[101]⟩, .slice none 0 0, .int .i64 0] 74)) := ((((Below.refl w.heap.size w).alloc (Nat.le_refl _) _).alloc (by simp) _).alloc (by simp; omega) _).alloc (by simp; omega) _
 have hM0 : LvM w ((((w.alloc (.cells #[.slice none 0 0, .slice none 0 0, .slice none 0 0, .string ⟨#[]⟩, .string ⟨#[]⟩] 38)).alloc (.cells #[.string ⟨#[]⟩, .slice none 0 0, .slice none 0 0, .string ⟨#[]⟩] 25)).alloc (.cells #[.string ⟨#[101]⟩, .bool false, .int .i64 0, .int .i64 0, .string ⟨#[]⟩, .int .i64 0] 78)).alloc (.cells #[.string ⟨#[101]⟩, .slice none 0 0, .int .i64 0] 74)) (w.heap.size + 4) w.heap.size (.slice none 0 0) (.slice none 0 0) [] [] (fun _ => False) (fun _ => False) [] [] :=
  ⟨hb4, by simp, heap_put _ _ (heap_put _ _ (heap_put _ _ (heap_new _ _ _ _ rfl))), heap_put _ _ (heap_put _ _ (heap_new _ _ _ _ (by simp))), heap_put _ _ (heap_new _ _ _ _ (by simp)), heap_new _ _ _ _ (by simp),
   GrowL.nil _ _ _ _ _, GrowL.nil _ _ _ _ _, fun b h => h.elim, fun b h => h.elim, fun b h => by rcases h with h | h; exact h.elim; cases h⟩
 go_enter Try.func18, Try.ntmps18
 go_upto_region 5 with fail
 generalize ((((w.alloc (.cells #[.slice none 0 0, .slice none 0 0, .slice none 0 0, .string ⟨#[]⟩, .string ⟨#[]⟩] 38)).alloc (.cells #[.string ⟨#[]⟩, .slice none 0 0, .slice none 0 0, .string ⟨#[]⟩] 25)).alloc (.cells #[.string ⟨#[101]⟩, .bool false, .int .i64 0, .int .i64 0, .string ⟨#[]⟩, .int .i64 0] 78)).alloc (.cells #[.string ⟨#[101]⟩, .slice none 0 0, .int .i64 0] 74)) = W0 at hb4 hM0 ⊢
 have hs1 : w.heap.size + 1 + 1 = w.heap.size + 2 := rfl
 have hs2 : w.heap.size + 1 + 1 + 1 = w.heap.size + 3 := rfl
 rw [hs2, hs1]
 have hsz : w.heap.size < w.heap.size + 4 := by omega
 generalize hQ : w.heap.size = Q at *
 have hn9 : n ≤ 9 := by omega
 have hnl : n ≤ len := by rw [hl0.out]; omega
 go_wp2_with fail
 go_loopw [13] (fun x13 W => ∃ (i : Nat) (sv rv : Value) (xs ys : List Value) (S1 S2 : Nat → Prop), i ≤ n ∧ x13 = .int .i64 i ∧ LvM w W (Q + 4) Q sv rv xs ys S1 S2 ((List.range i).map (lvD kinds)) ((List.range i).map lvA)) (fun x13 _ => n - (intOf x13).toNat)
 case atStart => exact ⟨0, _, _, [], [], _, _, Nat.zero_le _, rfl, hM0⟩
 case round =>
  clear hM0
  obtain ⟨i, sv, rv, xs, ys, S1, S2, hi, rfl, hM⟩ := hrel
  rename World => W
  by_cases hlt : i < n
  · have i1 : (i : Int) < (n : Int) := by omega
    have HDg := Lib.hid (digits_t i (by omega) W)
    have hds := digT_size i
    have hno : ¬ 9223372036854775807 < (⟨#[116]⟩ : ByteArray).size + (digT i).size := by
     have : (⟨#[116]⟩ : ByteArray).size = 1 := rfl
     omega
    have htB : (⟨#[116]⟩ : ByteArray) ++ digT i = tB i := rfl
    go_upto_region 9 with (first | (go_at_call 28; (with_reducible refine HDg.out.mono ?_); rintro e w5 ⟨rfl, hb5⟩))
    have hk5 := hb5.alloc hb5.size (.cells #[.string (tB i), .bool false, .int .i64 0, .int .i64 0] 68)
    have hM6 := hM.below hk5
    have hrT := heap_new w5 #[.string (tB i), .bool false, .int .i64 0, .int .i64 0] 68 _ rfl
    have hTs : W.heap.size ≤ w5.heap.size := hb5.size
    have hOwnW : ∀ b, sv.ownBlock = some b → b < W.heap.size := fun b hb => (hM.g1.own.lt b hb).2
    have hSzW := hM.sz
    generalize w5.alloc (.cells #[.string (tB i), .bool false, .int .i64 0, .int .i64 0] 68) = W6 at hM6 hrT hk5 ⊢
    generalize w5.heap.size = Tb at *
    have hTl := lt_of_block hrT
    have t0 := cell_of_row _ _ 0 _ _ _ hrT
    have t1 := cell_of_row _ _ 1 _ _ _ hrT
    have t2 := cell_of_row _ _ 2 _ _ _ hrT
    have t3 := cell_of_row _ _ 3 _ _ _ hrT
    have c1 := cell_of_row _ _ 1 _ _ _ hM6.sb
    simp only [List.getElem?_toArray, List.getElem?_cons_succ, List.getElem?_cons_zero] at t0 t1 t2 t3 c1
    obtain ⟨kb, ko, rfl, kc⟩ := hx0.out i (by omega)
    have hkw : (Lit.int .i64 (kinds.getD i 0)).wf = true := by
     refine hwf _ ?_
     rw [List.getD_eq_getElem?_getD, List.getElem?_eq_getElem (by omega)]
     exact List.getElem_mem _
    have k6 : W6.cell? ⟨kb, ko + i, none⟩ = some (.int .i64 (kinds.getD i 0)) := cell_up hM6.low kc
    have HWi : Hid (∀ X, Calls Try.prog 20 #[.int .i64 (kinds.getD i 0), .int .i64 3] X fun e w' => e = .returned (.int .i64 (kinds.getD i 0 % 3)) ∧ X = w') := Lib.hid (fun X => within_any (kinds.getD i 0) 3 X hkw (by omega) (by omega))
    have hm3 := Int.emod_nonneg (kinds.getD i 0) (show (3 : Int) ≠ 0 by decide)
    have hm3' := Int.emod_lt_of_pos (kinds.getD i 0) (show (0 : Int) < 3 by decide)
    have hown := hM6.g1.own
    rw [List.length_map, List.length_range] at hown
    obtain ⟨j0, hi, iz0, iz1, iz2⟩ := rd_info lvDeclInfo
    have i2 : (i : Int) < (len : Int) := by omega
    have HM6 := Lib.hid hM6
    have hSz6 := hM6.sz
    have hne : some (Q + 1) ≠ sv.ownBlock := fun h => by have := (hown.lt _ h.symm).1; omega
    have hkl : lvK kinds i = 2 + kinds.getD i 0 % 3 := rfl
    generalize kinds.getD i 0 = kv at *
    clear hrT hM6 hM hk5 hb4
    have hbX : Below W6.heap.size W6 ((W6.alloc (.cells #[.string (tB i), .bool false, .int .i64 0, .int .i64 0] 68)).alloc (.cells #[.int .i64 (2 + kv % 3), .string ⟨#[]⟩, .slice (some ⟨W6.heap.size, 0, none⟩) 1 1, .int .i64 0] 64)).drew := (((Below.refl W6.heap.size W6).alloc (Nat.le_refl _) (.cells #[.string (tB i), .bool false, .int .i64 0, .int .i64 0] 68)).alloc (by simp) (.cells #[.int .i64 (2 + kv % 3), .string ⟨#[]⟩, .slice (some ⟨W6.heap.size, 0, none⟩) 1 1, .int .i64 0] 64)).drew
    have hownX := own_below hown hbX
    have c1X : ((W6.alloc (.cells #[.string (tB i), .bool false, .int .i64 0, .int .i64 0] 68)).alloc (.cells #[.int .i64 (2 + kv % 3), .string ⟨#[]⟩, .slice (some ⟨W6.heap.size, 0, none⟩) 1 1, .int .i64 0] 64)).drew.cell? ⟨Q + 1, 1, none⟩ = some sv := cell_up hbX c1
    have z1X : ((W6.alloc (.cells #[.string (tB i), .bool false, .int .i64 0, .int .i64 0] 68)).alloc (.cells #[.int .i64 (2 + kv % 3), .string ⟨#[]⟩, .slice (some ⟨W6.heap.size, 0, none⟩) 1 1, .int .i64 0] 64)).drew.frozen? ⟨Q + 1, 1, none⟩ = false := free_of_block (block_below HM6.out.sb hbX (lt_of_block HM6.out.sb))
    have szX : ((W6.alloc (.cells #[.string (tB i), .bool false, .int .i64 0, .int .i64 0] 68)).alloc (.cells #[.int .i64 (2 + kv % 3), .string ⟨#[]⟩, .slice (some ⟨W6.heap.size, 0, none⟩) 1 1, .int .i64 0] 64)).drew.heap.size = W6.heap.size + 2 := by simp
    have hQX : Q + 1 < ((W6.alloc (.cells #[.string (tB i), .bool false, .int .i64 0, .int .i64 0] 68)).alloc (.cells #[.int .i64 (2 + kv % 3), .string ⟨#[]⟩, .slice (some ⟨W6.heap.size, 0, none⟩) 1 1, .int .i64 0] 64)).drew.heap.size := by rw [szX]; omega
    have newsX : ∀ j u, ([.int .i64 (2 + kv % 3), .string ⟨#[]⟩, .slice (some ⟨W6.heap.size, 0, none⟩) 1 1, .int .i64 0] : List Value)[j]? = some u → ((W6.alloc (.cells #[.string (tB i), .bool false, .int .i64 0, .int .i64 0] 68)).alloc (.cells #[.int .i64 (2 + kv % 3), .string ⟨#[]⟩, .slice (some ⟨W6.heap.size, 0, none⟩) 1 1, .int .i64 0] 64)).drew.cell? ((⟨W6.heap.size + 1, 0, none⟩ : Addr).add j) = some u := fun j u hj => by
     have := rd_news (W6.alloc (.cells #[.string (tB i), .bool false, .int .i64 0, .int .i64 0] 68)) [.int .i64 (2 + kv % 3), .string ⟨#[]⟩, .slice (some ⟨W6.heap.size, 0, none⟩) 1 1, .int .i64 0] 64 j u hj
     simpa using this
    have hwr : IntKind.i64.wrap (2 + kv % 3) = 2 + kv % 3 := IntWalk.i64_in _ ⟨by omega, by omega⟩
    have c1A := cell_alloc c1 (.cells #[.string (tB i), .bool false, .int .i64 0, .int .i64 0] 68)
    have k6A := cell_alloc k6 (.cells #[.string (tB i), .bool false, .int .i64 0, .int .i64 0] 68)
    have hbD : Below W6.heap.size W6 W6.drew := (Below.refl _ _).drew
    have hbA : Below W6.heap.size W6 (W6.alloc (.cells #[.string (tB i), .bool false, .int .i64 0, .int .i64 0] 68)).drew := ((Below.refl W6.heap.size W6).alloc (Nat.le_refl _) (.cells #[.string (tB i), .bool false, .int .i64 0, .int .i64 0] 68)).drew
    have HS : Hid (∀ X, Below W6.heap.size W6 X → X.cell? ⟨Tb, 0, none⟩ = some (.string (tB i)) ∧ X.cell? ⟨Tb, 1, none⟩ = some (.bool false) ∧ X.cell? ⟨Tb, 2, none⟩ = some (.int .i64 0) ∧ X.cell? ⟨Tb, 3, none⟩ = some (.int .i64 0) ∧ X.cell? ⟨kb, ko + i, none⟩ = some (.int .i64 kv)) := Lib.hid (fun X hX => ⟨cell_up hX t0, cell_up hX t1, cell_up hX t2, cell_up hX t3, cell_up hX k6⟩)
    have hneT : some Tb ≠ sv.ownBlock := fun h => by have := hOwnW Tb h.symm; omega
    have hkb := World.block_lt_of_cell? _ _ kc
    have hneK : some kb ≠ sv.ownBlock := fun h => by
     have h1 := (hown.lt _ h.symm).1
     have h2 : kb < Q := by rw [← hQ]; exact hkb
     omega
    have HS7 : Hid (∀ X, World.grownBy ((W6.alloc (.cells #[.string (tB i), .bool false, .int .i64 0, .int .i64 0] 68)).alloc (.cells #[.int .i64 (2 + kv % 3), .string ⟨#[]⟩, .slice (some ⟨W6.heap.size, 0, none⟩) 1 1, .int .i64 0] 64)).drew X sv.ownBlock → X.cell? ⟨Tb, 0, none⟩ = some (.string (tB i)) ∧ X.cell? ⟨Tb, 1, none⟩ = some (.bool false) ∧ X.cell? ⟨Tb, 2, none⟩ = some (.int .i64 0) ∧ X.cell? ⟨Tb, 3, none⟩ = some (.int .i64 0) ∧ X.cell? ⟨kb, ko + i, none⟩ = some (.int .i64 kv)) := Lib.hid (fun X hX => ⟨hX.cell (cell_up hbX t0) hneT, hX.cell (cell_up hbX t1) hneT, hX.cell (cell_up hbX t2) hneT, hX.cell (cell_up hbX t3) hneT, hX.cell (cell_up hbX k6) hneK⟩)
    have hTq : Q + 1 ≠ Tb := by have := hSzW; omega
    have hkq : Q + 1 ≠ kb := by have h2 : kb < Q := by rw [← hQ]; exact hkb
                                omega
    have HS8 : Hid (∀ (X : World) (u : Value), (X.cell? ⟨Tb, 0, none⟩ = some (.string (tB i)) ∧ X.cell? ⟨Tb, 1, none⟩ = some (.bool false) ∧ X.cell? ⟨Tb, 2, none⟩ = some (.int .i64 0) ∧ X.cell? ⟨Tb, 3, none⟩ = some (.int .i64 0) ∧ X.cell? ⟨kb, ko + i, none⟩ = some (.int .i64 kv)) → (X.setCell ⟨Q + 1, 1, none⟩ u).cell? ⟨Tb, 0, none⟩ = some (.string (tB i)) ∧ (X.setCell ⟨Q + 1, 1, none⟩ u).cell? ⟨Tb, 1, none⟩ = some (.bool false) ∧ (X.setCell ⟨Q + 1, 1, none⟩ u).cell? ⟨Tb, 2, none⟩ = some (.int .i64 0) ∧ (X.setCell ⟨Q + 1, 1, none⟩ u).cell? ⟨Tb, 3, none⟩ = some (.int .i64 0) ∧ (X.setCell ⟨Q + 1, 1, none⟩ u).cell? ⟨kb, ko + i, none⟩ = some (.int .i64 kv)) := Lib.hid (fun X u h => ⟨(World.cell?_setCell_far _ _ _ _ hTq).trans h.1, (World.cell?_setCell_far _ _ _ _ hTq).trans h.2.1, (World.cell?_setCell_far _ _ _ _ hTq).trans h.2.2.1, (World.cell?_setCell_far _ _ _ _ hTq).trans h.2.2.2.1, (World.cell?_setCell_far _ _ _ _ hkq).trans h.2.2.2.2⟩)
    have hdl : ((List.range i).map (lvD kinds)).length = i := by rw [List.length_map, List.length_range]
    have hFx : Firm (fun b => b = W6.heap.size) ((W6.alloc (.cells #[.string (tB i), .bool false, .int .i64 0, .int .i64 0] 68)).alloc (.cells #[.int .i64 (2 + kv % 3), .string ⟨#[]⟩, .slice (some ⟨W6.heap.size, 0, none⟩) 1 1, .int .i64 0] 64)).drew (fun V => dcR V [.int .i64 (2 + kv % 3), .string ⟨#[]⟩, .slice (some ⟨W6.heap.size, 0, none⟩) 1 1, .int .i64 0] (lvD kinds i)) := by
     have h1 := sms_lit W6 [nameG (tB i)] #[.string (tB i), .bool false, .int .i64 0, .int .i64 0] rfl (by simp)
     have h2 := h1.below ((((Below.refl (W6.alloc (.cells #[.string (tB i), .bool false, .int .i64 0, .int .i64 0] 68)).heap.size (W6.alloc (.cells #[.string (tB i), .bool false, .int .i64 0, .int .i64 0] 68))).alloc (Nat.le_refl _) (.cells #[.int .i64 (2 + kv % 3), .string ⟨#[]⟩, .slice (some ⟨W6.heap.size, 0, none⟩) 1 1, .int .i64 0] 64))).drew)
     exact Firm.imp h2 (fun V hV => ⟨_, by show _ = [Value.int .i64 (lvK kinds i), _, _, _]; rw [hkl]; rfl, hV⟩)
    have HP1 : Hid (∀ (gg cap2 : Nat) (w7 : World), w7.ownsRow (Q + 4) 64 4 (.slice (some ⟨gg, 0, none⟩) (i + 1) cap2) (i + 1) (xs ++ [.int .i64 (2 + kv % 3), .string ⟨#[]⟩, .slice (some ⟨W6.heap.size, 0, none⟩) 1 1, .int .i64 0]) → World.grownBy ((W6.alloc (.cells #[.string (tB i), .bool false, .int .i64 0, .int .i64 0] 68)).alloc (.cells #[.int .i64 (2 + kv % 3), .string ⟨#[]⟩, .slice (some ⟨W6.heap.size, 0, none⟩) 1 1, .int .i64 0] 64)).drew w7 sv.ownBlock → (sv.ownBlock = some gg ∨ gg = W6.heap.size + 2) →
      LvM w (w7.setCell ⟨Q + 1, 1, none⟩ (.slice (some ⟨gg, 0, none⟩) (i + 1) cap2)) (Q + 4) Q (.slice (some ⟨gg, 0, none⟩) (i + 1) cap2) rv (xs ++ [.int .i64 (2 + kv % 3), .string ⟨#[]⟩, .slice (some ⟨W6.heap.size, 0, none⟩) 1 1, .int .i64 0]) ys (fun b => S1 b ∨ b = W6.heap.size) S2 ((List.range (i + 1)).map (lvD kinds)) ((List.range i).map lvA)) := Lib.hid (fun gg cap2 w7 h1 h2 h3 => by
     have := HM6.out.push1 (d := lvD kinds i) (by omega) (Nat.le_refl _) hbX hFx (fun b hb => by rw [hb]; exact Nat.le_refl _) h2 (by rw [hdl]; exact h1) (own_new h3 szX.symm) rfl
     rw [List.range_succ, List.map_append]
     exact this)
    clear hx0 hwf hl0 hFx hdl hkl
    go_upto_region 9 with fail
    go_cut [] from 32 to 45 (fun wx => Hid (∃ (sv' : Value) (xs' : List Value) (S1' : Nat → Prop), LvM w wx (Q + 4) Q sv' rv xs' ys S1' S2 ((List.range (i + 1)).map (lvD kinds)) ((List.range i).map lvA) ∧ wx.cell? ⟨Tb, 0, none⟩ = some (.string (tB i)) ∧ wx.cell? ⟨Tb, 1, none⟩ = some (.bool false) ∧ wx.cell? ⟨Tb, 2, none⟩ = some (.int .i64 0) ∧ wx.cell? ⟨Tb, 3, none⟩ = some (.int .i64 0) ∧ wx.cell? ⟨kb, ko + i, none⟩ = some (.int .i64 kv)))
    case first =>
      refine wp_region_held_drew (S := (fun Xw => Xw.cell? ⟨Tb, 0, none⟩ = some (.string (tB i)) ∧ Xw.cell? ⟨Tb, 1, none⟩ = some (.bool false) ∧ Xw.cell? ⟨Tb, 2, none⟩ = some (.int .i64 0) ∧ Xw.cell? ⟨Tb, 3, none⟩ = some (.int .i64 0) ∧ Xw.cell? ⟨kb, ko + i, none⟩ = some (.int .i64 kv))) (by kernel_rfl) ?hS0 (fun hHeld => ?hR0)
      case hS0 => exact HS.out _ hbD
      case hR0 =>
       refine tk 0 ?_
       try simp only [Act.put, gA, gB, gC, gD, gE, gF]
       refine tk 2 ?_
       try simp only [Act.put, gA, gB, gC, gD, gE, gF]
       refine tk 3 ?_
       try simp only [Act.put, gA, gB, gC, gD, gE, gF]
       refine tk 4 ?_
       try simp only [Act.put, gA, gB, gC, gD, gE, gF]
       refine tk 5 ?_
       try simp only [Act.put, gA, gB, gC, gD, gE, gF]
       refine tk 8 ?_
       try simp only [Act.put, gA, gB, gC, gD, gE, gF]
       refine wpAnyH_ready (rs := [1, 6, 9]) (by kernel_rfl) (by simp) ?_
       refine AllReadyH.cons rfl (fun K hK => ?_) ?_
       · try simp only [gA, gB, gC]
         go_simp
         refine hK.out _ _ (HS.out _ hbD) (fun hHeld => ?_)
         clear hK K
         try simp only [Act.put, gA, gB, gC, gD, gE, gF]
         refine wpAnyH_ready (rs := [6, 9]) (by kernel_rfl) (by simp) ?_
         refine AllReadyH.cons rfl (fun K hK => ?_) ?_
         · try simp only [gA, gB, gC]
           go_simp
           go_at_call 20
           (with_reducible refine (HWi.out _).mono ?_)
           rintro e w9 ⟨rfl, rfl⟩
           go_wp2_with fail
           refine hK.out _ _ (HS.out _ hbD) (fun hHeld => ?_)
           clear hK K
           try simp only [Act.put, gA, gB, gC, gD, gE, gF]
           refine tk 7 ?_
           try simp only [Act.put, gA, gB, gC, gD, gE, gF]
           refine wpAnyH_ready (rs := [9]) (by kernel_rfl) (by simp) ?_
           refine AllReadyH.cons rfl (fun K hK => ?_) .nil
           try simp only [gA, gB, gC]
           go_simp
           refine hK.out _ _ (HS.out _ hbA) (fun hHeld => ?_)
           clear hK K
           try simp only [Act.put, gA, gB, gC, gD, gE, gF]
           refine tk 10 ?_
           try simp only [Act.put, gA, gB, gC, gD, gE, gF]
           refine wpAnyH_ready (rs := [11]) (by kernel_rfl) (by simp) ?_
           refine AllReadyH.cons rfl (fun K hK => ?_) .nil
           try simp only [gA, gB, gC]
           go_simp
           refine hK.out _ _ (HS.out _ hbX) (fun hHeld => ?_)
           clear hK K
           try simp only [Act.put, gA, gB, gC, gD, gE, gF]
           refine wpAnyH_ready (rs := [12]) (by kernel_rfl) (by simp) ?_
           refine AllReadyH.cons rfl (fun K hK => ?_) .nil
           refine step_append_lies _ (by rfl) _ _ _ (by rfl) (Q + 4) 64 j0 (.agg #[.int .i64 0, .string ByteArray.empty, .slice none 0 0, .int .i64 0]) 4 56 Try.underlying22 hi iz0 iz1 iz2 rfl (by omega) sv i xs (by rfl) hownX ⟨W6.heap.size + 1, 0, none⟩ 1 1 [.int .i64 (2 + kv % 3), .string ⟨#[]⟩, .slice (some ⟨W6.heap.size, 0, none⟩) 1 1, .int .i64 0] (by rfl) (by rfl) newsX (by simp [Value.oneCell']) (by omega) (by unfold maxLen; omega) (by omega) (by rw [szX]; omega) (W6.heap.size + 2) szX ?_
           intro gg cap2 w7 hown7 hgrow7 hat hlt7
           have f7 : w7.cell? ⟨Q + 1, 1, none⟩ = some sv := hgrow7.cell c1X hne
           have r7 : w7.frozen? ⟨Q + 1, 1, none⟩ = false := (hgrow7.frozen_far ⟨Q + 1, 1, none⟩ hQX hne).trans z1X
           have S7 := HS7.out _ hgrow7
           refine hK.out _ _ S7 (fun hHeld => ?_)
           clear hK K
           try simp only [Act.put, gA, gB, gC, gD, gE, gF]
           refine tk 13 ?_
           try simp only [Act.put, gA, gB, gC, gD, gE, gF]
           refine wpAnyH_ready (rs := [14]) (by kernel_rfl) (by simp) ?_
           refine AllReadyH.cons rfl (fun K hK => ?_) .nil
           try simp only [gA, gB, gC]
           go_simp
           refine hK.out _ _ (HS8.out _ _ S7) (fun hHeld => ?_)
           clear hK K
           try simp only [Act.put, gA, gB, gC, gD, gE, gF]
           refine wpAnyH_done (by kernel_rfl) ?_ _
           go_wp2_with fail
           go_meet
           case rel => exact Lib.hid ⟨_, _, _, HP1.out _ _ _ hown7 hgrow7 hat, HS8.out _ _ S7⟩
         refine AllReadyH.cons rfl (fun K hK => ?_) .nil
         try simp only [gA, gB, gC]
         go_simp
         refine hK.out _ _ (HS.out _ hbA) (fun hHeld => ?_)
         clear hK K
         try simp only [Act.put, gA, gB, gC, gD, gE, gF]
         refine wpAnyH_ready (rs := [6]) (by kernel_rfl) (by simp) ?_
         refine AllReadyH.cons rfl (fun K hK => ?_) .nil
         try simp only [gA, gB, gC]
         go_simp
         go_at_call 20
         (with_reducible refine (HWi.out _).mono ?_)
         rintro e w9 ⟨rfl, rfl⟩
         go_wp2_with fail
         refine hK.out _ _ (HS.out _ hbA) (fun hHeld => ?_)
         clear hK K
         try simp only [Act.put, gA, gB, gC, gD, gE, gF]
         refine tk 7 ?_
         try simp only [Act.put, gA, gB, gC, gD, gE, gF]
         refine tk 10 ?_
         try simp only [Act.put, gA, gB, gC, gD, gE, gF]
         refine wpAnyH_ready (rs := [11]) (by kernel_rfl) (by simp) ?_
         refine AllReadyH.cons rfl (fun K hK => ?_) .nil
         try simp only [gA, gB, gC]
         go_simp
         refine hK.out _ _ (HS.out _ hbX) (fun hHeld => ?_)
         clear hK K
         try simp only [Act.put, gA, gB, gC, gD, gE, gF]
         refine wpAnyH_ready (rs := [12]) (by kernel_rfl) (by simp) ?_
         refine AllReadyH.cons rfl (fun K hK => ?_) .nil
         refine step_append_lies _ (by rfl) _ _ _ (by rfl) (Q + 4) 64 j0 (.agg #[.int .i64 0, .string ByteArray.empty, .slice none 0 0, .int .i64 0]) 4 56 Try.underlying22 hi iz0 iz1 iz2 rfl (by omega) sv i xs (by rfl) hownX ⟨W6.heap.size + 1, 0, none⟩ 1 1 [.int .i64 (2 + kv % 3), .string ⟨#[]⟩, .slice (some ⟨W6.heap.size, 0, none⟩) 1 1, .int .i64 0] (by rfl) (by rfl) newsX (by simp [Value.oneCell']) (by omega) (by unfold maxLen; omega) (by omega) (by rw [szX]; omega) (W6.heap.size + 2) szX ?_
         intro gg cap2 w7 hown7 hgrow7 hat hlt7
         have f7 : w7.cell? ⟨Q + 1, 1, none⟩ = some sv := hgrow7.cell c1X hne
         have r7 : w7.frozen? ⟨Q + 1, 1, none⟩ = false := (hgrow7.frozen_far ⟨Q + 1, 1, none⟩ hQX hne).trans z1X
         have S7 := HS7.out _ hgrow7
         refine hK.out _ _ S7 (fun hHeld => ?_)
         clear hK K
         try simp only [Act.put, gA, gB, gC, gD, gE, gF]
         refine tk 13 ?_
         try simp only [Act.put, gA, gB, gC, gD, gE, gF]
         refine wpAnyH_ready (rs := [14]) (by kernel_rfl) (by simp) ?_
         refine AllReadyH.cons rfl (fun K hK => ?_) .nil
         try simp only [gA, gB, gC]
         go_simp
         refine hK.out _ _ (HS8.out _ _ S7) (fun hHeld => ?_)
         clear hK K
         try simp only [Act.put, gA, gB, gC, gD, gE, gF]
         refine wpAnyH_done (by kernel_rfl) ?_ _
         go_wp2_with fail
         go_meet
         case rel => exact Lib.hid ⟨_, _, _, HP1.out _ _ _ hown7 hgrow7 hat, HS8.out _ _ S7⟩
       refine AllReadyH.cons rfl (fun K hK => ?_) ?_
       · try simp only [gA, gB, gC]
         go_simp
         go_at_call 20
         (with_reducible refine (HWi.out _).mono ?_)
         rintro e w9 ⟨rfl, rfl⟩
         go_wp2_with fail
         refine hK.out _ _ (HS.out _ hbD) (fun hHeld => ?_)
         clear hK K
         try simp only [Act.put, gA, gB, gC, gD, gE, gF]
         refine tk 7 ?_
         try simp only [Act.put, gA, gB, gC, gD, gE, gF]
         refine wpAnyH_ready (rs := [1, 9]) (by kernel_rfl) (by simp) ?_
         refine AllReadyH.cons rfl (fun K hK => ?_) ?_
         · try simp only [gA, gB, gC]
           go_simp
           refine hK.out _ _ (HS.out _ hbD) (fun hHeld => ?_)
           clear hK K
           try simp only [Act.put, gA, gB, gC, gD, gE, gF]
           refine wpAnyH_ready (rs := [9]) (by kernel_rfl) (by simp) ?_
           refine AllReadyH.cons rfl (fun K hK => ?_) .nil
           try simp only [gA, gB, gC]
           go_simp
           refine hK.out _ _ (HS.out _ hbA) (fun hHeld => ?_)
           clear hK K
           try simp only [Act.put, gA, gB, gC, gD, gE, gF]
           refine tk 10 ?_
           try simp only [Act.put, gA, gB, gC, gD, gE, gF]
           refine wpAnyH_ready (rs := [11]) (by kernel_rfl) (by simp) ?_
           refine AllReadyH.cons rfl (fun K hK => ?_) .nil
           try simp only [gA, gB, gC]
           go_simp
           refine hK.out _ _ (HS.out _ hbX) (fun hHeld => ?_)
           clear hK K
           try simp only [Act.put, gA, gB, gC, gD, gE, gF]
           refine wpAnyH_ready (rs := [12]) (by kernel_rfl) (by simp) ?_
           refine AllReadyH.cons rfl (fun K hK => ?_) .nil
           refine step_append_lies _ (by rfl) _ _ _ (by rfl) (Q + 4) 64 j0 (.agg #[.int .i64 0, .string ByteArray.empty, .slice none 0 0, .int .i64 0]) 4 56 Try.underlying22 hi iz0 iz1 iz2 rfl (by omega) sv i xs (by rfl) hownX ⟨W6.heap.size + 1, 0, none⟩ 1 1 [.int .i64 (2 + kv % 3), .string ⟨#[]⟩, .slice (some ⟨W6.heap.size, 0, none⟩) 1 1, .int .i64 0] (by rfl) (by rfl) newsX (by simp [Value.oneCell']) (by omega) (by unfold maxLen; omega) (by omega) (by rw [szX]; omega) (W6.heap.size + 2) szX ?_
           intro gg cap2 w7 hown7 hgrow7 hat hlt7
           have f7 : w7.cell? ⟨Q + 1, 1, none⟩ = some sv := hgrow7.cell c1X hne
           have r7 : w7.frozen? ⟨Q + 1, 1, none⟩ = false := (hgrow7.frozen_far ⟨Q + 1, 1, none⟩ hQX hne).trans z1X
           have S7 := HS7.out _ hgrow7
           refine hK.out _ _ S7 (fun hHeld => ?_)
           clear hK K
           try simp only [Act.put, gA, gB, gC, gD, gE, gF]
           refine tk 13 ?_
           try simp only [Act.put, gA, gB, gC, gD, gE, gF]
           refine wpAnyH_ready (rs := [14]) (by kernel_rfl) (by simp) ?_
           refine AllReadyH.cons rfl (fun K hK => ?_) .nil
           try simp only [gA, gB, gC]
           go_simp
           refine hK.out _ _ (HS8.out _ _ S7) (fun hHeld => ?_)
           clear hK K
           try simp only [Act.put, gA, gB, gC, gD, gE, gF]
           refine wpAnyH_done (by kernel_rfl) ?_ _
           go_wp2_with fail
           go_meet
           case rel => exact Lib.hid ⟨_, _, _, HP1.out _ _ _ hown7 hgrow7 hat, HS8.out _ _ S7⟩
         refine AllReadyH.cons rfl (fun K hK => ?_) .nil
         try simp only [gA, gB, gC]
         go_simp
         refine hK.out _ _ (HS.out _ hbA) (fun hHeld => ?_)
         clear hK K
         try simp only [Act.put, gA, gB, gC, gD, gE, gF]
         refine tk 10 ?_
         try simp only [Act.put, gA, gB, gC, gD, gE, gF]
         refine wpAnyH_ready (rs := [1, 11]) (by kernel_rfl) (by simp) ?_
         refine AllReadyH.cons rfl (fun K hK => ?_) ?_
         · try simp only [gA, gB, gC]
           go_simp
           refine hK.out _ _ (HS.out _ hbA) (fun hHeld => ?_)
           clear hK K
           try simp only [Act.put, gA, gB, gC, gD, gE, gF]
           refine wpAnyH_ready (rs := [11]) (by kernel_rfl) (by simp) ?_
           refine AllReadyH.cons rfl (fun K hK => ?_) .nil
           try simp only [gA, gB, gC]
           go_simp
           refine hK.out _ _ (HS.out _ hbX) (fun hHeld => ?_)
           clear hK K
           try simp only [Act.put, gA, gB, gC, gD, gE, gF]
           refine wpAnyH_ready (rs := [12]) (by kernel_rfl) (by simp) ?_
           refine AllReadyH.cons rfl (fun K hK => ?_) .nil
           refine step_append_lies _ (by rfl) _ _ _ (by rfl) (Q + 4) 64 j0 (.agg #[.int .i64 0, .string ByteArray.empty, .slice none 0 0, .int .i64 0]) 4 56 Try.underlying22 hi iz0 iz1 iz2 rfl (by omega) sv i xs (by rfl) hownX ⟨W6.heap.size + 1, 0, none⟩ 1 1 [.int .i64 (2 + kv % 3), .string ⟨#[]⟩, .slice (some ⟨W6.heap.size, 0, none⟩) 1 1, .int .i64 0] (by rfl) (by rfl) newsX (by simp [Value.oneCell']) (by omega) (by unfold maxLen; omega) (by omega) (by rw [szX]; omega) (W6.heap.size + 2) szX ?_
           intro gg cap2 w7 hown7 hgrow7 hat hlt7
           have f7 : w7.cell? ⟨Q + 1, 1, none⟩ = some sv := hgrow7.cell c1X hne
           have r7 : w7.frozen? ⟨Q + 1, 1, none⟩ = false := (hgrow7.frozen_far ⟨Q + 1, 1, none⟩ hQX hne).trans z1X
           have S7 := HS7.out _ hgrow7
           refine hK.out _ _ S7 (fun hHeld => ?_)
           clear hK K
           try simp only [Act.put, gA, gB, gC, gD, gE, gF]
           refine tk 13 ?_
           try simp only [Act.put, gA, gB, gC, gD, gE, gF]
           refine wpAnyH_ready (rs := [14]) (by kernel_rfl) (by simp) ?_
           refine AllReadyH.cons rfl (fun K hK => ?_) .nil
           try simp only [gA, gB, gC]
           go_simp
           refine hK.out _ _ (HS8.out _ _ S7) (fun hHeld => ?_)
           clear hK K
           try simp only [Act.put, gA, gB, gC, gD, gE, gF]
           refine wpAnyH_done (by kernel_rfl) ?_ _
           go_wp2_with fail
           go_meet
           case rel => exact Lib.hid ⟨_, _, _, HP1.out _ _ _ hown7 hgrow7 hat, HS8.out _ _ S7⟩
         refine AllReadyH.cons rfl (fun K hK => ?_) .nil
         try simp only [gA, gB, gC]
         go_simp
         refine hK.out _ _ (HS.out _ hbX) (fun hHeld => ?_)
         clear hK K
         try simp only [Act.put, gA, gB, gC, gD, gE, gF]
         refine wpAnyH_ready (rs := [1]) (by kernel_rfl) (by simp) ?_
         refine AllReadyH.cons rfl (fun K hK => ?_) .nil
         try simp only [gA, gB, gC]
         go_simp
         refine hK.out _ _ (HS.out _ hbX) (fun hHeld => ?_)
         clear hK K
         try simp only [Act.put, gA, gB, gC, gD, gE, gF]
         refine wpAnyH_ready (rs := [12]) (by kernel_rfl) (by simp) ?_
         refine AllReadyH.cons rfl (fun K hK => ?_) .nil
         refine step_append_lies _ (by rfl) _ _ _ (by rfl) (Q + 4) 64 j0 (.agg #[.int .i64 0, .string ByteArray.empty, .slice none 0 0, .int .i64 0]) 4 56 Try.underlying22 hi iz0 iz1 iz2 rfl (by omega) sv i xs (by rfl) hownX ⟨W6.heap.size + 1, 0, none⟩ 1 1 [.int .i64 (2 + kv % 3), .string ⟨#[]⟩, .slice (some ⟨W6.heap.size, 0, none⟩) 1 1, .int .i64 0] (by rfl) (by rfl) newsX (by simp [Value.oneCell']) (by omega) (by unfold maxLen; omega) (by omega) (by rw [szX]; omega) (W6.heap.size + 2) szX ?_
         intro gg cap2 w7 hown7 hgrow7 hat hlt7
         have f7 : w7.cell? ⟨Q + 1, 1, none⟩ = some sv := hgrow7.cell c1X hne
         have r7 : w7.frozen? ⟨Q + 1, 1, none⟩ = false := (hgrow7.frozen_far ⟨Q + 1, 1, none⟩ hQX hne).trans z1X
         have S7 := HS7.out _ hgrow7
         refine hK.out _ _ S7 (fun hHeld => ?_)
         clear hK K
         try simp only [Act.put, gA, gB, gC, gD, gE, gF]
         refine tk 13 ?_
         try simp only [Act.put, gA, gB, gC, gD, gE, gF]
         refine wpAnyH_ready (rs := [14]) (by kernel_rfl) (by simp) ?_
         refine AllReadyH.cons rfl (fun K hK => ?_) .nil
         try simp only [gA, gB, gC]
         go_simp
         refine hK.out _ _ (HS8.out _ _ S7) (fun hHeld => ?_)
         clear hK K
         try simp only [Act.put, gA, gB, gC, gD, gE, gF]
         refine wpAnyH_done (by kernel_rfl) ?_ _
         go_wp2_with fail
         go_meet
         case rel => exact Lib.hid ⟨_, _, _, HP1.out _ _ _ hown7 hgrow7 hat, HS8.out _ _ S7⟩
       refine AllReadyH.cons rfl (fun K hK => ?_) .nil
       try simp only [gA, gB, gC]
       go_simp
       refine hK.out _ _ (HS.out _ hbA) (fun hHeld => ?_)
       clear hK K
       try simp only [Act.put, gA, gB, gC, gD, gE, gF]
       refine wpAnyH_ready (rs := [1, 6]) (by kernel_rfl) (by simp) ?_
       refine AllReadyH.cons rfl (fun K hK => ?_) ?_
       · try simp only [gA, gB, gC]
         go_simp
         refine hK.out _ _ (HS.out _ hbA) (fun hHeld => ?_)
         clear hK K
         try simp only [Act.put, gA, gB, gC, gD, gE, gF]
         refine wpAnyH_ready (rs := [6]) (by kernel_rfl) (by simp) ?_
         refine AllReadyH.cons rfl (fun K hK => ?_) .nil
         try simp only [gA, gB, gC]
         go_simp
         go_at_call 20
         (with_reducible refine (HWi.out _).mono ?_)
         rintro e w9 ⟨rfl, rfl⟩
         go_wp2_with fail
         refine hK.out _ _ (HS.out _ hbA) (fun hHeld => ?_)
         clear hK K
         try simp only [Act.put, gA, gB, gC, gD, gE, gF]
         refine tk 7 ?_
         try simp only [Act.put, gA, gB, gC, gD, gE, gF]
         refine tk 10 ?_
         try simp only [Act.put, gA, gB, gC, gD, gE, gF]
         refine wpAnyH_ready (rs := [11]) (by kernel_rfl) (by simp) ?_
         refine AllReadyH.cons rfl (fun K hK => ?_) .nil
         try simp only [gA, gB, gC]
         go_simp
         refine hK.out _ _ (HS.out _ hbX) (fun hHeld => ?_)
         clear hK K
         try simp only [Act.put, gA, gB, gC, gD, gE, gF]
         refine wpAnyH_ready (rs := [12]) (by kernel_rfl) (by simp) ?_
         refine AllReadyH.cons rfl (fun K hK => ?_) .nil
         refine step_append_lies _ (by rfl) _ _ _ (by rfl) (Q + 4) 64 j0 (.agg #[.int .i64 0, .string ByteArray.empty, .slice none 0 0, .int .i64 0]) 4 56 Try.underlying22 hi iz0 iz1 iz2 rfl (by omega) sv i xs (by rfl) hownX ⟨W6.heap.size + 1, 0, none⟩ 1 1 [.int .i64 (2 + kv % 3), .string ⟨#[]⟩, .slice (some ⟨W6.heap.size, 0, none⟩) 1 1, .int .i64 0] (by rfl) (by rfl) newsX (by simp [Value.oneCell']) (by omega) (by unfold maxLen; omega) (by omega) (by rw [szX]; omega) (W6.heap.size + 2) szX ?_
         intro gg cap2 w7 hown7 hgrow7 hat hlt7
         have f7 : w7.cell? ⟨Q + 1, 1, none⟩ = some sv := hgrow7.cell c1X hne
         have r7 : w7.frozen? ⟨Q + 1, 1, none⟩ = false := (hgrow7.frozen_far ⟨Q + 1, 1, none⟩ hQX hne).trans z1X
         have S7 := HS7.out _ hgrow7
         refine hK.out _ _ S7 (fun hHeld => ?_)
         clear hK K
         try simp only [Act.put, gA, gB, gC, gD, gE, gF]
         refine tk 13 ?_
         try simp only [Act.put, gA, gB, gC, gD, gE, gF]
         refine wpAnyH_ready (rs := [14]) (by kernel_rfl) (by simp) ?_
         refine AllReadyH.cons rfl (fun K hK => ?_) .nil
         try simp only [gA, gB, gC]
         go_simp
         refine hK.out _ _ (HS8.out _ _ S7) (fun hHeld => ?_)
         clear hK K
         try simp only [Act.put, gA, gB, gC, gD, gE, gF]
         refine wpAnyH_done (by kernel_rfl) ?_ _
         go_wp2_with fail
         go_meet
         case rel => exact Lib.hid ⟨_, _, _, HP1.out _ _ _ hown7 hgrow7 hat, HS8.out _ _ S7⟩
       refine AllReadyH.cons rfl (fun K hK => ?_) .nil
       try simp only [gA, gB, gC]
       go_simp
       go_at_call 20
       (with_reducible refine (HWi.out _).mono ?_)
       rintro e w9 ⟨rfl, rfl⟩
       go_wp2_with fail
       refine hK.out _ _ (HS.out _ hbA) (fun hHeld => ?_)
       clear hK K
       try simp only [Act.put, gA, gB, gC, gD, gE, gF]
       refine tk 7 ?_
       try simp only [Act.put, gA, gB, gC, gD, gE, gF]
       refine tk 10 ?_
       try simp only [Act.put, gA, gB, gC, gD, gE, gF]
       refine wpAnyH_ready (rs := [1, 11]) (by kernel_rfl) (by simp) ?_
       refine AllReadyH.cons rfl (fun K hK => ?_) ?_
       · try simp only [gA, gB, gC]
         go_simp
         refine hK.out _ _ (HS.out _ hbA) (fun hHeld => ?_)
         clear hK K
         try simp only [Act.put, gA, gB, gC, gD, gE, gF]
         refine wpAnyH_ready (rs := [11]) (by kernel_rfl) (by simp) ?_
         refine AllReadyH.cons rfl (fun K hK => ?_) .nil
         try simp only [gA, gB, gC]
         go_simp
         refine hK.out _ _ (HS.out _ hbX) (fun hHeld => ?_)
         clear hK K
         try simp only [Act.put, gA, gB, gC, gD, gE, gF]
         refine wpAnyH_ready (rs := [12]) (by kernel_rfl) (by simp) ?_
         refine AllReadyH.cons rfl (fun K hK => ?_) .nil
         refine step_append_lies _ (by rfl) _ _ _ (by rfl) (Q + 4) 64 j0 (.agg #[.int .i64 0, .string ByteArray.empty, .slice none 0 0, .int .i64 0]) 4 56 Try.underlying22 hi iz0 iz1 iz2 rfl (by omega) sv i xs (by rfl) hownX ⟨W6.heap.size + 1, 0, none⟩ 1 1 [.int .i64 (2 + kv % 3), .string ⟨#[]⟩, .slice (some ⟨W6.heap.size, 0, none⟩) 1 1, .int .i64 0] (by rfl) (by rfl) newsX (by simp [Value.oneCell']) (by omega) (by unfold maxLen; omega) (by omega) (by rw [szX]; omega) (W6.heap.size + 2) szX ?_
         intro gg cap2 w7 hown7 hgrow7 hat hlt7
         have f7 : w7.cell? ⟨Q + 1, 1, none⟩ = some sv := hgrow7.cell c1X hne
         have r7 : w7.frozen? ⟨Q + 1, 1, none⟩ = false := (hgrow7.frozen_far ⟨Q + 1, 1, none⟩ hQX hne).trans z1X
         have S7 := HS7.out _ hgrow7
         refine hK.out _ _ S7 (fun hHeld => ?_)
         clear hK K
         try simp only [Act.put, gA, gB, gC, gD, gE, gF]
         refine tk 13 ?_
         try simp only [Act.put, gA, gB, gC, gD, gE, gF]
         refine wpAnyH_ready (rs := [14]) (by kernel_rfl) (by simp) ?_
         refine AllReadyH.cons rfl (fun K hK => ?_) .nil
         try simp only [gA, gB, gC]
         go_simp
         refine hK.out _ _ (HS8.out _ _ S7) (fun hHeld => ?_)
         clear hK K
         try simp only [Act.put, gA, gB, gC, gD, gE, gF]
         refine wpAnyH_done (by kernel_rfl) ?_ _
         go_wp2_with fail
         go_meet
         case rel => exact Lib.hid ⟨_, _, _, HP1.out _ _ _ hown7 hgrow7 hat, HS8.out _ _ S7⟩
       refine AllReadyH.cons rfl (fun K hK => ?_) .nil
       try simp only [gA, gB, gC]
       go_simp
       refine hK.out _ _ (HS.out _ hbX) (fun hHeld => ?_)
       clear hK K
       try simp only [Act.put, gA, gB, gC, gD, gE, gF]
       refine wpAnyH_ready (rs := [1]) (by kernel_rfl) (by simp) ?_
       refine AllReadyH.cons rfl (fun K hK => ?_) .nil
       try simp only [gA, gB, gC]
       go_simp
       refine hK.out _ _ (HS.out _ hbX) (fun hHeld => ?_)
       clear hK K
       try simp only [Act.put, gA, gB, gC, gD, gE, gF]
       refine wpAnyH_ready (rs := [12]) (by kernel_rfl) (by simp) ?_
       refine AllReadyH.cons rfl (fun K hK => ?_) .nil
       refine step_append_lies _ (by rfl) _ _ _ (by rfl) (Q + 4) 64 j0 (.agg #[.int .i64 0, .string ByteArray.empty, .slice none 0 0, .int .i64 0]) 4 56 Try.underlying22 hi iz0 iz1 iz2 rfl (by omega) sv i xs (by rfl) hownX ⟨W6.heap.size + 1, 0, none⟩ 1 1 [.int .i64 (2 + kv % 3), .string ⟨#[]⟩, .slice (some ⟨W6.heap.size, 0, none⟩) 1 1, .int .i64 0] (by rfl) (by rfl) newsX (by simp [Value.oneCell']) (by omega) (by unfold maxLen; omega) (by omega) (by rw [szX]; omega) (W6.heap.size + 2) szX ?_
       intro gg cap2 w7 hown7 hgrow7 hat hlt7
       have f7 : w7.cell? ⟨Q + 1, 1, none⟩ = some sv := hgrow7.cell c1X hne
       have r7 : w7.frozen? ⟨Q + 1, 1, none⟩ = false := (hgrow7.frozen_far ⟨Q + 1, 1, none⟩ hQX hne).trans z1X
       have S7 := HS7.out _ hgrow7
       refine hK.out _ _ S7 (fun hHeld => ?_)
       clear hK K
       try simp only [Act.put, gA, gB, gC, gD, gE, gF]
       refine tk 13 ?_
       try simp only [Act.put, gA, gB, gC, gD, gE, gF]
       refine wpAnyH_ready (rs := [14]) (by kernel_rfl) (by simp) ?_
       refine AllReadyH.cons rfl (fun K hK => ?_) .nil
       try simp only [gA, gB, gC]
       go_simp
       refine hK.out _ _ (HS8.out _ _ S7) (fun hHeld => ?_)
       clear hK K
       try simp only [Act.put, gA, gB, gC, gD, gE, gF]
       refine wpAnyH_done (by kernel_rfl) ?_ _
       go_wp2_with fail
       go_meet
       case rel => exact Lib.hid ⟨_, _, _, HP1.out _ _ _ hown7 hgrow7 hat, HS8.out _ _ S7⟩
    case rest =>
     obtain ⟨sv', xs', S1', hM8, t0, t1, t2, t3, _⟩ := hcut.out
     clear hcut
     rename World => W8
     have e0 := cell_of_row _ _ 0 _ _ _ hM8.eb
     have e1 := cell_of_row _ _ 1 _ _ _ hM8.eb
     have e2 := cell_of_row _ _ 2 _ _ _ hM8.eb
     have e3 := cell_of_row _ _ 3 _ _ _ hM8.eb
     have e4 := cell_of_row _ _ 4 _ _ _ hM8.eb
     have e5 := cell_of_row _ _ 5 _ _ _ hM8.eb
     have c1 := cell_of_row _ _ 1 _ _ _ hM8.br
     simp only [List.getElem?_toArray, List.getElem?_cons_succ, List.getElem?_cons_zero] at e0 e1 e2 e3 e4 e5 c1
     have hown := hM8.g2.own
     rw [List.length_map, List.length_range] at hown
     obtain ⟨j1, hj, jz0, jz1, jz2⟩ := rd_info lvAltInfo
     have hne8 : some (Q + 3) ≠ rv.ownBlock := fun h => by have := (hown.lt _ h.symm).1; omega
     have hS8 := hM8.sz
     have hbY : Below W8.heap.size W8 ((W8.alloc (.cells #[.string eB, .bool false, .int .i64 0, .int .i64 0, .string ⟨#[]⟩, .int .i64 0, .string (tB i), .bool false, .int .i64 0, .int .i64 0, .string ⟨#[]⟩, .int .i64 0, .string eB, .bool false, .int .i64 0, .int .i64 0, .string ⟨#[]⟩, .int .i64 0] 78)).alloc (.cells #[.slice (some ⟨W8.heap.size, 0, none⟩) 3 3, .string ⟨#[]⟩, .bool false, .int .i64 0, .int .i64 0, .int .i64 0] 71)) := ((Below.refl W8.heap.size W8).alloc (Nat.le_refl _) (.cells #[.string eB, .bool false, .int .i64 0, .int .i64 0, .string ⟨#[]⟩, .int .i64 0, .string (tB i), .bool false, .int .i64 0, .int .i64 0, .string ⟨#[]⟩, .int .i64 0, .string eB, .bool false, .int .i64 0, .int .i64 0, .string ⟨#[]⟩, .int .i64 0] 78)).alloc (by simp) (.cells #[.slice (some ⟨W8.heap.size, 0, none⟩) 3 3, .string ⟨#[]⟩, .bool false, .int .i64 0, .int .i64 0, .int .i64 0] 71)
     have hownY := own_below hown hbY
     have szY : ((W8.alloc (.cells #[.string eB, .bool false, .int .i64 0, .int .i64 0, .string ⟨#[]⟩, .int .i64 0, .string (tB i), .bool false, .int .i64 0, .int .i64 0, .string ⟨#[]⟩, .int .i64 0, .string eB, .bool false, .int .i64 0, .int .i64 0, .string ⟨#[]⟩, .int .i64 0] 78)).alloc (.cells #[.slice (some ⟨W8.heap.size, 0, none⟩) 3 3, .string ⟨#[]⟩, .bool false, .int .i64 0, .int .i64 0, .int .i64 0] 71)).heap.size = W8.heap.size + 2 := by simp
     have c1Y : ((W8.alloc (.cells #[.string eB, .bool false, .int .i64 0, .int .i64 0, .string ⟨#[]⟩, .int .i64 0, .string (tB i), .bool false, .int .i64 0, .int .i64 0, .string ⟨#[]⟩, .int .i64 0, .string eB, .bool false, .int .i64 0, .int .i64 0, .string ⟨#[]⟩, .int .i64 0] 78)).alloc (.cells #[.slice (some ⟨W8.heap.size, 0, none⟩) 3 3, .string ⟨#[]⟩, .bool false, .int .i64 0, .int .i64 0, .int .i64 0] 71)).cell? ⟨Q + 3, 1, none⟩ = some rv := cell_up hbY c1
     have z1Y : ((W8.alloc (.cells #[.string eB, .bool false, .int .i64 0, .int .i64 0, .string ⟨#[]⟩, .int .i64 0, .string (tB i), .bool false, .int .i64 0, .int .i64 0, .string ⟨#[]⟩, .int .i64 0, .string eB, .bool false, .int .i64 0, .int .i64 0, .string ⟨#[]⟩, .int .i64 0] 78)).alloc (.cells #[.slice (some ⟨W8.heap.size, 0, none⟩) 3 3, .string ⟨#[]⟩, .bool false, .int .i64 0, .int .i64 0, .int .i64 0] 71)).frozen? ⟨Q + 3, 1, none⟩ = false := free_of_block (block_below hM8.br hbY (lt_of_block hM8.br))
     have hQY : Q + 3 < ((W8.alloc (.cells #[.string eB, .bool false, .int .i64 0, .int .i64 0, .string ⟨#[]⟩, .int .i64 0, .string (tB i), .bool false, .int .i64 0, .int .i64 0, .string ⟨#[]⟩, .int .i64 0, .string eB, .bool false, .int .i64 0, .int .i64 0, .string ⟨#[]⟩, .int .i64 0] 78)).alloc (.cells #[.slice (some ⟨W8.heap.size, 0, none⟩) 3 3, .string ⟨#[]⟩, .bool false, .int .i64 0, .int .i64 0, .int .i64 0] 71)).heap.size := by rw [szY]; omega
     have newsY : ∀ j u, ([.slice (some ⟨W8.heap.size, 0, none⟩) 3 3, .string ⟨#[]⟩, .bool false, .int .i64 0, .int .i64 0, .int .i64 0] : List Value)[j]? = some u → ((W8.alloc (.cells #[.string eB, .bool false, .int .i64 0, .int .i64 0, .string ⟨#[]⟩, .int .i64 0, .string (tB i), .bool false, .int .i64 0, .int .i64 0, .string ⟨#[]⟩, .int .i64 0, .string eB, .bool false, .int .i64 0, .int .i64 0, .string ⟨#[]⟩, .int .i64 0] 78)).alloc (.cells #[.slice (some ⟨W8.heap.size, 0, none⟩) 3 3, .string ⟨#[]⟩, .bool false, .int .i64 0, .int .i64 0, .int .i64 0] 71)).cell? ((⟨W8.heap.size + 1, 0, none⟩ : Addr).add j) = some u := fun j u hj => by
      have := rd_news (W8.alloc (.cells #[.string eB, .bool false, .int .i64 0, .int .i64 0, .string ⟨#[]⟩, .int .i64 0, .string (tB i), .bool false, .int .i64 0, .int .i64 0, .string ⟨#[]⟩, .int .i64 0, .string eB, .bool false, .int .i64 0, .int .i64 0, .string ⟨#[]⟩, .int .i64 0] 78)) [.slice (some ⟨W8.heap.size, 0, none⟩) 3 3, .string ⟨#[]⟩, .bool false, .int .i64 0, .int .i64 0, .int .i64 0] 71 j u hj
      simpa using this
     have hal : ((List.range i).map lvA).length = i := by rw [List.length_map, List.length_range]
     have hFy : Firm (fun b => b = W8.heap.size) ((W8.alloc (.cells #[.string eB, .bool false, .int .i64 0, .int .i64 0, .string ⟨#[]⟩, .int .i64 0, .string (tB i), .bool false, .int .i64 0, .int .i64 0, .string ⟨#[]⟩, .int .i64 0, .string eB, .bool false, .int .i64 0, .int .i64 0, .string ⟨#[]⟩, .int .i64 0] 78)).alloc (.cells #[.slice (some ⟨W8.heap.size, 0, none⟩) 3 3, .string ⟨#[]⟩, .bool false, .int .i64 0, .int .i64 0, .int .i64 0] 71)) (fun V => alR V [.slice (some ⟨W8.heap.size, 0, none⟩) 3 3, .string ⟨#[]⟩, .bool false, .int .i64 0, .int .i64 0, .int .i64 0] (lvA i)) := by
      have h1 := pts_lit W8 [ptS (nameG eB), ptS (nameG (tB i)), ptS (nameG eB)] #[.string eB, .bool false, .int .i64 0, .int .i64 0, .string ⟨#[]⟩, .int .i64 0, .string (tB i), .bool false, .int .i64 0, .int .i64 0, .string ⟨#[]⟩, .int .i64 0, .string eB, .bool false, .int .i64 0, .int .i64 0, .string ⟨#[]⟩, .int .i64 0] rfl (by simp)
      have h2 := h1.below ((Below.refl (W8.alloc (.cells #[.string eB, .bool false, .int .i64 0, .int .i64 0, .string ⟨#[]⟩, .int .i64 0, .string (tB i), .bool false, .int .i64 0, .int .i64 0, .string ⟨#[]⟩, .int .i64 0, .string eB, .bool false, .int .i64 0, .int .i64 0, .string ⟨#[]⟩, .int .i64 0] 78)).heap.size (W8.alloc (.cells #[.string eB, .bool false, .int .i64 0, .int .i64 0, .string ⟨#[]⟩, .int .i64 0, .string (tB i), .bool false, .int .i64 0, .int .i64 0, .string ⟨#[]⟩, .int .i64 0, .string eB, .bool false, .int .i64 0, .int .i64 0, .string ⟨#[]⟩, .int .i64 0] 78))).alloc (Nat.le_refl _) (.cells #[.slice (some ⟨W8.heap.size, 0, none⟩) 3 3, .string ⟨#[]⟩, .bool false, .int .i64 0, .int .i64 0, .int .i64 0] 71))
      exact Firm.imp h2 (fun V hV => ⟨_, rfl, hV⟩)
     have HP2 : Hid (∀ (gg cap2 : Nat) (w7 : World), w7.ownsRow (Q + 4) 71 6 (.slice (some ⟨gg, 0, none⟩) (i + 1) cap2) (i + 1) (ys ++ [.slice (some ⟨W8.heap.size, 0, none⟩) 3 3, .string ⟨#[]⟩, .bool false, .int .i64 0, .int .i64 0, .int .i64 0]) → World.grownBy ((W8.alloc (.cells #[.string eB, .bool false, .int .i64 0, .int .i64 0, .string ⟨#[]⟩, .int .i64 0, .string (tB i), .bool false, .int .i64 0, .int .i64 0, .string ⟨#[]⟩, .int .i64 0, .string eB, .bool false, .int .i64 0, .int .i64 0, .string ⟨#[]⟩, .int .i64 0] 78)).alloc (.cells #[.slice (some ⟨W8.heap.size, 0, none⟩) 3 3, .string ⟨#[]⟩, .bool false, .int .i64 0, .int .i64 0, .int .i64 0] 71)) w7 rv.ownBlock → (rv.ownBlock = some gg ∨ gg = W8.heap.size + 2) →
       LvM w (w7.setCell ⟨Q + 3, 1, none⟩ (.slice (some ⟨gg, 0, none⟩) (i + 1) cap2)) (Q + 4) Q sv' (.slice (some ⟨gg, 0, none⟩) (i + 1) cap2) xs' (ys ++ [.slice (some ⟨W8.heap.size, 0, none⟩) 3 3, .string ⟨#[]⟩, .bool false, .int .i64 0, .int .i64 0, .int .i64 0]) S1' (fun b => S2 b ∨ b = W8.heap.size) ((List.range (i + 1)).map (lvD kinds)) ((List.range (i + 1)).map lvA)) := Lib.hid (fun gg cap2 w7 h1 h2 h3 => by
      have := hM8.push2 (al := lvA i) (by omega) (Nat.le_refl _) hbY hFy (fun b hb => by rw [hb]; exact Nat.le_refl _) h2 (by rw [hal]; exact h1) (own_new h3 szY.symm) rfl
      have e : (List.range (i + 1)).map lvA = (List.range i).map lvA ++ [lvA i] := by rw [List.range_succ, List.map_append]; rfl
      rw [e]
      exact this)
     clear hM8 hFy hal hown HM6 HP1 HS HS7 HS8 HWi hbX hownX c1X z1X newsX szX hbD hbA c1A k6A k6 kc hneT hneK hTq hkq hwr hi iz0 iz1 iz2
     go_wp2_with (first | (refine wpList_append_lies _ (by rfl) _ _ _ (by rfl) (Q + 4) 71 j1 (.agg #[.slice none 0 0, .string ByteArray.empty, .bool false, .int .i64 0, .int .i64 0, .int .i64 0]) 6 72 Try.underlying72 hj jz0 jz1 jz2 rfl (by omega) rv i ys (by rfl) hownY ⟨W8.heap.size + 1, 0, none⟩ 1 1 [.slice (some ⟨W8.heap.size, 0, none⟩) 3 3, .string ⟨#[]⟩, .bool false, .int .i64 0, .int .i64 0, .int .i64 0] (by rfl) (by rfl) newsY (by simp [Value.oneCell']) (by omega) (by unfold maxLen; omega) (by omega) (by rw [szY]; omega) (W8.heap.size + 2) szY ?_; intro gg cap2 w9 hown9 hgrow9 hat9 hlt9; have f9 : w9.cell? ⟨Q + 3, 1, none⟩ = some rv := hgrow9.cell c1Y hne8; have r9 : w9.frozen? ⟨Q + 3, 1, none⟩ = false := (hgrow9.frozen_far ⟨Q + 3, 1, none⟩ hQY hne8).trans z1Y))
     go_roundw
     case rel => exact ⟨i + 1, _, _, _, _, _, _, by omega, by go_num, HP2.out _ _ _ hown9 hgrow9 hat9⟩
     case measure => simp [intOf]; omega
  · obtain rfl : i = n := by omega
    have i1 : ¬ (i : Int) < (i : Int) := by omega
    have c1 := cell_of_row _ _ 1 _ _ _ hM.br
    simp only [List.getElem?_toArray, List.getElem?_cons_succ, List.getElem?_cons_zero] at c1
    have hown := hM.g2.own
    rw [List.length_map, List.length_range] at hown
    obtain ⟨j1, hj, jz0, jz1, jz2⟩ := rd_info lvAltInfo
    have hne8 : some (Q + 3) ≠ rv.ownBlock := fun h => by have := (hown.lt _ h.symm).1; omega
    have hS8 := hM.sz
    have hbY : Below W.heap.size W ((W.alloc (.cells #[.string ⟨#[120]⟩, .bool true, .int .i64 0, .int .i64 0, .string ⟨#[]⟩, .int .i64 0] 78)).alloc (.cells #[.slice (some ⟨W.heap.size, 0, none⟩) 1 1, .string ⟨#[]⟩, .bool false, .int .i64 0, .int .i64 0, .int .i64 0] 71)) := ((Below.refl W.heap.size W).alloc (Nat.le_refl _) (.cells #[.string ⟨#[120]⟩, .bool true, .int .i64 0, .int .i64 0, .string ⟨#[]⟩, .int .i64 0] 78)).alloc (by simp) (.cells #[.slice (some ⟨W.heap.size, 0, none⟩) 1 1, .string ⟨#[]⟩, .bool false, .int .i64 0, .int .i64 0, .int .i64 0] 71)
    have hownY := own_below hown hbY
    have szY : ((W.alloc (.cells #[.string ⟨#[120]⟩, .bool true, .int .i64 0, .int .i64 0, .string ⟨#[]⟩, .int .i64 0] 78)).alloc (.cells #[.slice (some ⟨W.heap.size, 0, none⟩) 1 1, .string ⟨#[]⟩, .bool false, .int .i64 0, .int .i64 0, .int .i64 0] 71)).heap.size = W.heap.size + 2 := by simp
    have c1Y : ((W.alloc (.cells #[.string ⟨#[120]⟩, .bool true, .int .i64 0, .int .i64 0, .string ⟨#[]⟩, .int .i64 0] 78)).alloc (.cells #[.slice (some ⟨W.heap.size, 0, none⟩) 1 1, .string ⟨#[]⟩, .bool false, .int .i64 0, .int .i64 0, .int .i64 0] 71)).cell? ⟨Q + 3, 1, none⟩ = some rv := cell_up hbY c1
    have z1Y : ((W.alloc (.cells #[.string ⟨#[120]⟩, .bool true, .int .i64 0, .int .i64 0, .string ⟨#[]⟩, .int .i64 0] 78)).alloc (.cells #[.slice (some ⟨W.heap.size, 0, none⟩) 1 1, .string ⟨#[]⟩, .bool false, .int .i64 0, .int .i64 0, .int .i64 0] 71)).frozen? ⟨Q + 3, 1, none⟩ = false := free_of_block (block_below hM.br hbY (lt_of_block hM.br))
    have hQY : Q + 3 < ((W.alloc (.cells #[.string ⟨#[120]⟩, .bool true, .int .i64 0, .int .i64 0, .string ⟨#[]⟩, .int .i64 0] 78)).alloc (.cells #[.slice (some ⟨W.heap.size, 0, none⟩) 1 1, .string ⟨#[]⟩, .bool false, .int .i64 0, .int .i64 0, .int .i64 0] 71)).heap.size := by rw [szY]; omega
    have newsY : ∀ j u, ([.slice (some ⟨W.heap.size, 0, none⟩) 1 1, .string ⟨#[]⟩, .bool false, .int .i64 0, .int .i64 0, .int .i64 0] : List Value)[j]? = some u → ((W.alloc (.cells #[.string ⟨#[120]⟩, .bool true, .int .i64 0, .int .i64 0, .string ⟨#[]⟩, .int .i64 0] 78)).alloc (.cells #[.slice (some ⟨W.heap.size, 0, none⟩) 1 1, .string ⟨#[]⟩, .bool false, .int .i64 0, .int .i64 0, .int .i64 0] 71)).cell? ((⟨W.heap.size + 1, 0, none⟩ : Addr).add j) = some u := fun j u hj => by
     have := rd_news (W.alloc (.cells #[.string ⟨#[120]⟩, .bool true, .int .i64 0, .int .i64 0, .string ⟨#[]⟩, .int .i64 0] 78)) [.slice (some ⟨W.heap.size, 0, none⟩) 1 1, .string ⟨#[]⟩, .bool false, .int .i64 0, .int .i64 0, .int .i64 0] 71 j u hj
     simpa using this
    have hal : ((List.range i).map lvA).length = i := by rw [List.length_map, List.length_range]
    have hFy : Firm (fun b => b = W.heap.size) ((W.alloc (.cells #[.string ⟨#[120]⟩, .bool true, .int .i64 0, .int .i64 0, .string ⟨#[]⟩, .int .i64 0] 78)).alloc (.cells #[.slice (some ⟨W.heap.size, 0, none⟩) 1 1, .string ⟨#[]⟩, .bool false, .int .i64 0, .int .i64 0, .int .i64 0] 71)) (fun V => alR V [.slice (some ⟨W.heap.size, 0, none⟩) 1 1, .string ⟨#[]⟩, .bool false, .int .i64 0, .int .i64 0, .int .i64 0] lvX) := by
     have h1 := pts_lit W [ptS ⟨xB, true, 0, 0⟩] #[.string ⟨#[120]⟩, .bool true, .int .i64 0, .int .i64 0, .string ⟨#[]⟩, .int .i64 0] rfl (by simp)
     have h2 := h1.below ((Below.refl (W.alloc (.cells #[.string ⟨#[120]⟩, .bool true, .int .i64 0, .int .i64 0, .string ⟨#[]⟩, .int .i64 0] 78)).heap.size (W.alloc (.cells #[.string ⟨#[120]⟩, .bool true, .int .i64 0, .int .i64 0, .string ⟨#[]⟩, .int .i64 0] 78))).alloc (Nat.le_refl _) (.cells #[.slice (some ⟨W.heap.size, 0, none⟩) 1 1, .string ⟨#[]⟩, .bool false, .int .i64 0, .int .i64 0, .int .i64 0] 71))
     exact Firm.imp h2 (fun V hV => ⟨_, rfl, hV⟩)
    have HP2 : Hid (∀ (gg cap2 : Nat) (w7 : World), w7.ownsRow (Q + 4) 71 6 (.slice (some ⟨gg, 0, none⟩) (i + 1) cap2) (i + 1) (ys ++ [.slice (some ⟨W.heap.size, 0, none⟩) 1 1, .string ⟨#[]⟩, .bool false, .int .i64 0, .int .i64 0, .int .i64 0]) → World.grownBy ((W.alloc (.cells #[.string ⟨#[120]⟩, .bool true, .int .i64 0, .int .i64 0, .string ⟨#[]⟩, .int .i64 0] 78)).alloc (.cells #[.slice (some ⟨W.heap.size, 0, none⟩) 1 1, .string ⟨#[]⟩, .bool false, .int .i64 0, .int .i64 0, .int .i64 0] 71)) w7 rv.ownBlock → (rv.ownBlock = some gg ∨ gg = W.heap.size + 2) →
      LvM w (w7.setCell ⟨Q + 3, 1, none⟩ (.slice (some ⟨gg, 0, none⟩) (i + 1) cap2)) (Q + 4) Q sv (.slice (some ⟨gg, 0, none⟩) (i + 1) cap2) xs (ys ++ [.slice (some ⟨W.heap.size, 0, none⟩) 1 1, .string ⟨#[]⟩, .bool false, .int .i64 0, .int .i64 0, .int .i64 0]) S1 (fun b => S2 b ∨ b = W.heap.size) ((List.range i).map (lvD kinds)) ((List.range i).map lvA ++ [lvX])) := Lib.hid (fun gg cap2 w7 h1 h2 h3 =>
     hM.push2 (al := lvX) (by omega) (Nat.le_refl _) hbY hFy (fun b hb => by rw [hb]; exact Nat.le_refl _) h2 (by rw [hal]; exact h1) (own_new h3 szY.symm) rfl)
    clear hM hFy hal hown hx0 hwf hl0 hb4
    go_upto_region 11 with fail
    go_cut [] from 57 to 65 (fun wx => Hid (∃ (rv' : Value) (ys' : List Value) (S2' : Nat → Prop), LvM w wx (Q + 4) Q sv rv' xs ys' S1 S2' ((List.range i).map (lvD kinds)) ((List.range i).map lvA ++ [lvX])))
    case first =>
     go_wp2_with (first | (refine wpList_append_lies _ (by rfl) _ _ _ (by rfl) (Q + 4) 71 j1 (.agg #[.slice none 0 0, .string ByteArray.empty, .bool false, .int .i64 0, .int .i64 0, .int .i64 0]) 6 72 Try.underlying72 hj jz0 jz1 jz2 rfl (by omega) rv i ys (by rfl) hownY ⟨W.heap.size + 1, 0, none⟩ 1 1 [.slice (some ⟨W.heap.size, 0, none⟩) 1 1, .string ⟨#[]⟩, .bool false, .int .i64 0, .int .i64 0, .int .i64 0] (by rfl) (by rfl) newsY (by simp [Value.oneCell']) (by omega) (by unfold maxLen; omega) (by omega) (by rw [szY]; omega) (W.heap.size + 2) szY ?_; intro gg cap2 w9 hown9 hgrow9 hat9 hlt9; have f9 : w9.cell? ⟨Q + 3, 1, none⟩ = some rv := hgrow9.cell c1Y hne8; have r9 : w9.frozen? ⟨Q + 3, 1, none⟩ = false := (hgrow9.frozen_far ⟨Q + 3, 1, none⟩ hQY hne8).trans z1Y))
     go_meet
     case rel => exact Lib.hid ⟨_, _, _, HP2.out _ _ _ hown9 hgrow9 hat9⟩
    case rest =>
     obtain ⟨rv', ys', S2', hM9⟩ := hcut.out
     clear hcut HP2 hbY hownY c1Y z1Y hQY newsY c1 szY hne8 hS8
     rename World => W11
     have c1 := cell_of_row _ _ 1 _ _ _ hM9.br
     have e0 := cell_of_row _ _ 0 _ _ _ hM9.eb
     have e1 := cell_of_row _ _ 1 _ _ _ hM9.eb
     have e2 := cell_of_row _ _ 2 _ _ _ hM9.eb
     have e3 := cell_of_row _ _ 3 _ _ _ hM9.eb
     have e4 := cell_of_row _ _ 4 _ _ _ hM9.eb
     have e5 := cell_of_row _ _ 5 _ _ _ hM9.eb
     simp only [List.getElem?_toArray, List.getElem?_cons_succ, List.getElem?_cons_zero] at c1 e0 e1 e2 e3 e4 e5
     go_upto_if 67 with fail
     go_cut [] from 67 to 84 (fun wx => Hid (∃ (rv2 : Value) (ys2 : List Value) (T2 : Nat → Prop), LvM w wx (Q + 4) Q sv rv2 xs ys2 S1 T2 ((List.range i).map (lvD kinds)) ((List.range i).map lvA ++ [lvX] ++ (if 0 < i then [lvL o s] else []))))
     case first =>
      by_cases hp : 0 < i
      · have hp2 : (0 : Int) < (i : Int) := by omega
        have hown := hM9.g2.own
        have hal : ((List.range i).map lvA ++ [lvX]).length = i + 1 := by rw [List.length_append, List.length_map, List.length_range]; rfl
        rw [hal] at hown
        have hne9 : some (Q + 3) ≠ rv'.ownBlock := fun h => by have := (hown.lt _ h.symm).1; omega
        have hS9 := hM9.sz
        have HF : Hid (∀ V, Below W11.heap.size W11 V → V.ownsRow (Q + 4) 71 6 rv' (i + 1) ys' ∧ V.cell? ⟨Q + 3, 1, none⟩ = some rv' ∧ V.frozen? ⟨Q + 3, 1, none⟩ = false ∧ Q + 3 < V.heap.size) := Lib.hid (fun V hV => ⟨own_below hown hV, cell_up hV c1, free_of_block (block_below hM9.br hV (lt_of_block hM9.br)), by have := hV.size; omega⟩)
        have HS : Hid (∀ V, Below W11.heap.size W11 V → V.cell? ⟨Q + 2, 0, none⟩ = some (.string eB) ∧ V.cell? ⟨Q + 2, 1, none⟩ = some (.bool false) ∧ V.cell? ⟨Q + 2, 2, none⟩ = some (.int .i64 0) ∧ V.cell? ⟨Q + 2, 3, none⟩ = some (.int .i64 0) ∧ V.cell? ⟨Q + 2, 4, none⟩ = some (.string ⟨#[]⟩) ∧ V.cell? ⟨Q + 2, 5, none⟩ = some (.int .i64 0)) := Lib.hid (fun V hV => ⟨cell_up hV e0, cell_up hV e1, cell_up hV e2, cell_up hV e3, cell_up hV e4, cell_up hV e5⟩)
        have HSG : Hid (∀ V X, Below W11.heap.size W11 V → World.grownBy V X rv'.ownBlock → X.cell? ⟨Q + 2, 0, none⟩ = some (.string eB) ∧ X.cell? ⟨Q + 2, 1, none⟩ = some (.bool false) ∧ X.cell? ⟨Q + 2, 2, none⟩ = some (.int .i64 0) ∧ X.cell? ⟨Q + 2, 3, none⟩ = some (.int .i64 0) ∧ X.cell? ⟨Q + 2, 4, none⟩ = some (.string ⟨#[]⟩) ∧ X.cell? ⟨Q + 2, 5, none⟩ = some (.int .i64 0)) := Lib.hid (fun V X hV hX => by
         have hneE : some (Q + 2) ≠ rv'.ownBlock := fun h => by have := (hown.lt _ h.symm).1; omega
         exact ⟨hX.cell (cell_up hV e0) hneE, hX.cell (cell_up hV e1) hneE, hX.cell (cell_up hV e2) hneE, hX.cell (cell_up hV e3) hneE, hX.cell (cell_up hV e4) hneE, hX.cell (cell_up hV e5) hneE⟩)
        have HSS : Hid (∀ (X : World) (u : Value), (X.cell? ⟨Q + 2, 0, none⟩ = some (.string eB) ∧ X.cell? ⟨Q + 2, 1, none⟩ = some (.bool false) ∧ X.cell? ⟨Q + 2, 2, none⟩ = some (.int .i64 0) ∧ X.cell? ⟨Q + 2, 3, none⟩ = some (.int .i64 0) ∧ X.cell? ⟨Q + 2, 4, none⟩ = some (.string ⟨#[]⟩) ∧ X.cell? ⟨Q + 2, 5, none⟩ = some (.int .i64 0)) → (X.setCell ⟨Q + 3, 1, none⟩ u).cell? ⟨Q + 2, 0, none⟩ = some (.string eB) ∧ (X.setCell ⟨Q + 3, 1, none⟩ u).cell? ⟨Q + 2, 1, none⟩ = some (.bool false) ∧ (X.setCell ⟨Q + 3, 1, none⟩ u).cell? ⟨Q + 2, 2, none⟩ = some (.int .i64 0) ∧ (X.setCell ⟨Q + 3, 1, none⟩ u).cell? ⟨Q + 2, 3, none⟩ = some (.int .i64 0) ∧ (X.setCell ⟨Q + 3, 1, none⟩ u).cell? ⟨Q + 2, 4, none⟩ = some (.string ⟨#[]⟩) ∧ (X.setCell ⟨Q + 3, 1, none⟩ u).cell? ⟨Q + 2, 5, none⟩ = some (.int .i64 0)) := Lib.hid (fun X u h => by
         have hq : Q + 3 ≠ Q + 2 := by omega
         exact ⟨(World.cell?_setCell_far _ _ _ _ hq).trans h.1, (World.cell?_setCell_far _ _ _ _ hq).trans h.2.1, (World.cell?_setCell_far _ _ _ _ hq).trans h.2.2.1, (World.cell?_setCell_far _ _ _ _ hq).trans h.2.2.2.1, (World.cell?_setCell_far _ _ _ _ hq).trans h.2.2.2.2.1, (World.cell?_setCell_far _ _ _ _ hq).trans h.2.2.2.2.2⟩)
        have HD1 := Lib.hid (fun X => digits_t o (by omega) X)
        have HD2 := Lib.hid (fun X => digits_t s (by omega) X)
        have hno1 : ¬ 9223372036854775807 < 1 + (digT o).size := by
         have h2 := digT_size o
         omega
        have hno2 : ¬ 9223372036854775807 < 1 + (digT s).size := by
         have h2 := digT_size s
         omega
        have htB1 : (⟨#[116]⟩ : ByteArray) ++ digT o = tB o := rfl
        have htB2 : (⟨#[116]⟩ : ByteArray) ++ digT s = tB s := rfl
        have HP3 : Hid (∀ (V : World) (Sx : Nat → Prop) (cs : List Value) (gg cap2 : Nat) (w7 : World), Below W11.heap.size W11 V → Firm Sx V (fun V => alR V cs (lvL o s)) → (∀ b, Sx b → W11.heap.size ≤ b) → cs.length = 6 → w7.ownsRow (Q + 4) 71 6 (.slice (some ⟨gg, 0, none⟩) (i + 2) cap2) (i + 2) (ys' ++ cs) → World.grownBy V w7 rv'.ownBlock → (rv'.ownBlock = some gg ∨ gg = V.heap.size) →
          LvM w (w7.setCell ⟨Q + 3, 1, none⟩ (.slice (some ⟨gg, 0, none⟩) (i + 2) cap2)) (Q + 4) Q sv (.slice (some ⟨gg, 0, none⟩) (i + 2) cap2) xs (ys' ++ cs) S1 (fun b => S2' b ∨ Sx b) ((List.range i).map (lvD kinds)) ((List.range i).map lvA ++ [lvX] ++ (if 0 < i then [lvL o s] else []))) := Lib.hid (fun V Sx cs gg cap2 w7 h1 h2 h3 h4 h5 h6 h7 => by
         rw [if_pos hp]
         exact hM9.push2 (al := lvL o s) (by omega) (Nat.le_refl _) h1 h2 h3 h6 (by rw [hal]; exact h5) (own_new h7 rfl) h4)
        clear hM9 hown hal e0 e1 e2 e3 e4 e5 c1
        go_upto_region 13 with fail
        refine wp_region_held_drew (S := (fun Xw => Xw.cell? ⟨Q + 2, 0, none⟩ = some (.string eB) ∧ Xw.cell? ⟨Q + 2, 1, none⟩ = some (.bool false) ∧ Xw.cell? ⟨Q + 2, 2, none⟩ = some (.int .i64 0) ∧ Xw.cell? ⟨Q + 2, 3, none⟩ = some (.int .i64 0) ∧ Xw.cell? ⟨Q + 2, 4, none⟩ = some (.string ⟨#[]⟩) ∧ Xw.cell? ⟨Q + 2, 5, none⟩ = some (.int .i64 0))) (by kernel_rfl) ?hS0 (fun hHeld => ?hR0)
        case hS0 => exact HS.out _ (Below.refl W11.heap.size W11).drew
        case hR0 =>
         refine tk 0 ?_
         try simp only [Act.put, gA, gB, gC, gD, gE, gF]
         refine tk 2 ?_
         try simp only [Act.put, gA, gB, gC, gD, gE, gF]
         refine tk 7 ?_
         try simp only [Act.put, gA, gB, gC, gD, gE, gF]
         refine tk 9 ?_
         try simp only [Act.put, gA, gB, gC, gD, gE, gF]
         refine wpAnyH_ready (rs := [1, 3]) (by kernel_rfl) (by simp) ?_
         refine AllReadyH.cons rfl (fun K hK => ?_) ?_
         · try simp only [gA, gB, gC]
           have q1 := (HF.out _ ((Below.refl W11.heap.size W11).drew)).2.1
           go_simp
           refine hK.out _ _ (HS.out _ ((Below.refl W11.heap.size W11).drew)) (fun hHeld => ?_)
           clear hK K
           try simp only [Act.put, gA, gB, gC, gD, gE, gF]
           refine wpAnyH_ready (rs := [3]) (by kernel_rfl) (by simp) ?_
           refine AllReadyH.cons rfl (fun K hK => ?_) .nil
           try simp only [gA, gB, gC]
           go_simp
           go_at_call 28
           (with_reducible refine (HD1.out _).mono ?_)
           rintro e wA ⟨rfl, hbA⟩
           have fA : Below W11.heap.size W11 wA := ((Below.refl W11.heap.size W11).drew).trans (hbA.mono ((Below.refl W11.heap.size W11).drew).size)
           go_wp2_with fail
           refine hK.out _ _ (HS.out _ fA) (fun hHeld => ?_)
           clear hK K
           try simp only [Act.put, gA, gB, gC, gD, gE, gF]
           refine tk 4 ?_
           try simp only [Act.put, gA, gB, gC, gD, gE, gF]
           refine tk 5 ?_
           try simp only [Act.put, gA, gB, gC, gD, gE, gF]
           refine tk 6 ?_
           try simp only [Act.put, gA, gB, gC, gD, gE, gF]
           refine wpAnyH_ready (rs := [8, 10]) (by kernel_rfl) (by simp) ?_
           refine AllReadyH.cons rfl (fun K hK => ?_) ?_
           · try simp only [gA, gB, gC]
             go_simp
             have fP : Below W11.heap.size W11 (wA.alloc (.cells #[.string (tB o), .bool false, .int .i64 0, .int .i64 0, .string ⟨#[]⟩, .int .i64 0, .string eB, .bool false, .int .i64 0, .int .i64 0, .string ⟨#[]⟩, .int .i64 0] 78)) := (fA).alloc (fA).size (.cells #[.string (tB o), .bool false, .int .i64 0, .int .i64 0, .string ⟨#[]⟩, .int .i64 0, .string eB, .bool false, .int .i64 0, .int .i64 0, .string ⟨#[]⟩, .int .i64 0] 78)
             have hPt := pts_lit wA [ptS (nameG (tB o)), ptS (nameG eB)] #[.string (tB o), .bool false, .int .i64 0, .int .i64 0, .string ⟨#[]⟩, .int .i64 0, .string eB, .bool false, .int .i64 0, .int .i64 0, .string ⟨#[]⟩, .int .i64 0] rfl (by simp)
             have gP : W11.heap.size ≤ wA.heap.size := (fA).size
             refine hK.out _ _ (HS.out _ fP) (fun hHeld => ?_)
             clear hK K
             try simp only [Act.put, gA, gB, gC, gD, gE, gF]
             refine wpAnyH_ready (rs := [10]) (by kernel_rfl) (by simp) ?_
             refine AllReadyH.cons rfl (fun K hK => ?_) .nil
             try simp only [gA, gB, gC]
             go_simp
             go_at_call 28
             (with_reducible refine (HD2.out _).mono ?_)
             rintro e wB ⟨rfl, hbB⟩
             have fB : Below W11.heap.size W11 wB := (fP).trans (hbB.mono (fP).size)
             go_wp2_with fail
             refine hK.out _ _ (HS.out _ fB) (fun hHeld => ?_)
             clear hK K
             try simp only [Act.put, gA, gB, gC, gD, gE, gF]
             refine tk 11 ?_
             try simp only [Act.put, gA, gB, gC, gD, gE, gF]
             refine tk 12 ?_
             try simp only [Act.put, gA, gB, gC, gD, gE, gF]
             refine tk 13 ?_
             try simp only [Act.put, gA, gB, gC, gD, gE, gF]
             refine wpAnyH_ready (rs := [14]) (by kernel_rfl) (by simp) ?_
             refine AllReadyH.cons rfl (fun K hK => ?_) .nil
             try simp only [gA, gB, gC]
             go_simp
             have fL : Below W11.heap.size W11 (wB.alloc (.cells #[.slice (some ⟨wA.heap.size, 0, none⟩) 2 2, .string (tB s), .bool false, .int .i64 0, .int .i64 0, .int .i64 0] 71)) := (fB).alloc (fB).size _
             refine hK.out _ _ (HS.out _ fL) (fun hHeld => ?_)
             clear hK K
             try simp only [Act.put, gA, gB, gC, gD, gE, gF]
             refine wpAnyH_ready (rs := [15]) (by kernel_rfl) (by simp) ?_
             refine AllReadyH.cons rfl (fun K hK => ?_) .nil
             have hFz : Firm (fun b => b = wA.heap.size) (wB.alloc (.cells #[.slice (some ⟨wA.heap.size, 0, none⟩) 2 2, .string (tB s), .bool false, .int .i64 0, .int .i64 0, .int .i64 0] 71)) (fun V => alR V [.slice (some ⟨wA.heap.size, 0, none⟩) 2 2, .string (tB s), .bool false, .int .i64 0, .int .i64 0, .int .i64 0] (lvL o s)) := by
              have h2 := (hPt.below hbB).below ((Below.refl wB.heap.size wB).alloc (Nat.le_refl _) (.cells #[.slice (some ⟨wA.heap.size, 0, none⟩) 2 2, .string (tB s), .bool false, .int .i64 0, .int .i64 0, .int .i64 0] 71))
              exact Firm.imp h2 (fun V hV => ⟨_, rfl, hV⟩)
             obtain ⟨q1, q2, q3, q4⟩ := HF.out _ fL
             refine step_append_lies _ (by rfl) _ _ _ (by rfl) (Q + 4) 71 j1 (.agg #[.slice none 0 0, .string ByteArray.empty, .bool false, .int .i64 0, .int .i64 0, .int .i64 0]) 6 72 Try.underlying72 hj jz0 jz1 jz2 rfl (by omega) rv' (i + 1) ys' (by rfl) q1 ⟨wB.heap.size, 0, none⟩ 1 1 [.slice (some ⟨wA.heap.size, 0, none⟩) 2 2, .string (tB s), .bool false, .int .i64 0, .int .i64 0, .int .i64 0] (by rfl) (by rfl) (rd_news wB [.slice (some ⟨wA.heap.size, 0, none⟩) 2 2, .string (tB s), .bool false, .int .i64 0, .int .i64 0, .int .i64 0] 71) (by simp [Value.oneCell']) (by omega) (by unfold maxLen; omega) (by omega) (by omega) (wB.alloc (.cells #[.slice (some ⟨wA.heap.size, 0, none⟩) 2 2, .string (tB s), .bool false, .int .i64 0, .int .i64 0, .int .i64 0] 71)).heap.size rfl ?_
             intro gg cap2 w7 hown7 hgrow7 hat hlt7
             have f7 : w7.cell? ⟨Q + 3, 1, none⟩ = some rv' := hgrow7.cell q2 hne9
             have r7 : w7.frozen? ⟨Q + 3, 1, none⟩ = false := (hgrow7.frozen_far ⟨Q + 3, 1, none⟩ q4 hne9).trans q3
             have S7 := HSG.out _ _ fL hgrow7
             refine hK.out _ _ S7 (fun hHeld => ?_)
             clear hK K
             try simp only [Act.put, gA, gB, gC, gD, gE, gF]
             refine tk 16 ?_
             try simp only [Act.put, gA, gB, gC, gD, gE, gF]
             refine wpAnyH_ready (rs := [17]) (by kernel_rfl) (by simp) ?_
             refine AllReadyH.cons rfl (fun K hK => ?_) .nil
             try simp only [gA, gB, gC]
             go_simp
             refine hK.out _ _ (HSS.out _ _ S7) (fun hHeld => ?_)
             clear hK K
             try simp only [Act.put, gA, gB, gC, gD, gE, gF]
             refine wpAnyH_done (by kernel_rfl) ?_ _
             go_wp2_with fail
             go_meet
             case rel => exact Lib.hid ⟨_, _, _, HP3.out _ _ _ _ _ _ fL hFz (fun b hb => by rw [hb]; first | exact gP | omega) rfl hown7 hgrow7 hat⟩
           refine AllReadyH.cons rfl (fun K hK => ?_) .nil
           try simp only [gA, gB, gC]
           go_simp
           go_at_call 28
           (with_reducible refine (HD2.out _).mono ?_)
           rintro e wB ⟨rfl, hbB⟩
           have fB : Below W11.heap.size W11 wB := (fA).trans (hbB.mono (fA).size)
           go_wp2_with fail
           refine hK.out _ _ (HS.out _ fB) (fun hHeld => ?_)
           clear hK K
           try simp only [Act.put, gA, gB, gC, gD, gE, gF]
           refine tk 11 ?_
           try simp only [Act.put, gA, gB, gC, gD, gE, gF]
           refine tk 12 ?_
           try simp only [Act.put, gA, gB, gC, gD, gE, gF]
           refine wpAnyH_ready (rs := [8]) (by kernel_rfl) (by simp) ?_
           refine AllReadyH.cons rfl (fun K hK => ?_) .nil
           try simp only [gA, gB, gC]
           go_simp
           have fP : Below W11.heap.size W11 (wB.alloc (.cells #[.string (tB o), .bool false, .int .i64 0, .int .i64 0, .string ⟨#[]⟩, .int .i64 0, .string eB, .bool false, .int .i64 0, .int .i64 0, .string ⟨#[]⟩, .int .i64 0] 78)) := (fB).alloc (fB).size (.cells #[.string (tB o), .bool false, .int .i64 0, .int .i64 0, .string ⟨#[]⟩, .int .i64 0, .string eB, .bool false, .int .i64 0, .int .i64 0, .string ⟨#[]⟩, .int .i64 0] 78)
           have hPt := pts_lit wB [ptS (nameG (tB o)), ptS (nameG eB)] #[.string (tB o), .bool false, .int .i64 0, .int .i64 0, .string ⟨#[]⟩, .int .i64 0, .string eB, .bool false, .int .i64 0, .int .i64 0, .string ⟨#[]⟩, .int .i64 0] rfl (by simp)
           have gP : W11.heap.size ≤ wB.heap.size := (fB).size
           refine hK.out _ _ (HS.out _ fP) (fun hHeld => ?_)
           clear hK K
           try simp only [Act.put, gA, gB, gC, gD, gE, gF]
           refine tk 13 ?_
           try simp only [Act.put, gA, gB, gC, gD, gE, gF]
           refine wpAnyH_ready (rs := [14]) (by kernel_rfl) (by simp) ?_
           refine AllReadyH.cons rfl (fun K hK => ?_) .nil
           try simp only [gA, gB, gC]
           go_simp
           have fL : Below W11.heap.size W11 ((wB.alloc (.cells #[.string (tB o), .bool false, .int .i64 0, .int .i64 0, .string ⟨#[]⟩, .int .i64 0, .string eB, .bool false, .int .i64 0, .int .i64 0, .string ⟨#[]⟩, .int .i64 0] 78)).alloc (.cells #[.slice (some ⟨wB.heap.size, 0, none⟩) 2 2, .string (tB s), .bool false, .int .i64 0, .int .i64 0, .int .i64 0] 71)) := (fP).alloc (fP).size _
           refine hK.out _ _ (HS.out _ fL) (fun hHeld => ?_)
           clear hK K
           try simp only [Act.put, gA, gB, gC, gD, gE, gF]
           refine wpAnyH_ready (rs := [15]) (by kernel_rfl) (by simp) ?_
           refine AllReadyH.cons rfl (fun K hK => ?_) .nil
           have hFz : Firm (fun b => b = wB.heap.size) ((wB.alloc (.cells #[.string (tB o), .bool false, .int .i64 0, .int .i64 0, .string ⟨#[]⟩, .int .i64 0, .string eB, .bool false, .int .i64 0, .int .i64 0, .string ⟨#[]⟩, .int .i64 0] 78)).alloc (.cells #[.slice (some ⟨wB.heap.size, 0, none⟩) 2 2, .string (tB s), .bool false, .int .i64 0, .int .i64 0, .int .i64 0] 71)) (fun V => alR V [.slice (some ⟨wB.heap.size, 0, none⟩) 2 2, .string (tB s), .bool false, .int .i64 0, .int .i64 0, .int .i64 0] (lvL o s)) := by
            have h2 := hPt.below ((Below.refl (wB.alloc (.cells #[.string (tB o), .bool false, .int .i64 0, .int .i64 0, .string ⟨#[]⟩, .int .i64 0, .string eB, .bool false, .int .i64 0, .int .i64 0, .string ⟨#[]⟩, .int .i64 0] 78)).heap.size (wB.alloc (.cells #[.string (tB o), .bool false, .int .i64 0, .int .i64 0, .string ⟨#[]⟩, .int .i64 0, .string eB, .bool false, .int .i64 0, .int .i64 0, .string ⟨#[]⟩, .int .i64 0] 78))).alloc (Nat.le_refl _) (.cells #[.slice (some ⟨wB.heap.size, 0, none⟩) 2 2, .string (tB s), .bool false, .int .i64 0, .int .i64 0, .int .i64 0] 71))
            exact Firm.imp h2 (fun V hV => ⟨_, rfl, hV⟩)
           obtain ⟨q1, q2, q3, q4⟩ := HF.out _ fL
           refine step_append_lies _ (by rfl) _ _ _ (by rfl) (Q + 4) 71 j1 (.agg #[.slice none 0 0, .string ByteArray.empty, .bool false, .int .i64 0, .int .i64 0, .int .i64 0]) 6 72 Try.underlying72 hj jz0 jz1 jz2 rfl (by omega) rv' (i + 1) ys' (by rfl) q1 ⟨wB.heap.size + 1, 0, none⟩ 1 1 [.slice (some ⟨wB.heap.size, 0, none⟩) 2 2, .string (tB s), .bool false, .int .i64 0, .int .i64 0, .int .i64 0] (by rfl) (by rfl) (fun j u hj => by simpa using rd_news (wB.alloc (.cells #[.string (tB o), .bool false, .int .i64 0, .int .i64 0, .string ⟨#[]⟩, .int .i64 0, .string eB, .bool false, .int .i64 0, .int .i64 0, .string ⟨#[]⟩, .int .i64 0] 78)) [.slice (some ⟨wB.heap.size, 0, none⟩) 2 2, .string (tB s), .bool false, .int .i64 0, .int .i64 0, .int .i64 0] 71 j u hj) (by simp [Value.oneCell']) (by omega) (by unfold maxLen; omega) (by omega) (by omega) ((wB.alloc (.cells #[.string (tB o), .bool false, .int .i64 0, .int .i64 0, .string ⟨#[]⟩, .int .i64 0, .string eB, .bool false, .int .i64 0, .int .i64 0, .string ⟨#[]⟩, .int .i64 0] 78)).alloc (.cells #[.slice (some ⟨wB.heap.size, 0, none⟩) 2 2, .string (tB s), .bool false, .int .i64 0, .int .i64 0, .int .i64 0] 71)).heap.size rfl ?_
           intro gg cap2 w7 hown7 hgrow7 hat hlt7
           have f7 : w7.cell? ⟨Q + 3, 1, none⟩ = some rv' := hgrow7.cell q2 hne9
           have r7 : w7.frozen? ⟨Q + 3, 1, none⟩ = false := (hgrow7.frozen_far ⟨Q + 3, 1, none⟩ q4 hne9).trans q3
           have S7 := HSG.out _ _ fL hgrow7
           refine hK.out _ _ S7 (fun hHeld => ?_)
           clear hK K
           try simp only [Act.put, gA, gB, gC, gD, gE, gF]
           refine tk 16 ?_
           try simp only [Act.put, gA, gB, gC, gD, gE, gF]
           refine wpAnyH_ready (rs := [17]) (by kernel_rfl) (by simp) ?_
           refine AllReadyH.cons rfl (fun K hK => ?_) .nil
           try simp only [gA, gB, gC]
           go_simp
           refine hK.out _ _ (HSS.out _ _ S7) (fun hHeld => ?_)
           clear hK K
           try simp only [Act.put, gA, gB, gC, gD, gE, gF]
           refine wpAnyH_done (by kernel_rfl) ?_ _
           go_wp2_with fail
           go_meet
           case rel => exact Lib.hid ⟨_, _, _, HP3.out _ _ _ _ _ _ fL hFz (fun b hb => by rw [hb]; first | exact gP | omega) rfl hown7 hgrow7 hat⟩
         refine AllReadyH.cons rfl (fun K hK => ?_) .nil
         try simp only [gA, gB, gC]
         go_simp
         go_at_call 28
         (with_reducible refine (HD1.out _).mono ?_)
         rintro e wA ⟨rfl, hbA⟩
         have fA : Below W11.heap.size W11 wA := ((Below.refl W11.heap.size W11).drew).trans (hbA.mono ((Below.refl W11.heap.size W11).drew).size)
         go_wp2_with fail
         refine hK.out _ _ (HS.out _ fA) (fun hHeld => ?_)
         clear hK K
         try simp only [Act.put, gA, gB, gC, gD, gE, gF]
         refine tk 4 ?_
         try simp only [Act.put, gA, gB, gC, gD, gE, gF]
         refine tk 5 ?_
         try simp only [Act.put, gA, gB, gC, gD, gE, gF]
         refine tk 6 ?_
         try simp only [Act.put, gA, gB, gC, gD, gE, gF]
         refine wpAnyH_ready (rs := [1, 8, 10]) (by kernel_rfl) (by simp) ?_
         refine AllReadyH.cons rfl (fun K hK => ?_) ?_
         · try simp only [gA, gB, gC]
           have q1 := (HF.out _ (fA)).2.1
           go_simp
           refine hK.out _ _ (HS.out _ (fA)) (fun hHeld => ?_)
           clear hK K
           try simp only [Act.put, gA, gB, gC, gD, gE, gF]
           refine wpAnyH_ready (rs := [8, 10]) (by kernel_rfl) (by simp) ?_
           refine AllReadyH.cons rfl (fun K hK => ?_) ?_
           · try simp only [gA, gB, gC]
             go_simp
             have fP : Below W11.heap.size W11 (wA.alloc (.cells #[.string (tB o), .bool false, .int .i64 0, .int .i64 0, .string ⟨#[]⟩, .int .i64 0, .string eB, .bool false, .int .i64 0, .int .i64 0, .string ⟨#[]⟩, .int .i64 0] 78)) := (fA).alloc (fA).size (.cells #[.string (tB o), .bool false, .int .i64 0, .int .i64 0, .string ⟨#[]⟩, .int .i64 0, .string eB, .bool false, .int .i64 0, .int .i64 0, .string ⟨#[]⟩, .int .i64 0] 78)
             have hPt := pts_lit wA [ptS (nameG (tB o)), ptS (nameG eB)] #[.string (tB o), .bool false, .int .i64 0, .int .i64 0, .string ⟨#[]⟩, .int .i64 0, .string eB, .bool false, .int .i64 0, .int .i64 0, .string ⟨#[]⟩, .int .i64 0] rfl (by simp)
             have gP : W11.heap.size ≤ wA.heap.size := (fA).size
             refine hK.out _ _ (HS.out _ fP) (fun hHeld => ?_)
             clear hK K
             try simp only [Act.put, gA, gB, gC, gD, gE, gF]
             refine wpAnyH_ready (rs := [10]) (by kernel_rfl) (by simp) ?_
             refine AllReadyH.cons rfl (fun K hK => ?_) .nil
             try simp only [gA, gB, gC]
             go_simp
             go_at_call 28
             (with_reducible refine (HD2.out _).mono ?_)
             rintro e wB ⟨rfl, hbB⟩
             have fB : Below W11.heap.size W11 wB := (fP).trans (hbB.mono (fP).size)
             go_wp2_with fail
             refine hK.out _ _ (HS.out _ fB) (fun hHeld => ?_)
             clear hK K
             try simp only [Act.put, gA, gB, gC, gD, gE, gF]
             refine tk 11 ?_
             try simp only [Act.put, gA, gB, gC, gD, gE, gF]
             refine tk 12 ?_
             try simp only [Act.put, gA, gB, gC, gD, gE, gF]
             refine tk 13 ?_
             try simp only [Act.put, gA, gB, gC, gD, gE, gF]
             refine wpAnyH_ready (rs := [14]) (by kernel_rfl) (by simp) ?_
             refine AllReadyH.cons rfl (fun K hK => ?_) .nil
             try simp only [gA, gB, gC]
             go_simp
             have fL : Below W11.heap.size W11 (wB.alloc (.cells #[.slice (some ⟨wA.heap.size, 0, none⟩) 2 2, .string (tB s), .bool false, .int .i64 0, .int .i64 0, .int .i64 0] 71)) := (fB).alloc (fB).size _
             refine hK.out _ _ (HS.out _ fL) (fun hHeld => ?_)
             clear hK K
             try simp only [Act.put, gA, gB, gC, gD, gE, gF]
             refine wpAnyH_ready (rs := [15]) (by kernel_rfl) (by simp) ?_
             refine AllReadyH.cons rfl (fun K hK => ?_) .nil
             have hFz : Firm (fun b => b = wA.heap.size) (wB.alloc (.cells #[.slice (some ⟨wA.heap.size, 0, none⟩) 2 2, .string (tB s), .bool false, .int .i64 0, .int .i64 0, .int .i64 0] 71)) (fun V => alR V [.slice (some ⟨wA.heap.size, 0, none⟩) 2 2, .string (tB s), .bool false, .int .i64 0, .int .i64 0, .int .i64 0] (lvL o s)) := by
              have h2 := (hPt.below hbB).below ((Below.refl wB.heap.size wB).alloc (Nat.le_refl _) (.cells #[.slice (some ⟨wA.heap.size, 0, none⟩) 2 2, .string (tB s), .bool false, .int .i64 0, .int .i64 0, .int .i64 0] 71))
              exact Firm.imp h2 (fun V hV => ⟨_, rfl, hV⟩)
             obtain ⟨q1, q2, q3, q4⟩ := HF.out _ fL
             refine step_append_lies _ (by rfl) _ _ _ (by rfl) (Q + 4) 71 j1 (.agg #[.slice none 0 0, .string ByteArray.empty, .bool false, .int .i64 0, .int .i64 0, .int .i64 0]) 6 72 Try.underlying72 hj jz0 jz1 jz2 rfl (by omega) rv' (i + 1) ys' (by rfl) q1 ⟨wB.heap.size, 0, none⟩ 1 1 [.slice (some ⟨wA.heap.size, 0, none⟩) 2 2, .string (tB s), .bool false, .int .i64 0, .int .i64 0, .int .i64 0] (by rfl) (by rfl) (rd_news wB [.slice (some ⟨wA.heap.size, 0, none⟩) 2 2, .string (tB s), .bool false, .int .i64 0, .int .i64 0, .int .i64 0] 71) (by simp [Value.oneCell']) (by omega) (by unfold maxLen; omega) (by omega) (by omega) (wB.alloc (.cells #[.slice (some ⟨wA.heap.size, 0, none⟩) 2 2, .string (tB s), .bool false, .int .i64 0, .int .i64 0, .int .i64 0] 71)).heap.size rfl ?_
             intro gg cap2 w7 hown7 hgrow7 hat hlt7
             have f7 : w7.cell? ⟨Q + 3, 1, none⟩ = some rv' := hgrow7.cell q2 hne9
             have r7 : w7.frozen? ⟨Q + 3, 1, none⟩ = false := (hgrow7.frozen_far ⟨Q + 3, 1, none⟩ q4 hne9).trans q3
             have S7 := HSG.out _ _ fL hgrow7
             refine hK.out _ _ S7 (fun hHeld => ?_)
             clear hK K
             try simp only [Act.put, gA, gB, gC, gD, gE, gF]
             refine tk 16 ?_
             try simp only [Act.put, gA, gB, gC, gD, gE, gF]
             refine wpAnyH_ready (rs := [17]) (by kernel_rfl) (by simp) ?_
             refine AllReadyH.cons rfl (fun K hK => ?_) .nil
             try simp only [gA, gB, gC]
             go_simp
             refine hK.out _ _ (HSS.out _ _ S7) (fun hHeld => ?_)
             clear hK K
             try simp only [Act.put, gA, gB, gC, gD, gE, gF]
             refine wpAnyH_done (by kernel_rfl) ?_ _
             go_wp2_with fail
             go_meet
             case rel => exact Lib.hid ⟨_, _, _, HP3.out _ _ _ _ _ _ fL hFz (fun b hb => by rw [hb]; first | exact gP | omega) rfl hown7 hgrow7 hat⟩
           refine AllReadyH.cons rfl (fun K hK => ?_) .nil
           try simp only [gA, gB, gC]
           go_simp
           go_at_call 28
           (with_reducible refine (HD2.out _).mono ?_)
           rintro e wB ⟨rfl, hbB⟩
           have fB : Below W11.heap.size W11 wB := (fA).trans (hbB.mono (fA).size)
           go_wp2_with fail
           refine hK.out _ _ (HS.out _ fB) (fun hHeld => ?_)
           clear hK K
           try simp only [Act.put, gA, gB, gC, gD, gE, gF]
           refine tk 11 ?_
           try simp only [Act.put, gA, gB, gC, gD, gE, gF]
           refine tk 12 ?_
           try simp only [Act.put, gA, gB, gC, gD, gE, gF]
           refine wpAnyH_ready (rs := [8]) (by kernel_rfl) (by simp) ?_
           refine AllReadyH.cons rfl (fun K hK => ?_) .nil
           try simp only [gA, gB, gC]
           go_simp
           have fP : Below W11.heap.size W11 (wB.alloc (.cells #[.string (tB o), .bool false, .int .i64 0, .int .i64 0, .string ⟨#[]⟩, .int .i64 0, .string eB, .bool false, .int .i64 0, .int .i64 0, .string ⟨#[]⟩, .int .i64 0] 78)) := (fB).alloc (fB).size (.cells #[.string (tB o), .bool false, .int .i64 0, .int .i64 0, .string ⟨#[]⟩, .int .i64 0, .string eB, .bool false, .int .i64 0, .int .i64 0, .string ⟨#[]⟩, .int .i64 0] 78)
           have hPt := pts_lit wB [ptS (nameG (tB o)), ptS (nameG eB)] #[.string (tB o), .bool false, .int .i64 0, .int .i64 0, .string ⟨#[]⟩, .int .i64 0, .string eB, .bool false, .int .i64 0, .int .i64 0, .string ⟨#[]⟩, .int .i64 0] rfl (by simp)
           have gP : W11.heap.size ≤ wB.heap.size := (fB).size
           refine hK.out _ _ (HS.out _ fP) (fun hHeld => ?_)
           clear hK K
           try simp only [Act.put, gA, gB, gC, gD, gE, gF]
           refine tk 13 ?_
           try simp only [Act.put, gA, gB, gC, gD, gE, gF]
           refine wpAnyH_ready (rs := [14]) (by kernel_rfl) (by simp) ?_
           refine AllReadyH.cons rfl (fun K hK => ?_) .nil
           try simp only [gA, gB, gC]
           go_simp
           have fL : Below W11.heap.size W11 ((wB.alloc (.cells #[.string (tB o), .bool false, .int .i64 0, .int .i64 0, .string ⟨#[]⟩, .int .i64 0, .string eB, .bool false, .int .i64 0, .int .i64 0, .string ⟨#[]⟩, .int .i64 0] 78)).alloc (.cells #[.slice (some ⟨wB.heap.size, 0, none⟩) 2 2, .string (tB s), .bool false, .int .i64 0, .int .i64 0, .int .i64 0] 71)) := (fP).alloc (fP).size _
           refine hK.out _ _ (HS.out _ fL) (fun hHeld => ?_)
           clear hK K
           try simp only [Act.put, gA, gB, gC, gD, gE, gF]
           refine wpAnyH_ready (rs := [15]) (by kernel_rfl) (by simp) ?_
           refine AllReadyH.cons rfl (fun K hK => ?_) .nil
           have hFz : Firm (fun b => b = wB.heap.size) ((wB.alloc (.cells #[.string (tB o), .bool false, .int .i64 0, .int .i64 0, .string ⟨#[]⟩, .int .i64 0, .string eB, .bool false, .int .i64 0, .int .i64 0, .string ⟨#[]⟩, .int .i64 0] 78)).alloc (.cells #[.slice (some ⟨wB.heap.size, 0, none⟩) 2 2, .string (tB s), .bool false, .int .i64 0, .int .i64 0, .int .i64 0] 71)) (fun V => alR V [.slice (some ⟨wB.heap.size, 0, none⟩) 2 2, .string (tB s), .bool false, .int .i64 0, .int .i64 0, .int .i64 0] (lvL o s)) := by
            have h2 := hPt.below ((Below.refl (wB.alloc (.cells #[.string (tB o), .bool false, .int .i64 0, .int .i64 0, .string ⟨#[]⟩, .int .i64 0, .string eB, .bool false, .int .i64 0, .int .i64 0, .string ⟨#[]⟩, .int .i64 0] 78)).heap.size (wB.alloc (.cells #[.string (tB o), .bool false, .int .i64 0, .int .i64 0, .string ⟨#[]⟩, .int .i64 0, .string eB, .bool false, .int .i64 0, .int .i64 0, .string ⟨#[]⟩, .int .i64 0] 78))).alloc (Nat.le_refl _) (.cells #[.slice (some ⟨wB.heap.size, 0, none⟩) 2 2, .string (tB s), .bool false, .int .i64 0, .int .i64 0, .int .i64 0] 71))
            exact Firm.imp h2 (fun V hV => ⟨_, rfl, hV⟩)
           obtain ⟨q1, q2, q3, q4⟩ := HF.out _ fL
           refine step_append_lies _ (by rfl) _ _ _ (by rfl) (Q + 4) 71 j1 (.agg #[.slice none 0 0, .string ByteArray.empty, .bool false, .int .i64 0, .int .i64 0, .int .i64 0]) 6 72 Try.underlying72 hj jz0 jz1 jz2 rfl (by omega) rv' (i + 1) ys' (by rfl) q1 ⟨wB.heap.size + 1, 0, none⟩ 1 1 [.slice (some ⟨wB.heap.size, 0, none⟩) 2 2, .string (tB s), .bool false, .int .i64 0, .int .i64 0, .int .i64 0] (by rfl) (by rfl) (fun j u hj => by simpa using rd_news (wB.alloc (.cells #[.string (tB o), .bool false, .int .i64 0, .int .i64 0, .string ⟨#[]⟩, .int .i64 0, .string eB, .bool false, .int .i64 0, .int .i64 0, .string ⟨#[]⟩, .int .i64 0] 78)) [.slice (some ⟨wB.heap.size, 0, none⟩) 2 2, .string (tB s), .bool false, .int .i64 0, .int .i64 0, .int .i64 0] 71 j u hj) (by simp [Value.oneCell']) (by omega) (by unfold maxLen; omega) (by omega) (by omega) ((wB.alloc (.cells #[.string (tB o), .bool false, .int .i64 0, .int .i64 0, .string ⟨#[]⟩, .int .i64 0, .string eB, .bool false, .int .i64 0, .int .i64 0, .string ⟨#[]⟩, .int .i64 0] 78)).alloc (.cells #[.slice (some ⟨wB.heap.size, 0, none⟩) 2 2, .string (tB s), .bool false, .int .i64 0, .int .i64 0, .int .i64 0] 71)).heap.size rfl ?_
           intro gg cap2 w7 hown7 hgrow7 hat hlt7
           have f7 : w7.cell? ⟨Q + 3, 1, none⟩ = some rv' := hgrow7.cell q2 hne9
           have r7 : w7.frozen? ⟨Q + 3, 1, none⟩ = false := (hgrow7.frozen_far ⟨Q + 3, 1, none⟩ q4 hne9).trans q3
           have S7 := HSG.out _ _ fL hgrow7
           refine hK.out _ _ S7 (fun hHeld => ?_)
           clear hK K
           try simp only [Act.put, gA, gB, gC, gD, gE, gF]
           refine tk 16 ?_
           try simp only [Act.put, gA, gB, gC, gD, gE, gF]
           refine wpAnyH_ready (rs := [17]) (by kernel_rfl) (by simp) ?_
           refine AllReadyH.cons rfl (fun K hK => ?_) .nil
           try simp only [gA, gB, gC]
           go_simp
           refine hK.out _ _ (HSS.out _ _ S7) (fun hHeld => ?_)
           clear hK K
           try simp only [Act.put, gA, gB, gC, gD, gE, gF]
           refine wpAnyH_done (by kernel_rfl) ?_ _
           go_wp2_with fail
           go_meet
           case rel => exact Lib.hid ⟨_, _, _, HP3.out _ _ _ _ _ _ fL hFz (fun b hb => by rw [hb]; first | exact gP | omega) rfl hown7 hgrow7 hat⟩
         refine AllReadyH.cons rfl (fun K hK => ?_) ?_
         · try simp only [gA, gB, gC]
           go_simp
           have fP : Below W11.heap.size W11 (wA.alloc (.cells #[.string (tB o), .bool false, .int .i64 0, .int .i64 0, .string ⟨#[]⟩, .int .i64 0, .string eB, .bool false, .int .i64 0, .int .i64 0, .string ⟨#[]⟩, .int .i64 0] 78)) := (fA).alloc (fA).size (.cells #[.string (tB o), .bool false, .int .i64 0, .int .i64 0, .string ⟨#[]⟩, .int .i64 0, .string eB, .bool false, .int .i64 0, .int .i64 0, .string ⟨#[]⟩, .int .i64 0] 78)
           have hPt := pts_lit wA [ptS (nameG (tB o)), ptS (nameG eB)] #[.string (tB o), .bool false, .int .i64 0, .int .i64 0, .string ⟨#[]⟩, .int .i64 0, .string eB, .bool false, .int .i64 0, .int .i64 0, .string ⟨#[]⟩, .int .i64 0] rfl (by simp)
           have gP : W11.heap.size ≤ wA.heap.size := (fA).size
           refine hK.out _ _ (HS.out _ fP) (fun hHeld => ?_)
           clear hK K
           try simp only [Act.put, gA, gB, gC, gD, gE, gF]
           refine wpAnyH_ready (rs := [1, 10]) (by kernel_rfl) (by simp) ?_
           refine AllReadyH.cons rfl (fun K hK => ?_) ?_
           · try simp only [gA, gB, gC]
             have q1 := (HF.out _ (fP)).2.1
             go_simp
             refine hK.out _ _ (HS.out _ (fP)) (fun hHeld => ?_)
             clear hK K
             try simp only [Act.put, gA, gB, gC, gD, gE, gF]
             refine wpAnyH_ready (rs := [10]) (by kernel_rfl) (by simp) ?_
             refine AllReadyH.cons rfl (fun K hK => ?_) .nil
             try simp only [gA, gB, gC]
             go_simp
             go_at_call 28
             (with_reducible refine (HD2.out _).mono ?_)
             rintro e wB ⟨rfl, hbB⟩
             have fB : Below W11.heap.size W11 wB := (fP).trans (hbB.mono (fP).size)
             go_wp2_with fail
             refine hK.out _ _ (HS.out _ fB) (fun hHeld => ?_)
             clear hK K
             try simp only [Act.put, gA, gB, gC, gD, gE, gF]
             refine tk 11 ?_
             try simp only [Act.put, gA, gB, gC, gD, gE, gF]
             refine tk 12 ?_
             try simp only [Act.put, gA, gB, gC, gD, gE, gF]
             refine tk 13 ?_
             try simp only [Act.put, gA, gB, gC, gD, gE, gF]
             refine wpAnyH_ready (rs := [14]) (by kernel_rfl) (by simp) ?_
             refine AllReadyH.cons rfl (fun K hK => ?_) .nil
             try simp only [gA, gB, gC]
             go_simp
             have fL : Below W11.heap.size W11 (wB.alloc (.cells #[.slice (some ⟨wA.heap.size, 0, none⟩) 2 2, .string (tB s), .bool false, .int .i64 0, .int .i64 0, .int .i64 0] 71)) := (fB).alloc (fB).size _
             refine hK.out _ _ (HS.out _ fL) (fun hHeld => ?_)
             clear hK K
             try simp only [Act.put, gA, gB, gC, gD, gE, gF]
             refine wpAnyH_ready (rs := [15]) (by kernel_rfl) (by simp) ?_
             refine AllReadyH.cons rfl (fun K hK => ?_) .nil
             have hFz : Firm (fun b => b = wA.heap.size) (wB.alloc (.cells #[.slice (some ⟨wA.heap.size, 0, none⟩) 2 2, .string (tB s), .bool false, .int .i64 0, .int .i64 0, .int .i64 0] 71)) (fun V => alR V [.slice (some ⟨wA.heap.size, 0, none⟩) 2 2, .string (tB s), .bool false, .int .i64 0, .int .i64 0, .int .i64 0] (lvL o s)) := by
              have h2 := (hPt.below hbB).below ((Below.refl wB.heap.size wB).alloc (Nat.le_refl _) (.cells #[.slice (some ⟨wA.heap.size, 0, none⟩) 2 2, .string (tB s), .bool false, .int .i64 0, .int .i64 0, .int .i64 0] 71))
              exact Firm.imp h2 (fun V hV => ⟨_, rfl, hV⟩)
             obtain ⟨q1, q2, q3, q4⟩ := HF.out _ fL
             refine step_append_lies _ (by rfl) _ _ _ (by rfl) (Q + 4) 71 j1 (.agg #[.slice none 0 0, .string ByteArray.empty, .bool false, .int .i64 0, .int .i64 0, .int .i64 0]) 6 72 Try.underlying72 hj jz0 jz1 jz2 rfl (by omega) rv' (i + 1) ys' (by rfl) q1 ⟨wB.heap.size, 0, none⟩ 1 1 [.slice (some ⟨wA.heap.size, 0, none⟩) 2 2, .string (tB s), .bool false, .int .i64 0, .int .i64 0, .int .i64 0] (by rfl) (by rfl) (rd_news wB [.slice (some ⟨wA.heap.size, 0, none⟩) 2 2, .string (tB s), .bool false, .int .i64 0, .int .i64 0, .int .i64 0] 71) (by simp [Value.oneCell']) (by omega) (by unfold maxLen; omega) (by omega) (by omega) (wB.alloc (.cells #[.slice (some ⟨wA.heap.size, 0, none⟩) 2 2, .string (tB s), .bool false, .int .i64 0, .int .i64 0, .int .i64 0] 71)).heap.size rfl ?_
             intro gg cap2 w7 hown7 hgrow7 hat hlt7
             have f7 : w7.cell? ⟨Q + 3, 1, none⟩ = some rv' := hgrow7.cell q2 hne9
             have r7 : w7.frozen? ⟨Q + 3, 1, none⟩ = false := (hgrow7.frozen_far ⟨Q + 3, 1, none⟩ q4 hne9).trans q3
             have S7 := HSG.out _ _ fL hgrow7
             refine hK.out _ _ S7 (fun hHeld => ?_)
             clear hK K
             try simp only [Act.put, gA, gB, gC, gD, gE, gF]
             refine tk 16 ?_
             try simp only [Act.put, gA, gB, gC, gD, gE, gF]
             refine wpAnyH_ready (rs := [17]) (by kernel_rfl) (by simp) ?_
             refine AllReadyH.cons rfl (fun K hK => ?_) .nil
             try simp only [gA, gB, gC]
             go_simp
             refine hK.out _ _ (HSS.out _ _ S7) (fun hHeld => ?_)
             clear hK K
             try simp only [Act.put, gA, gB, gC, gD, gE, gF]
             refine wpAnyH_done (by kernel_rfl) ?_ _
             go_wp2_with fail
             go_meet
             case rel => exact Lib.hid ⟨_, _, _, HP3.out _ _ _ _ _ _ fL hFz (fun b hb => by rw [hb]; first | exact gP | omega) rfl hown7 hgrow7 hat⟩
           refine AllReadyH.cons rfl (fun K hK => ?_) .nil
           try simp only [gA, gB, gC]
           go_simp
           go_at_call 28
           (with_reducible refine (HD2.out _).mono ?_)
           rintro e wB ⟨rfl, hbB⟩
           have fB : Below W11.heap.size W11 wB := (fP).trans (hbB.mono (fP).size)
           go_wp2_with fail
           refine hK.out _ _ (HS.out _ fB) (fun hHeld => ?_)
           clear hK K
           try simp only [Act.put, gA, gB, gC, gD, gE, gF]
           refine tk 11 ?_
           try simp only [Act.put, gA, gB, gC, gD, gE, gF]
           refine tk 12 ?_
           try simp only [Act.put, gA, gB, gC, gD, gE, gF]
           refine tk 13 ?_
           try simp only [Act.put, gA, gB, gC, gD, gE, gF]
           refine wpAnyH_ready (rs := [1, 14]) (by kernel_rfl) (by simp) ?_
           refine AllReadyH.cons rfl (fun K hK => ?_) ?_
           · try simp only [gA, gB, gC]
             have q1 := (HF.out _ (fB)).2.1
             go_simp
             refine hK.out _ _ (HS.out _ (fB)) (fun hHeld => ?_)
             clear hK K
             try simp only [Act.put, gA, gB, gC, gD, gE, gF]
             refine wpAnyH_ready (rs := [14]) (by kernel_rfl) (by simp) ?_
             refine AllReadyH.cons rfl (fun K hK => ?_) .nil
             try simp only [gA, gB, gC]
             go_simp
             have fL : Below W11.heap.size W11 (wB.alloc (.cells #[.slice (some ⟨wA.heap.size, 0, none⟩) 2 2, .string (tB s), .bool false, .int .i64 0, .int .i64 0, .int .i64 0] 71)) := (fB).alloc (fB).size _
             refine hK.out _ _ (HS.out _ fL) (fun hHeld => ?_)
             clear hK K
             try simp only [Act.put, gA, gB, gC, gD, gE, gF]
             refine wpAnyH_ready (rs := [15]) (by kernel_rfl) (by simp) ?_
             refine AllReadyH.cons rfl (fun K hK => ?_) .nil
             have hFz : Firm (fun b => b = wA.heap.size) (wB.alloc (.cells #[.slice (some ⟨wA.heap.size, 0, none⟩) 2 2, .string (tB s), .bool false, .int .i64 0, .int .i64 0, .int .i64 0] 71)) (fun V => alR V [.slice (some ⟨wA.heap.size, 0, none⟩) 2 2, .string (tB s), .bool false, .int .i64 0, .int .i64 0, .int .i64 0] (lvL o s)) := by
              have h2 := (hPt.below hbB).below ((Below.refl wB.heap.size wB).alloc (Nat.le_refl _) (.cells #[.slice (some ⟨wA.heap.size, 0, none⟩) 2 2, .string (tB s), .bool false, .int .i64 0, .int .i64 0, .int .i64 0] 71))
              exact Firm.imp h2 (fun V hV => ⟨_, rfl, hV⟩)
             obtain ⟨q1, q2, q3, q4⟩ := HF.out _ fL
             refine step_append_lies _ (by rfl) _ _ _ (by rfl) (Q + 4) 71 j1 (.agg #[.slice none 0 0, .string ByteArray.empty, .bool false, .int .i64 0, .int .i64 0, .int .i64 0]) 6 72 Try.underlying72 hj jz0 jz1 jz2 rfl (by omega) rv' (i + 1) ys' (by rfl) q1 ⟨wB.heap.size, 0, none⟩ 1 1 [.slice (some ⟨wA.heap.size, 0, none⟩) 2 2, .string (tB s), .bool false, .int .i64 0, .int .i64 0, .int .i64 0] (by rfl) (by rfl) (rd_news wB [.slice (some ⟨wA.heap.size, 0, none⟩) 2 2, .string (tB s), .bool false, .int .i64 0, .int .i64 0, .int .i64 0] 71) (by simp [Value.oneCell']) (by omega) (by unfold maxLen; omega) (by omega) (by omega) (wB.alloc (.cells #[.slice (some ⟨wA.heap.size, 0, none⟩) 2 2, .string (tB s), .bool false, .int .i64 0, .int .i64 0, .int .i64 0] 71)).heap.size rfl ?_
             intro gg cap2 w7 hown7 hgrow7 hat hlt7
             have f7 : w7.cell? ⟨Q + 3, 1, none⟩ = some rv' := hgrow7.cell q2 hne9
             have r7 : w7.frozen? ⟨Q + 3, 1, none⟩ = false := (hgrow7.frozen_far ⟨Q + 3, 1, none⟩ q4 hne9).trans q3
             have S7 := HSG.out _ _ fL hgrow7
             refine hK.out _ _ S7 (fun hHeld => ?_)
             clear hK K
             try simp only [Act.put, gA, gB, gC, gD, gE, gF]
             refine tk 16 ?_
             try simp only [Act.put, gA, gB, gC, gD, gE, gF]
             refine wpAnyH_ready (rs := [17]) (by kernel_rfl) (by simp) ?_
             refine AllReadyH.cons rfl (fun K hK => ?_) .nil
             try simp only [gA, gB, gC]
             go_simp
             refine hK.out _ _ (HSS.out _ _ S7) (fun hHeld => ?_)
             clear hK K
             try simp only [Act.put, gA, gB, gC, gD, gE, gF]
             refine wpAnyH_done (by kernel_rfl) ?_ _
             go_wp2_with fail
             go_meet
             case rel => exact Lib.hid ⟨_, _, _, HP3.out _ _ _ _ _ _ fL hFz (fun b hb => by rw [hb]; first | exact gP | omega) rfl hown7 hgrow7 hat⟩
           refine AllReadyH.cons rfl (fun K hK => ?_) .nil
           try simp only [gA, gB, gC]
           go_simp
           have fL : Below W11.heap.size W11 (wB.alloc (.cells #[.slice (some ⟨wA.heap.size, 0, none⟩) 2 2, .string (tB s), .bool false, .int .i64 0, .int .i64 0, .int .i64 0] 71)) := (fB).alloc (fB).size _
           refine hK.out _ _ (HS.out _ fL) (fun hHeld => ?_)
           clear hK K
           try simp only [Act.put, gA, gB, gC, gD, gE, gF]
           refine wpAnyH_ready (rs := [1]) (by kernel_rfl) (by simp) ?_
           refine AllReadyH.cons rfl (fun K hK => ?_) .nil
           try simp only [gA, gB, gC]
           have q1 := (HF.out _ (fL)).2.1
           go_simp
           refine hK.out _ _ (HS.out _ (fL)) (fun hHeld => ?_)
           clear hK K
           try simp only [Act.put, gA, gB, gC, gD, gE, gF]
           refine wpAnyH_ready (rs := [15]) (by kernel_rfl) (by simp) ?_
           refine AllReadyH.cons rfl (fun K hK => ?_) .nil
           have hFz : Firm (fun b => b = wA.heap.size) (wB.alloc (.cells #[.slice (some ⟨wA.heap.size, 0, none⟩) 2 2, .string (tB s), .bool false, .int .i64 0, .int .i64 0, .int .i64 0] 71)) (fun V => alR V [.slice (some ⟨wA.heap.size, 0, none⟩) 2 2, .string (tB s), .bool false, .int .i64 0, .int .i64 0, .int .i64 0] (lvL o s)) := by
            have h2 := (hPt.below hbB).below ((Below.refl wB.heap.size wB).alloc (Nat.le_refl _) (.cells #[.slice (some ⟨wA.heap.size, 0, none⟩) 2 2, .string (tB s), .bool false, .int .i64 0, .int .i64 0, .int .i64 0] 71))
            exact Firm.imp h2 (fun V hV => ⟨_, rfl, hV⟩)
           obtain ⟨q1, q2, q3, q4⟩ := HF.out _ fL
           refine step_append_lies _ (by rfl) _ _ _ (by rfl) (Q + 4) 71 j1 (.agg #[.slice none 0 0, .string ByteArray.empty, .bool false, .int .i64 0, .int .i64 0, .int .i64 0]) 6 72 Try.underlying72 hj jz0 jz1 jz2 rfl (by omega) rv' (i + 1) ys' (by rfl) q1 ⟨wB.heap.size, 0, none⟩ 1 1 [.slice (some ⟨wA.heap.size, 0, none⟩) 2 2, .string (tB s), .bool false, .int .i64 0, .int .i64 0, .int .i64 0] (by rfl) (by rfl) (rd_news wB [.slice (some ⟨wA.heap.size, 0, none⟩) 2 2, .string (tB s), .bool false, .int .i64 0, .int .i64 0, .int .i64 0] 71) (by simp [Value.oneCell']) (by omega) (by unfold maxLen; omega) (by omega) (by omega) (wB.alloc (.cells #[.slice (some ⟨wA.heap.size, 0, none⟩) 2 2, .string (tB s), .bool false, .int .i64 0, .int .i64 0, .int .i64 0] 71)).heap.size rfl ?_
           intro gg cap2 w7 hown7 hgrow7 hat hlt7
           have f7 : w7.cell? ⟨Q + 3, 1, none⟩ = some rv' := hgrow7.cell q2 hne9
           have r7 : w7.frozen? ⟨Q + 3, 1, none⟩ = false := (hgrow7.frozen_far ⟨Q + 3, 1, none⟩ q4 hne9).trans q3
           have S7 := HSG.out _ _ fL hgrow7
           refine hK.out _ _ S7 (fun hHeld => ?_)
           clear hK K
           try simp only [Act.put, gA, gB, gC, gD, gE, gF]
           refine tk 16 ?_
           try simp only [Act.put, gA, gB, gC, gD, gE, gF]
           refine wpAnyH_ready (rs := [17]) (by kernel_rfl) (by simp) ?_
           refine AllReadyH.cons rfl (fun K hK => ?_) .nil
           try simp only [gA, gB, gC]
           go_simp
           refine hK.out _ _ (HSS.out _ _ S7) (fun hHeld => ?_)
           clear hK K
           try simp only [Act.put, gA, gB, gC, gD, gE, gF]
           refine wpAnyH_done (by kernel_rfl) ?_ _
           go_wp2_with fail
           go_meet
           case rel => exact Lib.hid ⟨_, _, _, HP3.out _ _ _ _ _ _ fL hFz (fun b hb => by rw [hb]; first | exact gP | omega) rfl hown7 hgrow7 hat⟩
         refine AllReadyH.cons rfl (fun K hK => ?_) .nil
         try simp only [gA, gB, gC]
         go_simp
         go_at_call 28
         (with_reducible refine (HD2.out _).mono ?_)
         rintro e wB ⟨rfl, hbB⟩
         have fB : Below W11.heap.size W11 wB := (fA).trans (hbB.mono (fA).size)
         go_wp2_with fail
         refine hK.out _ _ (HS.out _ fB) (fun hHeld => ?_)
         clear hK K
         try simp only [Act.put, gA, gB, gC, gD, gE, gF]
         refine tk 11 ?_
         try simp only [Act.put, gA, gB, gC, gD, gE, gF]
         refine tk 12 ?_
         try simp only [Act.put, gA, gB, gC, gD, gE, gF]
         refine wpAnyH_ready (rs := [1, 8]) (by kernel_rfl) (by simp) ?_
         refine AllReadyH.cons rfl (fun K hK => ?_) ?_
         · try simp only [gA, gB, gC]
           have q1 := (HF.out _ (fB)).2.1
           go_simp
           refine hK.out _ _ (HS.out _ (fB)) (fun hHeld => ?_)
           clear hK K
           try simp only [Act.put, gA, gB, gC, gD, gE, gF]
           refine wpAnyH_ready (rs := [8]) (by kernel_rfl) (by simp) ?_
           refine AllReadyH.cons rfl (fun K hK => ?_) .nil
           try simp only [gA, gB, gC]
           go_simp
           have fP : Below W11.heap.size W11 (wB.alloc (.cells #[.string (tB o), .bool false, .int .i64 0, .int .i64 0, .string ⟨#[]⟩, .int .i64 0, .string eB, .bool false, .int .i64 0, .int .i64 0, .string ⟨#[]⟩, .int .i64 0] 78)) := (fB).alloc (fB).size (.cells #[.string (tB o), .bool false, .int .i64 0, .int .i64 0, .string ⟨#[]⟩, .int .i64 0, .string eB, .bool false, .int .i64 0, .int .i64 0, .string ⟨#[]⟩, .int .i64 0] 78)
           have hPt := pts_lit wB [ptS (nameG (tB o)), ptS (nameG eB)] #[.string (tB o), .bool false, .int .i64 0, .int .i64 0, .string ⟨#[]⟩, .int .i64 0, .string eB, .bool false, .int .i64 0, .int .i64 0, .string ⟨#[]⟩, .int .i64 0] rfl (by simp)
           have gP : W11.heap.size ≤ wB.heap.size := (fB).size
           refine hK.out _ _ (HS.out _ fP) (fun hHeld => ?_)
           clear hK K
           try simp only [Act.put, gA, gB, gC, gD, gE, gF]
           refine tk 13 ?_
           try simp only [Act.put, gA, gB, gC, gD, gE, gF]
           refine wpAnyH_ready (rs := [14]) (by kernel_rfl) (by simp) ?_
           refine AllReadyH.cons rfl (fun K hK => ?_) .nil
           try simp only [gA, gB, gC]
           go_simp
           have fL : Below W11.heap.size W11 ((wB.alloc (.cells #[.string (tB o), .bool false, .int .i64 0, .int .i64 0, .string ⟨#[]⟩, .int .i64 0, .string eB, .bool false, .int .i64 0, .int .i64 0, .string ⟨#[]⟩, .int .i64 0] 78)).alloc (.cells #[.slice (some ⟨wB.heap.size, 0, none⟩) 2 2, .string (tB s), .bool false, .int .i64 0, .int .i64 0, .int .i64 0] 71)) := (fP).alloc (fP).size _
           refine hK.out _ _ (HS.out _ fL) (fun hHeld => ?_)
           clear hK K
           try simp only [Act.put, gA, gB, gC, gD, gE, gF]
           refine wpAnyH_ready (rs := [15]) (by kernel_rfl) (by simp) ?_
           refine AllReadyH.cons rfl (fun K hK => ?_) .nil
           have hFz : Firm (fun b => b = wB.heap.size) ((wB.alloc (.cells #[.string (tB o), .bool false, .int .i64 0, .int .i64 0, .string ⟨#[]⟩, .int .i64 0, .string eB, .bool false, .int .i64 0, .int .i64 0, .string ⟨#[]⟩, .int .i64 0] 78)).alloc (.cells #[.slice (some ⟨wB.heap.size, 0, none⟩) 2 2, .string (tB s), .bool false, .int .i64 0, .int .i64 0, .int .i64 0] 71)) (fun V => alR V [.slice (some ⟨wB.heap.size, 0, none⟩) 2 2, .string (tB s), .bool false, .int .i64 0, .int .i64 0, .int .i64 0] (lvL o s)) := by
            have h2 := hPt.below ((Below.refl (wB.alloc (.cells #[.string (tB o), .bool false, .int .i64 0, .int .i64 0, .string ⟨#[]⟩, .int .i64 0, .string eB, .bool false, .int .i64 0, .int .i64 0, .string ⟨#[]⟩, .int .i64 0] 78)).heap.size (wB.alloc (.cells #[.string (tB o), .bool false, .int .i64 0, .int .i64 0, .string ⟨#[]⟩, .int .i64 0, .string eB, .bool false, .int .i64 0, .int .i64 0, .string ⟨#[]⟩, .int .i64 0] 78))).alloc (Nat.le_refl _) (.cells #[.slice (some ⟨wB.heap.size, 0, none⟩) 2 2, .string (tB s), .bool false, .int .i64 0, .int .i64 0, .int .i64 0] 71))
            exact Firm.imp h2 (fun V hV => ⟨_, rfl, hV⟩)
           obtain ⟨q1, q2, q3, q4⟩ := HF.out _ fL
           refine step_append_lies _ (by rfl) _ _ _ (by rfl) (Q + 4) 71 j1 (.agg #[.slice none 0 0, .string ByteArray.empty, .bool false, .int .i64 0, .int .i64 0, .int .i64 0]) 6 72 Try.underlying72 hj jz0 jz1 jz2 rfl (by omega) rv' (i + 1) ys' (by rfl) q1 ⟨wB.heap.size + 1, 0, none⟩ 1 1 [.slice (some ⟨wB.heap.size, 0, none⟩) 2 2, .string (tB s), .bool false, .int .i64 0, .int .i64 0, .int .i64 0] (by rfl) (by rfl) (fun j u hj => by simpa using rd_news (wB.alloc (.cells #[.string (tB o), .bool false, .int .i64 0, .int .i64 0, .string ⟨#[]⟩, .int .i64 0, .string eB, .bool false, .int .i64 0, .int .i64 0, .string ⟨#[]⟩, .int .i64 0] 78)) [.slice (some ⟨wB.heap.size, 0, none⟩) 2 2, .string (tB s), .bool false, .int .i64 0, .int .i64 0, .int .i64 0] 71 j u hj) (by simp [Value.oneCell']) (by omega) (by unfold maxLen; omega) (by omega) (by omega) ((wB.alloc (.cells #[.string (tB o), .bool false, .int .i64 0, .int .i64 0, .string ⟨#[]⟩, .int .i64 0, .string eB, .bool false, .int .i64 0, .int .i64 0, .string ⟨#[]⟩, .int .i64 0] 78)).alloc (.cells #[.slice (some ⟨wB.heap.size, 0, none⟩) 2 2, .string (tB s), .bool false, .int .i64 0, .int .i64 0, .int .i64 0] 71)).heap.size rfl ?_
           intro gg cap2 w7 hown7 hgrow7 hat hlt7
           have f7 : w7.cell? ⟨Q + 3, 1, none⟩ = some rv' := hgrow7.cell q2 hne9
           have r7 : w7.frozen? ⟨Q + 3, 1, none⟩ = false := (hgrow7.frozen_far ⟨Q + 3, 1, none⟩ q4 hne9).trans q3
           have S7 := HSG.out _ _ fL hgrow7
           refine hK.out _ _ S7 (fun hHeld => ?_)
           clear hK K
           try simp only [Act.put, gA, gB, gC, gD, gE, gF]
           refine tk 16 ?_
           try simp only [Act.put, gA, gB, gC, gD, gE, gF]
           refine wpAnyH_ready (rs := [17]) (by kernel_rfl) (by simp) ?_
           refine AllReadyH.cons rfl (fun K hK => ?_) .nil
           try simp only [gA, gB, gC]
           go_simp
           refine hK.out _ _ (HSS.out _ _ S7) (fun hHeld => ?_)
           clear hK K
           try simp only [Act.put, gA, gB, gC, gD, gE, gF]
           refine wpAnyH_done (by kernel_rfl) ?_ _
           go_wp2_with fail
           go_meet
           case rel => exact Lib.hid ⟨_, _, _, HP3.out _ _ _ _ _ _ fL hFz (fun b hb => by rw [hb]; first | exact gP | omega) rfl hown7 hgrow7 hat⟩
         refine AllReadyH.cons rfl (fun K hK => ?_) .nil
         try simp only [gA, gB, gC]
         go_simp
         have fP : Below W11.heap.size W11 (wB.alloc (.cells #[.string (tB o), .bool false, .int .i64 0, .int .i64 0, .string ⟨#[]⟩, .int .i64 0, .string eB, .bool false, .int .i64 0, .int .i64 0, .string ⟨#[]⟩, .int .i64 0] 78)) := (fB).alloc (fB).size (.cells #[.string (tB o), .bool false, .int .i64 0, .int .i64 0, .string ⟨#[]⟩, .int .i64 0, .string eB, .bool false, .int .i64 0, .int .i64 0, .string ⟨#[]⟩, .int .i64 0] 78)
         have hPt := pts_lit wB [ptS (nameG (tB o)), ptS (nameG eB)] #[.string (tB o), .bool false, .int .i64 0, .int .i64 0, .string ⟨#[]⟩, .int .i64 0, .string eB, .bool false, .int .i64 0, .int .i64 0, .string ⟨#[]⟩, .int .i64 0] rfl (by simp)
         have gP : W11.heap.size ≤ wB.heap.size := (fB).size
         refine hK.out _ _ (HS.out _ fP) (fun hHeld => ?_)
         clear hK K
         try simp only [Act.put, gA, gB, gC, gD, gE, gF]
         refine tk 13 ?_
         try simp only [Act.put, gA, gB, gC, gD, gE, gF]
         refine wpAnyH_ready (rs := [1, 14]) (by kernel_rfl) (by simp) ?_
         refine AllReadyH.cons rfl (fun K hK => ?_) ?_
         · try simp only [gA, gB, gC]
           have q1 := (HF.out _ (fP)).2.1
           go_simp
           refine hK.out _ _ (HS.out _ (fP)) (fun hHeld => ?_)
           clear hK K
           try simp only [Act.put, gA, gB, gC, gD, gE, gF]
           refine wpAnyH_ready (rs := [14]) (by kernel_rfl) (by simp) ?_
           refine AllReadyH.cons rfl (fun K hK => ?_) .nil
           try simp only [gA, gB, gC]
           go_simp
           have fL : Below W11.heap.size W11 ((wB.alloc (.cells #[.string (tB o), .bool false, .int .i64 0, .int .i64 0, .string ⟨#[]⟩, .int .i64 0, .string eB, .bool false, .int .i64 0, .int .i64 0, .string ⟨#[]⟩, .int .i64 0] 78)).alloc (.cells #[.slice (some ⟨wB.heap.size, 0, none⟩) 2 2, .string (tB s), .bool false, .int .i64 0, .int .i64 0, .int .i64 0] 71)) := (fP).alloc (fP).size _
           refine hK.out _ _ (HS.out _ fL) (fun hHeld => ?_)
           clear hK K
           try simp only [Act.put, gA, gB, gC, gD, gE, gF]
           refine wpAnyH_ready (rs := [15]) (by kernel_rfl) (by simp) ?_
           refine AllReadyH.cons rfl (fun K hK => ?_) .nil
           have hFz : Firm (fun b => b = wB.heap.size) ((wB.alloc (.cells #[.string (tB o), .bool false, .int .i64 0, .int .i64 0, .string ⟨#[]⟩, .int .i64 0, .string eB, .bool false, .int .i64 0, .int .i64 0, .string ⟨#[]⟩, .int .i64 0] 78)).alloc (.cells #[.slice (some ⟨wB.heap.size, 0, none⟩) 2 2, .string (tB s), .bool false, .int .i64 0, .int .i64 0, .int .i64 0] 71)) (fun V => alR V [.slice (some ⟨wB.heap.size, 0, none⟩) 2 2, .string (tB s), .bool false, .int .i64 0, .int .i64 0, .int .i64 0] (lvL o s)) := by
            have h2 := hPt.below ((Below.refl (wB.alloc (.cells #[.string (tB o), .bool false, .int .i64 0, .int .i64 0, .string ⟨#[]⟩, .int .i64 0, .string eB, .bool false, .int .i64 0, .int .i64 0, .string ⟨#[]⟩, .int .i64 0] 78)).heap.size (wB.alloc (.cells #[.string (tB o), .bool false, .int .i64 0, .int .i64 0, .string ⟨#[]⟩, .int .i64 0, .string eB, .bool false, .int .i64 0, .int .i64 0, .string ⟨#[]⟩, .int .i64 0] 78))).alloc (Nat.le_refl _) (.cells #[.slice (some ⟨wB.heap.size, 0, none⟩) 2 2, .string (tB s), .bool false, .int .i64 0, .int .i64 0, .int .i64 0] 71))
            exact Firm.imp h2 (fun V hV => ⟨_, rfl, hV⟩)
           obtain ⟨q1, q2, q3, q4⟩ := HF.out _ fL
           refine step_append_lies _ (by rfl) _ _ _ (by rfl) (Q + 4) 71 j1 (.agg #[.slice none 0 0, .string ByteArray.empty, .bool false, .int .i64 0, .int .i64 0, .int .i64 0]) 6 72 Try.underlying72 hj jz0 jz1 jz2 rfl (by omega) rv' (i + 1) ys' (by rfl) q1 ⟨wB.heap.size + 1, 0, none⟩ 1 1 [.slice (some ⟨wB.heap.size, 0, none⟩) 2 2, .string (tB s), .bool false, .int .i64 0, .int .i64 0, .int .i64 0] (by rfl) (by rfl) (fun j u hj => by simpa using rd_news (wB.alloc (.cells #[.string (tB o), .bool false, .int .i64 0, .int .i64 0, .string ⟨#[]⟩, .int .i64 0, .string eB, .bool false, .int .i64 0, .int .i64 0, .string ⟨#[]⟩, .int .i64 0] 78)) [.slice (some ⟨wB.heap.size, 0, none⟩) 2 2, .string (tB s), .bool false, .int .i64 0, .int .i64 0, .int .i64 0] 71 j u hj) (by simp [Value.oneCell']) (by omega) (by unfold maxLen; omega) (by omega) (by omega) ((wB.alloc (.cells #[.string (tB o), .bool false, .int .i64 0, .int .i64 0, .string ⟨#[]⟩, .int .i64 0, .string eB, .bool false, .int .i64 0, .int .i64 0, .string ⟨#[]⟩, .int .i64 0] 78)).alloc (.cells #[.slice (some ⟨wB.heap.size, 0, none⟩) 2 2, .string (tB s), .bool false, .int .i64 0, .int .i64 0, .int .i64 0] 71)).heap.size rfl ?_
           intro gg cap2 w7 hown7 hgrow7 hat hlt7
           have f7 : w7.cell? ⟨Q + 3, 1, none⟩ = some rv' := hgrow7.cell q2 hne9
           have r7 : w7.frozen? ⟨Q + 3, 1, none⟩ = false := (hgrow7.frozen_far ⟨Q + 3, 1, none⟩ q4 hne9).trans q3
           have S7 := HSG.out _ _ fL hgrow7
           refine hK.out _ _ S7 (fun hHeld => ?_)
           clear hK K
           try simp only [Act.put, gA, gB, gC, gD, gE, gF]
           refine tk 16 ?_
           try simp only [Act.put, gA, gB, gC, gD, gE, gF]
           refine wpAnyH_ready (rs := [17]) (by kernel_rfl) (by simp) ?_
           refine AllReadyH.cons rfl (fun K hK => ?_) .nil
           try simp only [gA, gB, gC]
           go_simp
           refine hK.out _ _ (HSS.out _ _ S7) (fun hHeld => ?_)
           clear hK K
           try simp only [Act.put, gA, gB, gC, gD, gE, gF]
           refine wpAnyH_done (by kernel_rfl) ?_ _
           go_wp2_with fail
           go_meet
           case rel => exact Lib.hid ⟨_, _, _, HP3.out _ _ _ _ _ _ fL hFz (fun b hb => by rw [hb]; first | exact gP | omega) rfl hown7 hgrow7 hat⟩
         refine AllReadyH.cons rfl (fun K hK => ?_) .nil
         try simp only [gA, gB, gC]
         go_simp
         have fL : Below W11.heap.size W11 ((wB.alloc (.cells #[.string (tB o), .bool false, .int .i64 0, .int .i64 0, .string ⟨#[]⟩, .int .i64 0, .string eB, .bool false, .int .i64 0, .int .i64 0, .string ⟨#[]⟩, .int .i64 0] 78)).alloc (.cells #[.slice (some ⟨wB.heap.size, 0, none⟩) 2 2, .string (tB s), .bool false, .int .i64 0, .int .i64 0, .int .i64 0] 71)) := (fP).alloc (fP).size _
         refine hK.out _ _ (HS.out _ fL) (fun hHeld => ?_)
         clear hK K
         try simp only [Act.put, gA, gB, gC, gD, gE, gF]
         refine wpAnyH_ready (rs := [1]) (by kernel_rfl) (by simp) ?_
         refine AllReadyH.cons rfl (fun K hK => ?_) .nil
         try simp only [gA, gB, gC]
         have q1 := (HF.out _ (fL)).2.1
         go_simp
         refine hK.out _ _ (HS.out _ (fL)) (fun hHeld => ?_)
         clear hK K
         try simp only [Act.put, gA, gB, gC, gD, gE, gF]
         refine wpAnyH_ready (rs := [15]) (by kernel_rfl) (by simp) ?_
         refine AllReadyH.cons rfl (fun K hK => ?_) .nil
         have hFz : Firm (fun b => b = wB.heap.size) ((wB.alloc (.cells #[.string (tB o), .bool false, .int .i64 0, .int .i64 0, .string ⟨#[]⟩, .int .i64 0, .string eB, .bool false, .int .i64 0, .int .i64 0, .string ⟨#[]⟩, .int .i64 0] 78)).alloc (.cells #[.slice (some ⟨wB.heap.size, 0, none⟩) 2 2, .string (tB s), .bool false, .int .i64 0, .int .i64 0, .int .i64 0] 71)) (fun V => alR V [.slice (some ⟨wB.heap.size, 0, none⟩) 2 2, .string (tB s), .bool false, .int .i64 0, .int .i64 0, .int .i64 0] (lvL o s)) := by
          have h2 := hPt.below ((Below.refl (wB.alloc (.cells #[.string (tB o), .bool false, .int .i64 0, .int .i64 0, .string ⟨#[]⟩, .int .i64 0, .string eB, .bool false, .int .i64 0, .int .i64 0, .string ⟨#[]⟩, .int .i64 0] 78)).heap.size (wB.alloc (.cells #[.string (tB o), .bool false, .int .i64 0, .int .i64 0, .string ⟨#[]⟩, .int .i64 0, .string eB, .bool false, .int .i64 0, .int .i64 0, .string ⟨#[]⟩, .int .i64 0] 78))).alloc (Nat.le_refl _) (.cells #[.slice (some ⟨wB.heap.size, 0, none⟩) 2 2, .string (tB s), .bool false, .int .i64 0, .int .i64 0, .int .i64 0] 71))
          exact Firm.imp h2 (fun V hV => ⟨_, rfl, hV⟩)
         obtain ⟨q1, q2, q3, q4⟩ := HF.out _ fL
         refine step_append_lies _ (by rfl) _ _ _ (by rfl) (Q + 4) 71 j1 (.agg #[.slice none 0 0, .string ByteArray.empty, .bool false, .int .i64 0, .int .i64 0, .int .i64 0]) 6 72 Try.underlying72 hj jz0 jz1 jz2 rfl (by omega) rv' (i + 1) ys' (by rfl) q1 ⟨wB.heap.size + 1, 0, none⟩ 1 1 [.slice (some ⟨wB.heap.size, 0, none⟩) 2 2, .string (tB s), .bool false, .int .i64 0, .int .i64 0, .int .i64 0] (by rfl) (by rfl) (fun j u hj => by simpa using rd_news (wB.alloc (.cells #[.string (tB o), .bool false, .int .i64 0, .int .i64 0, .string ⟨#[]⟩, .int .i64 0, .string eB, .bool false, .int .i64 0, .int .i64 0, .string ⟨#[]⟩, .int .i64 0] 78)) [.slice (some ⟨wB.heap.size, 0, none⟩) 2 2, .string (tB s), .bool false, .int .i64 0, .int .i64 0, .int .i64 0] 71 j u hj) (by simp [Value.oneCell']) (by omega) (by unfold maxLen; omega) (by omega) (by omega) ((wB.alloc (.cells #[.string (tB o), .bool false, .int .i64 0, .int .i64 0, .string ⟨#[]⟩, .int .i64 0, .string eB, .bool false, .int .i64 0, .int .i64 0, .string ⟨#[]⟩, .int .i64 0] 78)).alloc (.cells #[.slice (some ⟨wB.heap.size, 0, none⟩) 2 2, .string (tB s), .bool false, .int .i64 0, .int .i64 0, .int .i64 0] 71)).heap.size rfl ?_
         intro gg cap2 w7 hown7 hgrow7 hat hlt7
         have f7 : w7.cell? ⟨Q + 3, 1, none⟩ = some rv' := hgrow7.cell q2 hne9
         have r7 : w7.frozen? ⟨Q + 3, 1, none⟩ = false := (hgrow7.frozen_far ⟨Q + 3, 1, none⟩ q4 hne9).trans q3
         have S7 := HSG.out _ _ fL hgrow7
         refine hK.out _ _ S7 (fun hHeld => ?_)
         clear hK K
         try simp only [Act.put, gA, gB, gC, gD, gE, gF]
         refine tk 16 ?_
         try simp only [Act.put, gA, gB, gC, gD, gE, gF]
         refine wpAnyH_ready (rs := [17]) (by kernel_rfl) (by simp) ?_
         refine AllReadyH.cons rfl (fun K hK => ?_) .nil
         try simp only [gA, gB, gC]
         go_simp
         refine hK.out _ _ (HSS.out _ _ S7) (fun hHeld => ?_)
         clear hK K
         try simp only [Act.put, gA, gB, gC, gD, gE, gF]
         refine wpAnyH_done (by kernel_rfl) ?_ _
         go_wp2_with fail
         go_meet
         case rel => exact Lib.hid ⟨_, _, _, HP3.out _ _ _ _ _ _ fL hFz (fun b hb => by rw [hb]; first | exact gP | omega) rfl hown7 hgrow7 hat⟩
      · have hp2 : ¬ (0 : Int) < (i : Int) := by omega
        go_wp2_with fail
        go_meet
        case rel => exact Lib.hid ⟨_, _, _, by rw [if_neg hp, List.append_nil]; exact hM9⟩
     case rest =>
      obtain ⟨rv2, ys2, T2, hM⟩ := hcut.out
      clear hcut hM9 e0 e1 e2 e3 e4 e5 c1
      rename World => W12
      have hsz := hM.sz
      have hD := hM.g1.firm (by omega)
      have hR := hM.g2.firm (by omega)
      have hOwn1 : ∀ b, (S1 b ∨ sv.ownBlock = some b) → Q + 4 ≤ b ∧ b < W12.heap.size := fun b hb => ⟨hb.elim (hM.a1 b) (fun e => (hM.g1.own.lt b e).1), hM.g1.lt b hb⟩
      have hOwn2 : ∀ b, (T2 b ∨ rv2.ownBlock = some b) → Q + 4 ≤ b ∧ b < W12.heap.size := fun b hb => ⟨hb.elim (hM.a2 b) (fun e => (hM.g2.own.lt b e).1), hM.g2.lt b hb⟩
      obtain ⟨sa, sc, hse, _⟩ := hD.self
      obtain ⟨ra, rc, hre, _⟩ := hR.self
      have hlow := hM.low
      have hrb := hM.rb
      have hsb := hM.sb
      have hbr := hM.br
      clear hM
      have hSo : levS kinds o s = ⟨⟨#[]⟩, (List.range i).map (lvD kinds), [⟨eB, (List.range i).map lvA ++ [lvX] ++ (if 0 < i then [lvL o s] else []), 0⟩], ⟨#[]⟩⟩ := by unfold levS; rw [hn]
      generalize (List.range i).map (lvD kinds) = DS at *
      generalize (List.range i).map lvA ++ [lvX] ++ (if 0 < i then [lvL o s] else []) = AS at *
      subst hse
      subst hre
      generalize DS.length = dl at *
      generalize AS.length = al at *
      have b0 := cell_of_row _ _ 0 _ _ _ hbr
      have b1 := cell_of_row _ _ 1 _ _ _ hbr
      have b2 := cell_of_row _ _ 2 _ _ _ hbr
      have s2 := cell_of_row _ _ 2 _ _ _ hsb
      simp only [List.getElem?_toArray, List.getElem?_cons_succ, List.getElem?_cons_zero] at b0 b1 b2 s2
      have z2 : (W12.alloc (.cells #[.string eB, .slice ra al rc, .int .i64 0] 74)).frozen? ⟨Q + 1, 2, none⟩ = false := free_of_block (heap_put _ _ hsb)
      have s2A := cell_alloc s2 (.cells #[.string eB, .slice ra al rc, .int .i64 0] 74)
      go_upto_region 15 with fail
      have hk1 := (Below.refl W12.heap.size W12).alloc (Nat.le_refl _) (.cells #[.string eB, .slice ra al rc, .int .i64 0] 74)
      have hrow : (W12.alloc (.cells #[.string eB, .slice ra al rc, .int .i64 0] 74)).heap[W12.heap.size]? = some (.cells #[.string eB, .slice ra al rc, .int .i64 0] 74 (0, 0)) := heap_new _ _ _ _ rfl
      have hsbA := heap_put W12 (.cells #[.string eB, .slice ra al rc, .int .i64 0] 74) hsb
      have hrbA := heap_put W12 (.cells #[.string eB, .slice ra al rc, .int .i64 0] 74) hrb
      have hD2 := hD.below hk1
      have hR2 := hR.below hk1
      have hz1 : (W12.alloc (.cells #[.string eB, .slice ra al rc, .int .i64 0] 74)).heap.size = W12.heap.size + 1 := by simp
      have hlA := hlow.trans (hk1.mono hlow.size)
      generalize W12.alloc (.cells #[.string eB, .slice ra al rc, .int .i64 0] 74) = WA at *
      have hset := Lib.hid (fun (b : Nat) (h : b ≠ Q + 1) => Below.heap_setCell WA ⟨Q + 1, 2, none⟩ (.slice (some ⟨W12.heap.size, 0, none⟩) 1 1) b h)
      have hD3 := hD2.keep (w' := WA.setCell ⟨Q + 1, 2, none⟩ (.slice (some ⟨W12.heap.size, 0, none⟩) 1 1)) (fun b hb => hset.out b (by have := hOwn1 b hb; omega))
      have hR3 := hR2.keep (w' := WA.setCell ⟨Q + 1, 2, none⟩ (.slice (some ⟨W12.heap.size, 0, none⟩) 1 1)) (fun b hb => hset.out b (by have := hOwn2 b hb; omega))
      have hrow3 := (hset.out W12.heap.size (by omega)).trans hrow
      have hrb3 := (hset.out Q (by omega)).trans hrbA
      have hsb3 := block_setCell (j := 2) (u := .slice (some ⟨W12.heap.size, 0, none⟩) 1 1) hsbA
      have hl3 : Below w.heap.size w (WA.setCell ⟨Q + 1, 2, none⟩ (.slice (some ⟨W12.heap.size, 0, none⟩) 1 1)) := hlA.setCell (p := ⟨Q + 1, 2, none⟩) (show w.heap.size ≤ Q + 1 by omega) _
      have hz3 : (WA.setCell ⟨Q + 1, 2, none⟩ (.slice (some ⟨W12.heap.size, 0, none⟩) 1 1)).heap.size = W12.heap.size + 1 := by simp [hz1]
      clear hset hD hD2 hR hR2 hrow hsb hsbA hrb hrbA hbr b0 b1 b2 s2 s2A z2 hlow hlA hk1
      generalize WA.setCell ⟨Q + 1, 2, none⟩ (.slice (some ⟨W12.heap.size, 0, none⟩) 1 1) = W13 at *
      generalize hX12 : W12.heap.size = X12 at *
      have c0 := cell_of_row _ _ 0 _ _ _ hsb3
      have c1 := cell_of_row _ _ 1 _ _ _ hsb3
      have c2 := cell_of_row _ _ 2 _ _ _ hsb3
      have c3 := cell_of_row _ _ 3 _ _ _ hsb3
      simp only [gD, gE, gF, List.getElem?_toArray, List.getElem?_cons_succ, List.getElem?_cons_zero] at c0 c1 c2 c3
      have hSV : SoV W13 (.agg #[.string (levS kinds o s).pro, .slice sa dl sc, .slice (some ⟨X12, 0, none⟩) 1 1, .string (levS kinds o s).tail]) (levS kinds o s) := by
       rw [hSo]
       exact ⟨_, _, rfl, hD3.self, lv_one hrow3 ⟨_, rfl, hR3.self⟩⟩
      obtain ⟨hSm, hSb⟩ := levS_small kinds ho hs
      have HGr := Lib.hid (grammar_any hSV hSm hSb)
      have hpr0 : (levS kinds o s).pro = ⟨#[]⟩ := rfl
      have htl0 : (levS kinds o s).tail = ⟨#[]⟩ := rfl
      rw [hpr0, htl0] at HGr
      unfold GrGo at HGr
      clear hSV hSm hSb hD3 hR3 hrow3 hSo hpr0 htl0
      rw [hgg, hoo] at HGr
      clear hgg hoo
      generalize hpr : g.pro = pr at *
      generalize htl : g.tail = tl at *
      go_upto_region 16 with (first | (go_at_call 13; (with_reducible refine HGr.out.mono ?_); rintro e w3 ⟨t, nn, p, m1, d1, m2, d2, m3, d3, S, rfl, hFg, hSg, hb3⟩))
      have hb4 := hl3.trans (hb3.mono hl3.size)
      have hkk : Below w3.heap.size w3 (w3.alloc (.cells #[.slice t m1 d1, .slice nn m2 d2, .slice p m3 d3, .string pr, .string tl] 38)) := (Below.refl _ _).alloc (Nat.le_refl _) _
      have hb5 := hb4.trans (hkk.mono hb4.size)
      have hrG3 := (hb3.block Q (by rw [hz3]; omega)).trans hrb3
      have hrG4 := ofKeep w3 (.cells #[.slice t m1 d1, .slice nn m2 d2, .slice p m3 d3, .string pr, .string tl] 38) hrG3
      have hrN := ofMade w3 #[.slice t m1 d1, .slice nn m2 d2, .slice p m3 d3, .string pr, .string tl] 38 w3.heap.size rfl
      have k0 := cell_of_row _ _ 0 _ _ _ hrN
      have k1 := cell_of_row _ _ 1 _ _ _ hrN
      have k2 := cell_of_row _ _ 2 _ _ _ hrN
      have k3 := cell_of_row _ _ 3 _ _ _ hrN
      have k4 := cell_of_row _ _ 4 _ _ _ hrN
      simp only [List.getElem?_toArray, List.getElem?_cons_succ, List.getElem?_cons_zero] at k0 k1 k2 k3 k4
      have hF4 := hFg.below hkk
      clear hFg hrG3 hrN HGr c0 c1 c2 c3 hsb3 hrb3
      generalize w3.alloc (.cells #[.slice t m1 d1, .slice nn m2 d2, .slice p m3 d3, .string pr, .string tl] 38) = w4 at *
      have t0 := cell_of_row _ _ 0 _ _ _ hrG4
      have t1 := cell_of_row _ _ 1 _ _ _ hrG4
      have t2 := cell_of_row _ _ 2 _ _ _ hrG4
      have t3 := cell_of_row _ _ 3 _ _ _ hrG4
      have t4 := cell_of_row _ _ 4 _ _ _ hrG4
      simp only [List.getElem?_toArray, List.getElem?_cons_succ, List.getElem?_cons_zero] at t0 t1 t2 t3 t4
      have z0 : w4.frozen? ⟨Q, 0, none⟩ = false := free_of_block hrG4
      have z1 : w4.frozen? ⟨Q, 1, none⟩ = false := free_of_block hrG4
      have z2 : w4.frozen? ⟨Q, 2, none⟩ = false := free_of_block hrG4
      have z3 : w4.frozen? ⟨Q, 3, none⟩ = false := free_of_block hrG4
      have z4 : w4.frozen? ⟨Q, 4, none⟩ = false := free_of_block hrG4
      have hwQ : w.heap.size ≤ Q := by omega
      go_wp2_with fail
      subst hpr
      subst htl
      have hfar : ∀ b, S b → (((((w4.setCell ⟨Q, 0, none⟩ (.slice t m1 d1)).setCell ⟨Q, 1, none⟩ (.slice nn m2 d2)).setCell ⟨Q, 2, none⟩ (.slice p m3 d3)).setCell ⟨Q, 3, none⟩ (.string g.pro)).setCell ⟨Q, 4, none⟩ (.string g.tail)).heap[b]? = w4.heap[b]? := fun b hb =>
       have hne : b ≠ Q := by have := hSg b hb; rw [hz3] at this; omega
       set5_far hne _ _ _ _ _
      exact bodyPost_ret (v := .tuple #[.agg #[.slice t m1 d1, .slice nn m2 d2, .slice p m3 d3, .string g.pro, .string g.tail], .int .i64 (i : Int), .bool ok]) (results_cell_two rfl _ _ Q 38 #[.slice t m1 d1, .slice nn m2 d2, .slice p m3 d3, .string g.pro, .string g.tail] (0, 0) rfl rfl rfl
       (block_set5 hrG4 _ _ _ _ _) Try.underlying38 ofGmInfo) rfl
       ⟨t, nn, p, m1, d1, m2, d2, m3, d3, S, rfl, hF4.keep hfar, fun b hb => by have := hSg b hb; rw [hz3] at this; omega, set5_below hb5 hwQ _ _ _ _ _⟩
end Go.Proofs.Ytkgbifbbpmdpgaa
