/- The names' object: Put. -/
import Derived.Test.YtijnekbhpdcemaaNames2
import Derived.RangeFuncBox
namespace Go.Proofs.Ytijnekbhpdcemaa
open Go.RowKit Go.Maps
set_option linter.unusedVariables false

theorem row_ne_map {w : World} {base : Nat} {e : TypeId} {v : Value} {n : Nat} {xs : List Value} {P : Program} {k : TypeId} {R : Value → Option (DataW Unit × List MemPlace)} {mb m : Nat} {D : DataW Unit}
    (h : w.ownsRow base e 1 v n xs) (hm : w.ownsMap P k R mb m D) : v.ownBlock ≠ some mb := by
  obtain ⟨es, cl, hb, _⟩ := hm
  obtain ⟨_, h2⟩ := h
  rcases h2 with ⟨rfl, _⟩ | ⟨g, cap, cur, rfl, _, hh, _⟩
  · intro h; cases h
  · intro h
    cases h
    rw [hb] at hh
    cases hh
theorem row_ne_cells {w : World} {base : Nat} {v : Value} {n : Nat} {xs : List Value} {b : Nat} {cs : Array Value}
    (h : w.ownsRow base 9 1 v n xs) (hm : w.heap[b]? = some (.cells cs 40 (0, 0))) : some b ≠ v.ownBlock := by
  obtain ⟨_, h2⟩ := h
  rcases h2 with ⟨rfl, _⟩ | ⟨g, cap, cur, rfl, _, hh, _⟩
  · intro h; cases h
  · intro h
    cases h
    rw [hm] at hh
    cases hh
theorem map_ne_cells {w : World} {P : Program} {k : TypeId} {R : Value → Option (DataW Unit × List MemPlace)} {mb m : Nat} {D : DataW Unit} {b : Nat} {cs : Array Value} {T : TypeId}
    (hm : w.ownsMap P k R mb m D) (h : w.heap[b]? = some (.cells cs T (0, 0))) : b ≠ mb := by
  rintro rfl
  obtain ⟨es, cl, hb, _⟩ := hm
  rw [h] at hb
  cases hb

theorem Try.infoStr : (Try.prog.info? 9).map (fun i => (i.zero, i.size, i.bytes)) = some (some (.string ByteArray.empty), 1, 16) := by kernel_rfl

theorem putS_in {L : List ByteArray} {s : ByteArray} (h : place L s < L.length) : putS L s = L := if_pos h
theorem putS_new {L : List ByteArray} {s : ByteArray} (h : ¬ place L s < L.length) : putS L s = L ++ [s] := if_neg h
theorem place_new {L : List ByteArray} {s : ByteArray} (h : ¬ place L s < L.length) : place L s = L.length := by
  have : place L s ≤ L.length := List.findIdx_le_length
  omega

theorem wf_len {n : Nat} (h : n ≤ 1000000) : (Lit.int .i64 (n : Nat)).wf = true := by
  have h1 : IntKind.min .i64 ≤ (n : Int) := Int.le_trans (by decide : IntKind.min .i64 ≤ 0) (by omega)
  have h2 : (n : Int) ≤ IntKind.max .i64 := Int.le_trans (by omega : (n : Int) ≤ 1000000) (by decide)
  simp only [Lit.wf, decide_eq_true h1, decide_eq_true h2, Bool.and_self]

theorem keeps_setCell (W : World) (b o : Nat) (v : Value) : W.grownBy (W.setCell ⟨b, o, none⟩ v) (some b) :=
  ⟨rfl, rfl, rfl, (KeepsWalks.setCell W _ v).size, fun k _ hk => Below.heap_setCell _ _ _ k (fun e => hk (by rw [e]))⟩

def PutN (base b : Nat) (L : List ByteArray) (s : ByteArray) (w : World) (e : Ending) (w' : World) : Prop := e = .returned (.int .i64 (place L s : Nat)) ∧ NamesV w' base b (putS L s) ∧ BelowX base b w w'

set_option maxRecDepth 100000 in
theorem names_put (b : Nat) (L : List ByteArray) (s : ByteArray) (base : Nat) (w : World) (hs : s.size ≤ maxLen) (hL : L.length + 1 ≤ 1000000) (hBW : base ≤ w.heap.size) (h : NamesV w base b L) :
    Calls Try.prog 9 #[.pointer (some ⟨b, 0, none⟩), .string s] w (PutN base b L s w) := by
  have h' := Lib.hid h
  obtain ⟨hbb, hn, sv, mv, hb, hr, hm⟩ := h
  obtain ⟨c0, c1⟩ := cells_two hb
  have hblt := lt_of_block hb
  obtain ⟨i0, hi, hz0, hz1, hz2⟩ := info_parts Try.infoStr
  have qT : ∀ (w : World) (r : Option Nat), (binOp .eql 38 (.map r) (.map none)).run Try.prog w = .ok (.bool r.isNone) w := fun w r => run_eql_map_nil w _ _ _ r Try.underlying38
  rcases hm with ⟨rfl, rfl⟩ | ⟨mb, D, rfl, hmb, hown, hND⟩
  · have hl := fun (W : World) => Maps.look_nil (w := W) (z := .int .i64 0) true keyed_str Try.underlying38 (zero_int W) (key_str hs)
    simp only [if_true] at hl
    have hmk := fun (W : World) => run_makeMap (P := Try.prog) 38 W
    obtain ⟨a0, cp0, rfl⟩ := row_slice hr
    have c1' : ∀ o : Obj, (w.alloc o).cell? ⟨b, 1, none⟩ = some (.map none) := fun o => by rw [World.cell?_alloc_lt _ _ _ hblt]; exact c1
    have f1' : ∀ o : Obj, (w.alloc o).frozen? ⟨b, 1, none⟩ = false := fun o => free_of_block ((heap_alloc_old w o hblt).trans hb)
    have hne : b ≠ w.heap.size := by omega
    have hsz : (w.setCell ⟨b, 1, none⟩ (.map (some w.heap.size))).heap.size = w.heap.size := by simp
    have hbX := Lib.hid ((heap_alloc_old (w.setCell ⟨b, 1, none⟩ (.map (some w.heap.size))) (.map #[] 0) (by rw [hsz]; exact hblt)).trans (block_setCell (j := 1) (u := (.map (some w.heap.size))) hb))
    have hrX := Lib.hid ((hr.kept (keeps_setCell w b 1 (.map (some w.heap.size))) (.inr (fun h => row_ne_cells hr hb h.symm))).alloc (.map #[] 0))
    have hoX := World.ownsMap_made (w.setCell ⟨b, 1, none⟩ (.map (some w.heap.size))) Try.prog 9 (plainElem (H := Unit) Try.prog 3)
    rw [hsz] at hoX
    have hlX := Lib.hid (((BelowX.of (Below.refl base w)).setCell (.map (some w.heap.size)) : BelowX base b w (w.setCell ⟨b, 1, none⟩ (.map (some w.heap.size)))).trans (BelowX.of ((Below.refl _ _).alloc (by rw [hsz]; exact hBW) (.map #[] 0))))
    have hoX := Lib.hid hoX
    have hpl : Hid (place [] s = 0) := Lib.hid rfl
    have hp : ¬ place [] s < ([] : List ByteArray).length := by simp
    have hpS := Lib.hid (putS_new hp)
    have hD2 := Lib.hid (namesD_put namesD_nil hp)
    clear hp hr hsz
    go_enter Try.func9, Try.ntmps9
    go_upto_region 6 with fail
    generalize (w.setCell ⟨b, 1, none⟩ (.map (some w.heap.size))).alloc (.map #[] 0) = wX at hbX hrX hoX hlX ⊢
    have hBX : base ≤ wX.heap.size := Nat.le_trans hBW hlX.out.size
    clear c0 c1 c1' f1' hb hblt hl hmk h'
    generalize w.heap.size = mb at hbX hoX hne hBW ⊢
    have hmb := hBW
    clear hBW
    have hBW := hBX
    have hb : wX.heap[b]? = some (.cells #[.slice a0 0 cp0, .map (some mb)] 40 (0, 0)) := hbX.out
    have hr := hrX.out
    have hown := hoX.out
    obtain ⟨c0, c1⟩ := cells_two hb
    have hblt := lt_of_block hb
    have hbm' : some b ≠ some mb := fun h => hne (Option.some.inj h)
    have hrm := row_ne_map hr hown
    have hwf : (Lit.int .i64 0).wf = true := by decide
    clear hbX hrX hoX
    go_wp2_with (first
        | (refine wpList_mapUpdate_in _ rfl _ _ _ 38 rfl 9 3 keyed_str Try.underlying38 (plainElem Try.prog 3) mb 0 (.map []) rfl hown (by unfold maxLen; omega) _ _ _ rfl rfl (key_str hs) _ _ (plainElem_int Try.underlying3 hwf) ?_; intro w1 hown1 hturn1; have e0 := hturn1.grown.cell c0 hbm'; have hr1 := hr.kept hturn1.grown (.inr hrm); have hb1 := (hturn1.grown.block b hblt hbm').trans hb; have hbl1 : Below base wX w1 := (Below.refl _ _).grown hturn1.grown hBW (fun k hk => by cases hk; exact hmb))
        | (at_builtin; refine wpList_append_own_at _ rfl _ _ 22 rfl base 9 i0 (.string ByteArray.empty) 1 16 Try.underlying22 hi hz0 hz1 hz2 rfl (by decide) _ _ _ rfl (hr1.alloc _) ⟨w1.heap.size, 0, none⟩ 1 1 [.string s] rfl rfl (cell_one_new _ _ _) ?c2 ?c3 ?c4 ?c5 ?_; (case c2 => exact strs_one [s]); (case c3 => unfold maxLen; omega); (case c4 => omega); (case c5 => simp; exact Nat.le_succ_of_le (Nat.le_trans hBW hbl1.size)); intro v2 w2 hown2 hgrow2 _ hloc; obtain ⟨a2, cp2, rfl⟩ := row_slice hown2; have hb2 := (hgrow2.block b (Nat.lt_of_lt_of_le (lt_of_block hb1) (by simp)) (row_ne_cells hr1 hb1)).trans ((heap_alloc_old _ _ (lt_of_block hb1)).trans hb1); have e2 := (cells_two hb2).1; have ef := free_of_block (j := 0) hb2))
    go_ret
    refine ⟨ret_int (by rw [hpl.out]; rfl), ?_, ?_⟩
    · rw [hpS.out]
      refine ⟨hbb, by simp, (.slice a2 1 cp2), .map (some mb), block_setCell hb2, ?_, .inr ⟨mb, _, rfl, hmb, ?_, hD2.out⟩⟩
      · have := hown2.kept (grownBy_setCell' w2 b (.slice a2 1 cp2)) (.inr (fun h => row_ne_cells hown2 hb2 h.symm))
        simpa using this
      · have h9 := ((hown1.alloc _).kept hgrow2 (fun h => row_ne_map hr1 hown1 h.symm)).setCell (a := ⟨b, 0, none⟩) (fun h => hne h.symm) (.slice a2 1 cp2)
        simpa using h9
    · exact (hlX.out.trans (BelowX.of ((hbl1.alloc (Nat.le_trans hBW hbl1.size) _).grown hgrow2 (by simp; exact Nat.le_succ_of_le (Nat.le_trans hBW hbl1.size)) (own_base hr1 (Nat.le_refl _))))).setCell _
  · by_cases hp : place L s < L.length
    · have H1 : Hid (has D (.string s.data.toList) = true) := Lib.hid (by rw [(hND.2 s).1]; exact decide_eq_true hp)
      have hat := Lib.hid ((hND.2 s).2 hp)
      have hpS := Lib.hid (putS_in hp)
      clear hp hr hb hND
      go_enter Try.func9, Try.ntmps9
      go_wp2_with (first | (at_lookup; refine wpList_lookup_own_ok_int _ rfl _ _ 38 rfl 9 3 .i64 keyed_str Try.underlying38 Try.underlying3 (zero_int _) mb L.length D rfl hown _ _ rfl (key_str hs) ?_; intro c hc hwc; rw [H1.out]))
      go_ret
      refine ⟨ret_int ?_, by rw [hpS.out]; exact h'.out, BelowX.of (Below.refl _ _)⟩
      rw [hat.out] at hc
      cases hc
      rfl
    · have H1 : Hid (has D (.string s.data.toList) = false) := Lib.hid (by rw [(hND.2 s).1]; exact decide_eq_false hp)
      have hpS := Lib.hid (putS_new hp)
      have hpl := Lib.hid (place_new hp)
      have hD2 := Lib.hid (namesD_put hND hp)
      have hbm := map_ne_cells hown hb
      have hbm' : some b ≠ some mb := fun h => hbm (Option.some.inj h)
      have hrm := row_ne_map hr hown
      obtain ⟨a0, cp0, rfl⟩ := row_slice hr
      have hwf : (Lit.int .i64 (L.length : Nat)).wf = true := wf_len hn
      clear hp hND
      go_enter Try.func9, Try.ntmps9
      go_wp2_with (first
        | (at_lookup; refine wpList_lookup_own_ok_int _ rfl _ _ 38 rfl 9 3 .i64 keyed_str Try.underlying38 Try.underlying3 (zero_int _) mb L.length D rfl hown _ _ rfl (key_str hs) ?_; intro c hc hwc; rw [H1.out])
        | (refine wpList_mapUpdate_in _ rfl _ _ _ 38 rfl 9 3 keyed_str Try.underlying38 (plainElem Try.prog 3) mb L.length D rfl hown (by unfold maxLen; omega) _ _ _ rfl rfl (key_str hs) _ _ (plainElem_int Try.underlying3 hwf) ?_; intro w1 hown1 hturn1; have e0 := hturn1.grown.cell c0 hbm'; have hr1 := hr.kept hturn1.grown (.inr hrm); have hb1 := (hturn1.grown.block b hblt hbm').trans hb; have hbl1 : Below base w w1 := (Below.refl _ _).grown hturn1.grown hBW (fun k hk => by cases hk; exact hmb))
        | (at_builtin; refine wpList_append_own_at _ rfl _ _ 22 rfl base 9 i0 (.string ByteArray.empty) 1 16 Try.underlying22 hi hz0 hz1 hz2 rfl (by decide) _ _ _ rfl (hr1.alloc _) ⟨w1.heap.size, 0, none⟩ 1 1 [.string s] rfl rfl (cell_one_new _ _ _) ?c2 ?c3 ?c4 ?c5 ?_; (case c2 => exact strs_one [s]); (case c3 => unfold maxLen; omega); (case c4 => omega); (case c5 => simp; exact Nat.le_succ_of_le (Nat.le_trans hBW hbl1.size)); intro v2 w2 hown2 hgrow2 _ hloc; obtain ⟨a2, cp2, rfl⟩ := row_slice hown2; have hb2 := (hgrow2.block b (Nat.lt_of_lt_of_le (lt_of_block hb1) (by simp)) (row_ne_cells hr1 hb1)).trans ((heap_alloc_old _ _ (lt_of_block hb1)).trans hb1); have e2 := (cells_two hb2).1; have ef := free_of_block (j := 0) hb2))
      go_ret
      refine ⟨ret_int (by rw [hpl.out]), ?_, ?_⟩
      · rw [hpS.out]
        refine ⟨hbb, by simp; omega, (.slice a2 (L.length + 1) cp2), .map (some mb), block_setCell hb2, ?_, .inr ⟨mb, _, rfl, hmb, ?_, hD2.out⟩⟩
        · have := hown2.kept (grownBy_setCell' w2 b (.slice a2 (L.length + 1) cp2)) (.inr (fun h => row_ne_cells hown2 hb2 h.symm))
          simpa using this
        · have h9 := ((hown1.alloc _).kept hgrow2 (fun h => row_ne_map hr1 hown1 h.symm)).setCell (a := ⟨b, 0, none⟩) (fun h => hbm h.symm) (.slice a2 (L.length + 1) cp2)
          simpa using h9
      · exact (BelowX.of ((hbl1.alloc (Nat.le_trans hBW hbl1.size) _).grown hgrow2 (by simp; exact Nat.le_succ_of_le (Nat.le_trans hBW hbl1.size)) (own_base hr1 (Nat.le_refl _)))).setCell _

end Go.Proofs.Ytijnekbhpdcemaa
