/- Pieces that came in; the law on Join. -/
import Derived.Test.YtmpdpgbcflogfaaDoorJoinRef
import Derived.Deep.Slices
import Derived.Deep.Fields
import Derived.ChangeArms
namespace Go.Proofs.YtmpdpgbcflogfaaDoor
section
open Go.RowKit Go.ChangeShapes Go.WideShapes Go.Deep
set_option linter.unusedVariables false
set_option linter.unusedSimpArgs false

/-- pieces that came in: no text is longer than may be -/
def PcsIn (w : World) (v : Value) (L : List Pc) : Prop := PcsV w v L ∧ ∀ p ∈ L, p.text.size ≤ maxLen ∧ p.tag.size ≤ maxLen

section
variable {H : Type} {enc : TypeId × Value → H} {w : World} {base : Nat} {sp : Nat → Bool} {held : Bool}

set_option maxRecDepth 100000 in
theorem piece_cells {n : Nat} {cs : List Value} {x : DataW H × List MemPlace} (h : DataW.trod enc Tryd.prog w base sp held n 28 cs = some x) :
    ∃ p : Pc, cs = p.cells ∧ p.text.size ≤ maxLen ∧ p.tag.size ≤ maxLen := by
  obtain ⟨ys, m, _, _, hl, hyl, hf⟩ := DataW.trod_struct Tryd.underlying28 h
  have e4 : Tryd.prog.cellsOf 28 = 4 := by kernel_rfl
  have e1 : Tryd.prog.cellsOf 3 = 1 := by kernel_rfl
  have e2 : Tryd.prog.cellsOf 9 = 1 := by kernel_rfl
  rw [e4] at hl
  have f0 := hf 0 _ rfl
  have f1 := hf 1 _ rfl
  have f2 := hf 2 _ rfl
  have f3 := hf 3 _ rfl
  match cs, hl, ys, hyl with
  | [c0, c1, c2, c3], _, [y0, y1, y2, y3], _ =>
    simp only [e1, e2, List.drop, List.take, List.getElem?_cons_zero, List.getElem?_cons_succ] at f0 f1 f2 f3
    obtain ⟨z0, h0, _, _⟩ := DataW.trod_int Tryd.underlying3 f0
    obtain ⟨z1, h1, _, hs1⟩ := DataW.trod_string Tryd.underlying9 f1
    obtain ⟨z2, h2, _, _⟩ := DataW.trod_int Tryd.underlying3 f2
    obtain ⟨z3, h3, _, hs3⟩ := DataW.trod_string Tryd.underlying9 f3
    cases h0; cases h1; cases h2; cases h3
    exact ⟨⟨z0, z1, z2, z3⟩, rfl, hs1, hs3⟩

theorem pcs_of_trod {T : TypeId} {a : Option Addr} {n c : Nat} {d : DataW H} {p : List MemPlace}
    (hT : Tryd.prog.underlying T = some (.slice 28)) (h : DataW.Trod enc Tryd.prog w base sp held T (.slice a n c) d p) : ∃ L, PcsIn w (.slice a n c) L := by
  obtain ⟨fuel, hf⟩ := h
  rcases open_slice hT hf with ⟨hcs, _⟩ | ⟨x, l, c', m, k, D, Pl, hcs, _, hl, hm, hmm, _, hi⟩
  · simp [Value.cells] at hcs
    obtain ⟨rfl, rfl, rfl⟩ := hcs
    exact ⟨[], ⟨none, 0, rfl, by simp, by omega, fun _ => rfl, fun i hi => absurd hi (Nat.not_lt_zero _)⟩, fun p hp => by cases hp⟩
  · simp [Value.cells] at hcs
    obtain ⟨rfl, rfl, rfl⟩ := hcs
    have e4 : Tryd.prog.cellsOf 28 = 4 := by kernel_rfl
    have hlm : n ≤ m := by rw [hmm]; split <;> omega
    have hp : ∀ i, ∃ p : Pc, (i < n → ∀ j, j < 4 → w.cell? ((x.add (i * 4)).add j) = p.cells[j]?) ∧ p.text.size ≤ maxLen ∧ p.tag.size ≤ maxLen := fun i => by
      by_cases hlt : i < n
      · obtain ⟨cs', hc, ht⟩ := hi i (by omega)
        obtain ⟨p, rfl, h1, h2⟩ := piece_cells ht
        rw [e4] at hc
        obtain ⟨_, _, hat⟩ := World.cells?_some hc
        exact ⟨p, fun _ => hat, h1, h2⟩
      · exact ⟨noPc, fun h => absurd h hlt, by decide, by decide⟩
    have hx0 : 0 < n → x.spot = none := fun h => by
      obtain ⟨p, hp0, _⟩ := hp 0
      have h1 := hp0 h 0 (by omega)
      have e : (x.add (0 * 4)).add 0 = x := by simp [Addr.add]
      rw [e] at h1
      exact World.cell?_spot (h1.trans (show p.cells[0]? = some (.int .i64 p.kind) from rfl))
    obtain ⟨f, hfs⟩ := Classical.axiomOfChoice hp
    refine ⟨(List.range n).map f, ?_, fun p hpm => ?_⟩
    · have hlen : ((List.range n).map f).length = n := by simp
      refine ⟨some x, c, by rw [hlen], by rw [hlen]; exact hl, by unfold maxLen at hm; omega, (fun h => by cases h), fun i hi2 => ?_⟩
      have hpl := pcs_len ((List.range n).map f)
      rw [hlen] at hpl
      have hq : i / 4 < n := by omega
      have hr : i % 4 < 4 := Nat.mod_lt _ (by omega)
      have hcell := (hfs (i / 4)).1 hq (i % 4) hr
      have hspot := hx0 (by omega)
      obtain ⟨b, off, spot⟩ := x
      subst hspot
      have hg : ((List.range n).map f).getD (i / 4) noPc = f (i / 4) := by
        rw [List.getD_eq_getElem?_getD, List.getElem?_map, List.getElem?_range hq]; rfl
      have hgd := pcs_getD ((List.range n).map f) (i / 4) (by rw [hlen]; exact hq)
      rw [hg] at hgd
      refine ⟨b, off, rfl, ?_⟩
      rw [addr_add, addr_add] at hcell
      have hi4 : off + i / 4 * 4 + i % 4 = off + i := by omega
      rw [hi4] at hcell
      rw [hcell]
      obtain ⟨g0, g1, g2, g3⟩ := hgd
      have hcase : i % 4 = 0 ∧ i = i / 4 * 4 ∨ i % 4 = 1 ∧ i = i / 4 * 4 + 1 ∨ i % 4 = 2 ∧ i = i / 4 * 4 + 2 ∨ i % 4 = 3 ∧ i = i / 4 * 4 + 3 := by omega
      rcases hcase with ⟨e, e2⟩ | ⟨e, e2⟩ | ⟨e, e2⟩ | ⟨e, e2⟩
      · rw [e, show (pcs ((List.range n).map f)).getD i undef = _ from (congrArg (fun q => (pcs ((List.range n).map f)).getD q undef) e2).trans g0]; rfl
      · rw [e, show (pcs ((List.range n).map f)).getD i undef = _ from (congrArg (fun q => (pcs ((List.range n).map f)).getD q undef) e2).trans g1]; rfl
      · rw [e, show (pcs ((List.range n).map f)).getD i undef = _ from (congrArg (fun q => (pcs ((List.range n).map f)).getD q undef) e2).trans g2]; rfl
      · rw [e, show (pcs ((List.range n).map f)).getD i undef = _ from (congrArg (fun q => (pcs ((List.range n).map f)).getD q undef) e2).trans g3]; rfl
    · obtain ⟨i, _, rfl⟩ := List.mem_map.1 hpm
      exact (hfs i).2
end
end

section
open Go.RowKit
set_option linter.unusedVariables false

def cutP (p : Pc) : Pc := ⟨p.kind, cutT p.text 30, p.num, cutT p.tag 30⟩

theorem cells_far {w w' : World} {o : Obj} {r : Option Nat} {b j : Nat} {u : Value} (hc : w.cell? ⟨b, j, none⟩ = some u) (hg : (w.alloc o).grownBy w' r) (hr : ∀ k, r = some k → b < k) : w'.cell? ⟨b, j, none⟩ = some u := by
  have hlt := World.block_lt_of_cell? _ _ hc
  refine hg.cell ((World.cell?_alloc_lt _ _ _ hlt).trans hc) (fun h => ?_)
  have := hr b h.symm
  omega

theorem text_30 (s : ByteArray) (w : World) (hs : s.size ≤ maxLen) :
    Calls Tryd.prog 15 #[.string s, .int .i64 30] w fun e w' => e = .returned (.string (cutT s 30)) ∧ w = w' := text_any s 30 w hs (by omega)

set_option maxRecDepth 100000 in
set_option maxHeartbeats 1000000 in
theorem bodyJoins_walk (v : Value) (L : List Pc) (w : World) (h : PcsIn w v L) (hE : Env w) :
    Calls Tryd.prog 4 #[v] w fun e w' => e = .returned (.bool true) ∧ Below w.heap.size w w' := by
  have HE := Lib.hid hE
  obtain ⟨hv, hz⟩ := h
  obtain ⟨a, n, c, rfl, hn, hnc, hc, hx⟩ := hv.open
  have HZ := Lib.hid hz
  clear hE hv hz
  obtain ⟨i0, hi, iz0, iz1, iz2⟩ := info_parts Tryd.infoPiece
  go_enter Tryd.func4, Tryd.ntmps4
  go_wp2_with fail
  refine (bodyWakes_any _ HE.out).mono ?_
  rintro e w1 ⟨rfl, hb1⟩
  go_wp2_with fail
  go_loopw [3, 4] (fun y x wr => ∃ (k : Nat) (r : List Pc), k ≤ n ∧ k ≤ 20 ∧ x = .int .i64 k ∧ r.length = k ∧ Hid (r = (L.take k).map cutP) ∧ wr.ownsRow w.heap.size 28 4 y r.length (pcs r) ∧ Below w.heap.size w wr) (fun _ x _ => n + 1 - (intOf x).toNat)
  case atStart => exact ⟨0, [], by omega, by omega, rfl, rfl, Lib.hid rfl, World.ownsRow_nil _ _ _ _, hb1⟩
  case round =>
    obtain ⟨k, r, hk, hk20, rfl, hrl, hr, hown, hb⟩ := hrel
    have hs1 := hb.size
    by_cases hgo : k < n ∧ k < 20
    · obtain ⟨hlt, h20⟩ := hgo
      obtain ⟨b, o, rfl, c0, c1, c2, c3⟩ := hx.out k hlt
      have hblt := World.block_lt_of_cell? _ _ c0
      replace c0 := (hb.cell (p := ⟨b, o + k * 4, none⟩) hblt).trans c0
      replace c1 := (hb.cell (p := ⟨b, o + k * 4 + 1, none⟩) hblt).trans c1
      replace c2 := (hb.cell (p := ⟨b, o + k * 4 + 2, none⟩) hblt).trans c2
      replace c3 := (hb.cell (p := ⟨b, o + k * 4 + 3, none⟩) hblt).trans c3
      have hkL : k < L.length := by have := hn.out; omega
      have hzk : (L.getD k noPc).text.size ≤ maxLen ∧ (L.getD k noPc).tag.size ≤ maxLen := by
        rw [List.getD_eq_getElem?_getD, List.getElem?_eq_getElem hkL]; exact HZ.out _ (List.getElem_mem hkL)
      have hstep : Hid (r ++ [cutP (L.getD k noPc)] = (L.take (k + 1)).map cutP) := Lib.hid (by
        rw [List.take_succ_eq_append_getElem hkL, List.map_append, ← hr.out, List.getD_eq_getElem?_getD, List.getElem?_eq_getElem hkL]; rfl)
      generalize L.getD k noPc = p at c0 c1 c2 c3 hzk hstep
      obtain ⟨kd, tx, nm, tg⟩ := p
      simp only [cutP] at c0 c1 c2 c3 hzk hstep
      have hz1 := Lib.hid hzk.1
      have hz2 := Lib.hid hzk.2
      have hyo : ∀ k, u3.ownBlock = some k → b < k := fun k hk => Nat.lt_of_lt_of_le hblt (own_base hown (Nat.le_refl _) k hk)
      have hneb : u3.ownBlock ≠ some b := fun h => Nat.lt_irrefl _ (hyo b h)
      clear hzk hr
      go_wp2_with fail
      go_region_held3 (fun w' => w'.cell? ⟨b, o + k * 4, none⟩ = some (.int .i64 kd) ∧ w'.cell? ⟨b, o + k * 4 + 1, none⟩ = some (.string tx) ∧ w'.cell? ⟨b, o + k * 4 + 2, none⟩ = some (.int .i64 nm) ∧ w'.cell? ⟨b, o + k * 4 + 3, none⟩ = some (.string tg))
        (first | go_keep | (go_split_ands; refine ⟨?_, ?_, ?_, ?_⟩ <;> (rw [hgrow5.cell_far _ (by simp; omega) (Ne.symm hneb)]; assumption)))
        (first
          | (refine step_append_lies _ (by rfl) _ _ _ (by rfl) w.heap.size 28 i0 (.agg #[.int .i64 0, .string ByteArray.empty, .int .i64 0, .string ByteArray.empty]) 4 48 Tryd.underlying26 hi iz0 iz1 iz2 rfl (by omega) u3 r.length (pcs r) (by rfl) ((hown.alloc _).drew)
              ⟨wr.heap.size, 0, none⟩ 1 1 (pcs [⟨kd, cutT tx 30, nm, cutT tg 30⟩]) (by rfl) (by rfl) (news4 _ _ _ _ _ _) (pc_cells_one _)
              (by omega) (by unfold maxLen; omega) (by omega) (by simp; omega) (wr.heap.size + 1) (by simp) ?_; intro gg cap w5 hown5 hgrow5 hat hlt5)
          | (go_at_call 15; (with_reducible refine (text_30 _ _ (by first | exact hz1.out | exact hz2.out)).mono ?_); rintro e w' ⟨rfl, rfl⟩))
      have hb5 : Below w.heap.size w w5 := (hb.alloc hs1 _).drew.grown hgrow5 (Nat.le_trans hs1 (by simp)) (own_base hown (Nat.le_refl _))
      have hown6 := Lib.hid hown5
      clear hgrow5 hown5 hat hown hb
      go_wp2_with fail
      go_roundw
      case rel => exact ⟨k + 1, r ++ [⟨kd, cutT tx 30, nm, cutT tg 30⟩], by omega, by omega, by go_num, by simp; omega, hstep, by have := hown6.out; rw [pcs_app, List.length_append, List.length_cons, List.length_nil, Nat.zero_add]; rw [hrl] at this ⊢; exact this, hb5⟩
      case measure => simp [intOf]; omega
    · by_cases hlt : k < n
      · have h20 : ¬ k < 20 := fun h => hgo ⟨hlt, h⟩
        clear hgo
        have hsm : Small r := by
          refine ⟨by omega, fun p hp => ?_⟩
          rw [hr.out] at hp
          obtain ⟨q, _, rfl⟩ := List.mem_map.1 hp
          have h1 := cutT_size q.text 30
          have h2 := cutT_size q.tag 30
          exact ⟨by show (cutT q.text 30).size ≤ _; omega, by show (cutT q.tag 30).size ≤ _; omega⟩
        have hpv := PcsV.of_owns hown
        have HP := Lib.hid hpv
        have HSM := Lib.hid hsm
        clear hpv hsm hown hr hrl
        go_wp2_with fail
        refine (join_any _ r _ HP.out (HE.out.below hb) HSM.out).mono ?_
        rintro e w5 ⟨rfl, hb5⟩
        have hb6 := hb.trans (hb5.mono hs1)
        have HP5 := Lib.hid (HP.out.below hb5)
        clear hb hb5
        go_wp2_with fail
        refine (rjoin_any _ r _ HP5.out HSM.out).mono ?_
        rintro e w6 ⟨rfl, hb7⟩
        have hb8 := hb6.trans (hb7.mono hb6.size)
        generalize joinS r = J
        go_wp2_with fail
        go_ret
        exact ⟨rfl, hb8⟩
      · clear hgo
        have hsm : Small r := by
          refine ⟨by omega, fun p hp => ?_⟩
          rw [hr.out] at hp
          obtain ⟨q, _, rfl⟩ := List.mem_map.1 hp
          have h1 := cutT_size q.text 30
          have h2 := cutT_size q.tag 30
          exact ⟨by show (cutT q.text 30).size ≤ _; omega, by show (cutT q.tag 30).size ≤ _; omega⟩
        have hpv := PcsV.of_owns hown
        have HP := Lib.hid hpv
        have HSM := Lib.hid hsm
        clear hpv hsm hown hr hrl
        go_wp2_with fail
        refine (join_any _ r _ HP.out (HE.out.below hb) HSM.out).mono ?_
        rintro e w5 ⟨rfl, hb5⟩
        have hb6 := hb.trans (hb5.mono hs1)
        have HP5 := Lib.hid (HP.out.below hb5)
        clear hb hb5
        go_wp2_with fail
        refine (rjoin_any _ r _ HP5.out HSM.out).mono ?_
        rintro e w6 ⟨rfl, hb7⟩
        have hb8 := hb6.trans (hb7.mono hb6.size)
        generalize joinS r = J
        go_wp2_with fail
        go_ret
        exact ⟨rfl, hb8⟩
end

end Go.Proofs.YtmpdpgbcflogfaaDoor
