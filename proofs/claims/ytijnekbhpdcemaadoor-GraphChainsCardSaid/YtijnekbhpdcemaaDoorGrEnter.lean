/- A node is met. -/
import Derived.Test.YtijnekbhpdcemaaDoorGrWalker
import Derived.Test.YtijnekbhpdcemaaDoorGrCount
import Derived.BigRegion
import Derived.Deep.RegionLaw
namespace Go.Proofs.YtijnekbhpdcemaaDoor
open Go.RowKit
set_option linter.unusedVariables false
set_option linter.unusedSimpArgs false

/-- what the walk reads of the walker -/
theorem WalkV.cells {w : World} {base : Nat} {tag : Nat → Nat} {b : Nat} {rv : Value} {n ob lb cb : Nat} {ov cv : Value} {vs : List Value} {s : TS} (h : WalkV w base tag b rv n ob lb cb ov cv vs s) :
    (w.cell? ⟨b, 0, none⟩ = some rv ∧ w.cell? ⟨b, 1, none⟩ = some (.slice (some ⟨ob, 0, none⟩) n n) ∧ w.cell? ⟨b, 2, none⟩ = some (.slice (some ⟨lb, 0, none⟩) n n) ∧ w.cell? ⟨b, 3, none⟩ = some (.slice (some ⟨cb, 0, none⟩) n n) ∧
      w.cell? ⟨b, 4, none⟩ = some ov ∧ w.cell? ⟨b, 5, none⟩ = some cv ∧ w.cell? ⟨b, 6, none⟩ = some (.int .i64 s.met)) ∧
    (∀ j, w.frozen? ⟨b, j, none⟩ = false) ∧ (∀ j, w.frozen? ⟨ob, j, none⟩ = false) ∧ (∀ j, w.frozen? ⟨lb, j, none⟩ = false) ∧ (∀ j, w.frozen? ⟨cb, j, none⟩ = false) ∧
    (ob ≠ b ∧ lb ≠ b ∧ cb ≠ b) ∧ (b < w.heap.size ∧ ob < w.heap.size ∧ lb < w.heap.size ∧ cb < w.heap.size) :=
  ⟨⟨h.rb.cell (by omega), h.rb.cell (by omega), h.rb.cell (by omega), h.rb.cell (by omega), h.rb.cell (by omega), h.rb.cell (by omega), h.rb.cell (by omega)⟩,
    h.rb.frozen, h.ro.frozen, h.rl.frozen, h.rc.frozen,
    ⟨WalkV.ne_of_tag h.to_ h.tb (by omega), WalkV.ne_of_tag h.tl h.tb (by omega), WalkV.ne_of_tag h.tc h.tb (by omega)⟩, h.rb.lt, h.ro.lt, h.rl.lt, h.rc.lt⟩

theorem tag_new {w : World} {base : Nat} {tag : Nat → Nat} {b : Nat} {rv : Value} {n ob lb cb : Nat} {ov cv : Value} {vs : List Value} {s : TS} (h : WalkV w base tag b rv n ob lb cb ov cv vs s) : tag w.heap.size = 0 := h.new _ (Nat.le_refl _)

def EnterPost (base : Nat) (tag : Nat → Nat) (b : Nat) (rv : Value) (n ob lb cb : Nat) (cv : Value) (vs : List Value) (s : TS) (r : Int) (w : World) (e : Ending) (w' : World) : Prop :=
  e = .returned (.agg #[.int .i64 r, .int .i64 0]) ∧ ∃ tag' ov', WalkV w' base tag' b rv n ob lb cb ov' cv vs (s.enter r) ∧ Kept tag tag' w w'

set_option maxHeartbeats 4000000 in
set_option maxRecDepth 100000 in
theorem enter_any (base : Nat) (tag : Nat → Nat) (b : Nat) (rv : Value) (n ob lb cb : Nat) (ov cv : Value) (vs : List Value) (s : TS) (r : Nat) (w : World) (h : WalkV w base tag b rv n ob lb cb ov cv vs s)
    (hr : r < n) (hn : n ≤ 1000000) (hm : s.met + 1 ≤ n) (hs : s.opn.length ≤ n) :
    Calls Tryd.prog 60 #[.pointer (some ⟨b, 0, none⟩), .int .i64 r] w (EnterPost base tag b rv n ob lb cb cv vs s r w) := by
  obtain ⟨i0, hi, hz0, hz1, hz2⟩ := info_parts Tryd.infoInt'
  have h0 : WalkV (w.alloc (.cells #[.int .i64 0, .int .i64 0] 71)) base tag b rv n ob lb cb ov cv vs s := h.alloc _
  have k0 : Kept tag tag w (w.alloc (.cells #[.int .i64 0, .int .i64 0] 71)) := (Kept.refl _ _).alloc _
  have t0 := tag_new h
  have p0 : (w.alloc (.cells #[.int .i64 0, .int .i64 0] 71)).rowIs w.heap.size 71 2 (fun _ => .int .i64 0) := World.rowIs_alloc w #[.int .i64 0, .int .i64 0] _ _ (fun i hi => by
    match i, hi with
    | 0, _ => rfl
    | 1, _ => rfl)
  have h1 : WalkV ((w.alloc (.cells #[.int .i64 0, .int .i64 0] 71)).setCell ⟨b, 6, none⟩ (.int .i64 ((s.met : Int) + 1))) base tag b rv n ob lb cb ov cv vs { s with met := s.met + 1 } := by
    have := h0.setMet (s.met + 1)
    simpa using this
  have k1 := k0.setCell (a := ⟨b, 6, none⟩) (by show tag b ≠ 0; rw [h.tb]; omega) (.int .i64 ((s.met : Int) + 1))
  have p1 := p0.setOther (a := ⟨b, 6, none⟩) (by show w.heap.size ≠ b; have := h.rb.lt; omega) (.int .i64 ((s.met : Int) + 1))
  have hm1 : ((s.met + 1 : Nat) : Int) = (s.met : Int) + 1 := by simp
  obtain ⟨⟨c0, c1, c2, c3, c4, c5, c6⟩, f1, f2, f3, f4, ⟨d1, d2, d3⟩, ⟨l1, l2, l3, l4⟩⟩ := h0.cells
  have hrI : ((r : Int) < (n : Int)) := by omega
  go_enter Tryd.func60, Tryd.ntmps60
  go_wp2_with (fail)
  generalize hw1 : ((w.alloc (.cells #[.int .i64 0, .int .i64 0] 71)).setCell ⟨b, 6, none⟩ (.int .i64 ((s.met : Int) + 1))) = w1 at h1 k1 p1 ⊢
  clear hw1 c0 c1 c2 c3 c4 c5 c6 f1 f2 f3 f4 p0 k0 h0
  obtain ⟨⟨c0, c1, c2, c3, c4, c5, c6⟩, f1, f2, f3, f4, ⟨d1, d2, d3⟩, ⟨l1, l2, l3, l4⟩⟩ := h1.cells
  rw [hm1] at c6
  have q1 := h1.ro.cell hr
  have h2 := h1.setOrd r ((s.met : Int) + 1)
  have k2 := k1.setCell (a := ⟨ob, r, none⟩) (by show tag ob ≠ 0; rw [h.to_]; omega) (.int .i64 ((s.met : Int) + 1))
  have p2 := p1.setOther (a := ⟨ob, r, none⟩) (by show w.heap.size ≠ ob; have := h.ro.lt; omega) (.int .i64 ((s.met : Int) + 1))
  go_region
  generalize hw2 : w1.setCell ⟨ob, r, none⟩ (.int .i64 ((s.met : Int) + 1)) = w2 at h2 k2 p2 ⊢
  clear hw2 c0 c1 c2 c3 c4 c5 c6 f1 f2 f3 f4 h1 k1 p1 q1
  obtain ⟨⟨c0, c1, c2, c3, c4, c5, c6⟩, f1, f2, f3, f4, _, ⟨l1, l2, l3, l4⟩⟩ := h2.cells
  simp only [hm1] at c6
  have q1 := h2.rl.cell hr
  have h3 := h2.setLow r ((s.met : Int) + 1)
  have k3 := k2.setCell (a := ⟨lb, r, none⟩) (by show tag lb ≠ 0; rw [h.tl]; omega) (.int .i64 ((s.met : Int) + 1))
  have p3 := p2.setOther (a := ⟨lb, r, none⟩) (by show w.heap.size ≠ lb; have := h.rl.lt; omega) (.int .i64 ((s.met : Int) + 1))
  go_wp2_with (fail)
  go_region
  generalize hw3 : w2.setCell ⟨lb, r, none⟩ (.int .i64 ((s.met : Int) + 1)) = w3 at h3 k3 p3 ⊢
  clear hw3 c0 c1 c2 c3 c4 c5 c6 f1 f2 f3 f4 h2 k2 p2 q1
  obtain ⟨⟨c0, c1, c2, c3, c4, c5, c6⟩, f1, f2, f3, f4, _, ⟨l1, l2, l3, l4⟩⟩ := h3.cells
  have hb3 := h3.bas
  have hov := h3.rov
  have hpz := p3.lt
  have h4 := ((h3.alloc (.cells #[.int .i64 (r : Int)] 3)).drew).drew
  have k4 := ((k3.alloc (.cells #[.int .i64 (r : Int)] 3)).drew).drew
  have p4 := ((p3.alloc (.cells #[.int .i64 (r : Int)] 3)).drew).drew
  go_wp2_with (first
    | (at_builtin; refine wpList_append_own_at _ rfl _ _ 22 rfl base 3 i0 (.int .i64 0) 1 8 Tryd.underlying22 hi hz0 hz1 hz2 rfl (by decide) _ _ _ rfl ((hov.drew.drew).alloc _) ⟨w3.heap.size, 0, none⟩ 1 1 [.int .i64 r] rfl rfl (news1 _ _ _) ?c2 ?c3 ?c4 ?c5 ?_))
  case c2 => rfl
  case c3 => unfold maxLen; omega
  case c4 => omega
  case c5 => omega
  intro v' w4 hown hgrow _ hloc
  obtain ⟨g', cap', rfl, _⟩ := owns_at hown (by omega)
  have g4 := (h4.rb.of_block (hgrow.block b h4.rb.lt (fun e => absurd (h4.tov b e.symm) (by rw [h4.tb]; omega))))
  have p5 := (grown_rowIs p4 hgrow (fun k hk e => absurd (h4.tov k hk) (by rw [e, t0]; omega))).setOther (a := ⟨b, 4, none⟩) (by show w.heap.size ≠ b; have := h.rb.lt; omega) (.slice (some ⟨g', 0, none⟩) (s.opn.length + 1) cap')
  obtain ⟨tag', h5, k5⟩ := h4.openGrown (l := s.opn ++ [(r : Int)]) hgrow (by simpa using hloc) (by simpa using hown)
  have c4' := g4.cell (i := 4) (by omega)
  have f4' := g4.frozen 4
  have hs5 := k5.size
  have hbl4 := p4.lt
  have hbl : w.heap.size < w4.heap.size := Nat.lt_of_lt_of_le p4.lt hgrow.size
  clear c0 c1 c2 c3 c4 c5 c6 f1 f2 f3 f4 h4 hown hgrow hloc h3 p3 k3 p4 g4 hov
  have pc0 := p5.cell (i := 0) (by omega)
  have pc1 := p5.cell (i := 1) (by omega)
  have pf0 := p5.frozen 0
  have pf1 := p5.frozen 1
  go_wp2_with (fail)
  have ht' : tag' w.heap.size = 0 := (k5.old _ hbl4).trans t0
  have kk := k4.trans k5
  clear k4 k5
  generalize w4.setCell ⟨b, 4, none⟩ (.slice (some ⟨g', 0, none⟩) (s.opn.length + 1) cap') = w5 at *
  have hlt5 := p5.lt
  refine bodyPost_ret (v := .agg #[.int .i64 (r : Int), .int .i64 0]) ?_ rfl ⟨rfl, tag', _, (h5.setFree (a := ⟨w.heap.size, 0, none⟩) ht' _).setFree (a := ⟨w.heap.size, 1, none⟩) ht' _, (kk.setNew (a := ⟨w.heap.size, 0, none⟩) (Nat.le_refl _) _).setNew (a := ⟨w.heap.size, 1, none⟩) (Nat.le_refl _) _⟩
  have p6 := (p5.set 0 (.int .i64 (r : Int))).set 1 (.int .i64 0)
  have e0 : ((w5.setCell ⟨w.heap.size, 0, none⟩ (.int .i64 (r : Int))).setCell ⟨w.heap.size, 1, none⟩ (.int .i64 0)).cell? ⟨w.heap.size, 0, none⟩ = some (.int .i64 (r : Int)) := p6.cell (i := 0) (by omega)
  have e1 : ((w5.setCell ⟨w.heap.size, 0, none⟩ (.int .i64 (r : Int))).setCell ⟨w.heap.size, 1, none⟩ (.int .i64 0)).cell? ⟨w.heap.size, 1, none⟩ = some (.int .i64 0) := p6.cell (i := 1) (by omega)
  simp [results, Tryd.results60, go_sem, e0, e1]

end Go.Proofs.YtijnekbhpdcemaaDoor
