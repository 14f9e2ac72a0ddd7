/- A symbol, cut; what the law's cut of a source is. -/
import Derived.Test.YtnoppoifepbchaaDoorSymsP
namespace Go.Proofs.YtnoppoifepbchaaDoor
open Go.RowKit
set_option linter.unusedVariables false
set_option linter.unusedSimpArgs false

def Sm.cut (x : Sm) : Sm := ⟨cutT x.name 25, x.lit, x.num, x.pos⟩
theorem symInfo : (Tryd.prog.info? 40).map (·.size) = some 4 := by kernel_rfl
set_option maxRecDepth 100000 in
set_option maxHeartbeats 8000000 in
theorem symCut_any (x : Sm) (w : World) (hs : x.name.size ≤ maxLen) : Calls Tryd.prog 31 #[x.agg] w fun e w' => e = .returned x.cut.agg ∧ Below w.heap.size w w' := by
  obtain ⟨n, l, m, p⟩ := x
  unfold Sm.cut Sm.agg
  simp only at hs ⊢
  have HC : ∀ W, Calls Tryd.prog 22 #[.string n, .int .i64 25] W fun e w' => e = .returned (.string (cutT n 25)) ∧ W = w' := fun W => text_25 n W hs
  generalize cutT n 25 = nm at HC ⊢
  clear hs
  go_enter Tryd.func31, Tryd.ntmps31
  go_upto_region 1 with fail
  have hb1 := (Below.refl w.heap.size w).alloc (Nat.le_refl _) (.cells #[.string n, .bool l, .int .i64 m, .int .i64 p] 40)
  have hb2 := hb1.alloc hb1.size (.cells #[.string ⟨#[]⟩, .bool false, .int .i64 0, .int .i64 0] 40)
  have hs1 : (w.alloc (.cells #[.string n, .bool l, .int .i64 m, .int .i64 p] 40)).heap.size = w.heap.size + 1 := World.size_alloc _ _
  have x0 : ((w.alloc (.cells #[.string n, .bool l, .int .i64 m, .int .i64 p] 40)).alloc (.cells #[.string ⟨#[]⟩, .bool false, .int .i64 0, .int .i64 0] 40)).cell? ⟨w.heap.size, 0, none⟩ = some (.string n) := cell_alloc (show (w.alloc (.cells #[.string n, .bool l, .int .i64 m, .int .i64 p] 40)).cell? ⟨w.heap.size, 0, none⟩ = some _ from cell_top w _ _ _ 0 rfl) _
  have x1 : ((w.alloc (.cells #[.string n, .bool l, .int .i64 m, .int .i64 p] 40)).alloc (.cells #[.string ⟨#[]⟩, .bool false, .int .i64 0, .int .i64 0] 40)).cell? ⟨w.heap.size, 1, none⟩ = some (.bool l) := cell_alloc (show (w.alloc (.cells #[.string n, .bool l, .int .i64 m, .int .i64 p] 40)).cell? ⟨w.heap.size, 1, none⟩ = some _ from cell_top w _ _ _ 1 rfl) _
  have x2 : ((w.alloc (.cells #[.string n, .bool l, .int .i64 m, .int .i64 p] 40)).alloc (.cells #[.string ⟨#[]⟩, .bool false, .int .i64 0, .int .i64 0] 40)).cell? ⟨w.heap.size, 2, none⟩ = some (.int .i64 m) := cell_alloc (show (w.alloc (.cells #[.string n, .bool l, .int .i64 m, .int .i64 p] 40)).cell? ⟨w.heap.size, 2, none⟩ = some _ from cell_top w _ _ _ 2 rfl) _
  have x3 : ((w.alloc (.cells #[.string n, .bool l, .int .i64 m, .int .i64 p] 40)).alloc (.cells #[.string ⟨#[]⟩, .bool false, .int .i64 0, .int .i64 0] 40)).cell? ⟨w.heap.size, 3, none⟩ = some (.int .i64 p) := cell_alloc (show (w.alloc (.cells #[.string n, .bool l, .int .i64 m, .int .i64 p] 40)).cell? ⟨w.heap.size, 3, none⟩ = some _ from cell_top w _ _ _ 3 rfl) _
  go_region_held3 (fun W => W.cell? ⟨w.heap.size, 0, none⟩ = some (.string n) ∧ W.cell? ⟨w.heap.size, 1, none⟩ = some (.bool l) ∧ W.cell? ⟨w.heap.size, 2, none⟩ = some (.int .i64 m) ∧ W.cell? ⟨w.heap.size, 3, none⟩ = some (.int .i64 p))
    (first | go_keep | exact ⟨x0, x1, x2, x3⟩)
    (first | (go_at_call 22; refine (HC _).mono ?_; rintro e w9 ⟨rfl, rfl⟩))
  all_goals
    go_wp2_with fail
    have hh : (((w.alloc (.cells #[.string n, .bool l, .int .i64 m, .int .i64 p] 40)).alloc (.cells #[.string nm, .bool l, .int .i64 m, .int .i64 p] 40)).drew).heap[w.heap.size + 1]? = some (.cells #[.string nm, .bool l, .int .i64 m, .int .i64 p] 40 (0, 0)) := heap_alloc2_new w _ _
    exact bodyPost_ret (v := .agg #[.string nm, .bool l, .int .i64 m, .int .i64 p]) (results_cell_row rfl _ _ (w.heap.size + 1) 40 #[.string nm, .bool l, .int .i64 m, .int .i64 p] (0, 0) _ rfl hh Tryd.underlying40 rfl symInfo) rfl ⟨rfl, (hb1.alloc hb1.size _).drew⟩
end Go.Proofs.YtnoppoifepbchaaDoor
