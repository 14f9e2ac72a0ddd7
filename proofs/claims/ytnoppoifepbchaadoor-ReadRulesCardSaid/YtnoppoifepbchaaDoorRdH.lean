/- The reader: helpers. -/
import Derived.Test.YtnoppoifepbchaaDoorRd3
import Derived.Deep.LoopGhost
import Derived.Deep.AppendLies
namespace Go.Proofs.YtnoppoifepbchaaDoor
open Go.RowKit
set_option linter.unusedVariables false
set_option linter.unusedSimpArgs false

theorem rdInfoSym : (Tryd.prog.info? 40).map (fun i => (i.zero, i.size, i.bytes)) = some (some (.agg #[.string ByteArray.empty, .bool false, .int .i64 0, .int .i64 0]), 4, 40) := by kernel_rfl
theorem rdInfoDecl : (Tryd.prog.info? 51).map (fun i => (i.zero, i.size, i.bytes)) = some (some (.agg #[.int .i64 0, .string ByteArray.empty, .slice none 0 0, .int .i64 0]), 4, 56) := by kernel_rfl
theorem rd_info {i : Option TypeInfo} {z : Option Value} {a b : Nat} (h : i.map (fun i => (i.zero, i.size, i.bytes)) = some (z, a, b)) : ∃ x, i = some x ∧ x.zero = z ∧ x.size = a ∧ x.bytes = b := by
 match i, h with
 | some x, h =>
   simp only [Option.map_some, Option.some.injEq, Prod.mk.injEq] at h
   exact ⟨x, rfl, h.1, h.2.1, h.2.2⟩
/-- the cells of a block that was just made -/
theorem rd_news (w : World) (l : List Value) (t : TypeId) : ∀ j u, l[j]? = some u → (w.alloc (.cells l.toArray t)).cell? ((⟨w.heap.size, 0, none⟩ : Addr).add j) = some u := by
 intro j u hj
 rw [show ((⟨w.heap.size, 0, none⟩ : Addr).add j) = ⟨w.heap.size, j, none⟩ from by simp [Addr.add]; intro h; exact h.symm]
 exact (cell_top w l.toArray t _ j rfl).trans (by rw [List.getElem?_toArray]; exact hj)
theorem rd_one {w : World} {base : Nat} {e : TypeId} {size n : Nat} {v : Value} {xs : List Value} (h : w.ownsRow base e size v n xs) : v.oneCell' = true := by
 rcases h.2 with ⟨rfl, _⟩ | ⟨g, cap, cur, rfl, _⟩ <;> rfl
theorem rd_slice {w : World} {base : Nat} {e : TypeId} {size n : Nat} {v : Value} {xs : List Value} (h : w.ownsRow base e size v n xs) : ∃ a c, v = .slice a n c := by
 rcases h.2 with ⟨rfl, h0⟩ | ⟨g, cap, cur, rfl, _⟩
 · exact ⟨none, 0, by rw [h0]⟩
 · exact ⟨_, cap, rfl⟩

theorem Turns.far {S : Nat → Prop} {w w1 w2 : World} (h : Turns S w w1) (hb : Below w.heap.size w1 w2) : Turns S w w2 :=
 ⟨hb.os.trans h.os, hb.tape.trans h.tape, hb.output.trans h.output, Nat.le_trans h.size hb.size, fun b hb' hn => (hb.block b hb').trans (h.block b hb' hn)⟩
theorem RdAt.far {w0 w1 w2 : World} {a n : Nat} {wv dv rv : Value} {hp : Bool} {pro : ByteArray} (h : RdAt w0 w1 a wv n hp pro dv rv) {B : Nat} (hb : Below B w1 w2) (ha : a < B) (h0 : w0.heap.size ≤ B) : RdAt w0 w2 a wv n hp pro dv rv :=
 ⟨h.below.trans (hb.mono h0), (hb.block a ha).trans h.row⟩

section
variable {L : Wds} {n : Nat} {k : Int}
theorem syms_one (hn : n < L.length) (hk : k ≠ 6) (h : declaresB k (wAt L n) = true) : rdSyms k (L.drop n) = (declX k L n :: (rdSyms k (L.drop (declN k L n))).1, (rdSyms k (L.drop (declN k L n))).2) := by
 unfold declX declN
 cases h2 : numbered k (wAt L n) (L.drop (n + 1)) with
 | true => rw [if_pos rfl, if_pos rfl]; exact syms_num hn hk h h2
 | false => rw [if_neg (by decide), if_neg (by decide)]; exact syms_plain hn hk h h2
theorem declN_bd (hL : LexOk L) (hn : n < L.length) (h : declaresB k (wAt L n) = true) : n < declN k L n ∧ declN k L n < L.length := by
 unfold declaresB at h
 rw [decide_eq_true_iff] at h
 have h1 := hL.next hn (by omega)
 unfold declN
 split
 · rename_i h2
   unfold numbered at h2
   rw [decide_eq_true_iff] at h2
   have h3 : (wAt L (n + 1)).kind = 3 := h2.2.2
   have := hL.next h1 (by omega)
   omega
 · omega
theorem numbered_six (x : Wd) (l : Wds) : numbered 6 x l = false := by unfold numbered; simp
theorem declN_six : declN 6 L n = n + 1 := by unfold declN; rw [numbered_six]; rfl
theorem declX_six : declX 6 L n = smOf (wAt L n) 0 := by unfold declX; rw [numbered_six]; rfl
end

end Go.Proofs.YtnoppoifepbchaaDoor
