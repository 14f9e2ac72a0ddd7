/- What the law's source is made of in memory, so far. -/
import Derived.Test.YtkgbifbbpmdpgaaPLv1
import Derived.Deep.OwnRows
set_option linter.unusedVariables false
set_option linter.unusedSimpArgs false
namespace Go.Proofs.Ytkgbifbbpmdpgaa
open Go.RowKit
structure LvM (w W : World) (base Q : Nat) (sv rv : Value) (xs ys : List Value) (S1 S2 : Nat → Prop) (ds : List Dc) (as' : List Al) : Prop where
 low : Below w.heap.size w W
 sz : base ≤ W.heap.size
 rb : W.heap[Q]? = some (.cells #[.slice none 0 0, .slice none 0 0, .slice none 0 0, .string ⟨#[]⟩, .string ⟨#[]⟩] 38 (0, 0))
 sb : W.heap[Q + 1]? = some (.cells #[.string ⟨#[]⟩, sv, .slice none 0 0, .string ⟨#[]⟩] 25 (0, 0))
 eb : W.heap[Q + 2]? = some (.cells #[.string eB, .bool false, .int .i64 0, .int .i64 0, .string ⟨#[]⟩, .int .i64 0] 78 (0, 0))
 br : W.heap[Q + 3]? = some (.cells #[.string eB, rv, .int .i64 0] 74 (0, 0))
 g1 : GrowL base 64 4 dcR S1 W sv xs ds
 g2 : GrowL base 71 6 alR S2 W rv ys as'
 a1 : ∀ b, S1 b → base ≤ b
 a2 : ∀ b, S2 b → base ≤ b
 x1 : ∀ b, (S1 b ∨ sv.ownBlock = some b) → ¬ (S2 b ∨ rv.ownBlock = some b)
def smC (x : Sm) : List Value := [.string x.name, .bool x.lit, .int .i64 x.num, .int .i64 x.pos]
def ptC4 (p : Pt) : List Value := [.string p.sym.name, .bool p.sym.lit, .int .i64 p.sym.num, .int .i64 p.sym.pos, .string p.code, .int .i64 p.pos]
section
variable {w W W' X w7 : World} {base Q : Nat} {sv rv new : Value} {xs ys cs : List Value} {S1 S2 Sx : Nat → Prop} {ds : List Dc} {as' : List Al} {d : Dc} {al : Al}
theorem LvM.below (h : LvM w W base Q sv rv xs ys S1 S2 ds as') (hb : Below W.heap.size W W') : LvM w W' base Q sv rv xs ys S1 S2 ds as' :=
 ⟨h.low.trans (hb.mono h.low.size), Nat.le_trans h.sz hb.size, block_below h.rb hb (lt_of_block h.rb), block_below h.sb hb (lt_of_block h.sb), block_below h.eb hb (lt_of_block h.eb), block_below h.br hb (lt_of_block h.br), h.g1.below hb, h.g2.below hb, h.a1, h.a2, h.x1⟩
theorem LvM.push1 (h : LvM w W base Q sv rv xs ys S1 S2 ds as') (hQ : w.heap.size ≤ Q) (hq : Q + 4 ≤ base) (hbX : Below W.heap.size W X) (hx : Firm Sx X (fun V => dcR V cs d)) (hSx : ∀ b, Sx b → W.heap.size ≤ b)
  (hg : X.grownBy w7 sv.ownBlock) (ho : w7.ownsRow base 64 4 new (ds.length + 1) (xs ++ cs)) (hl : new.ownBlock = sv.ownBlock ∨ new.ownBlock = some X.heap.size) (hc : cs.length = 4) :
  LvM w (w7.setCell ⟨Q + 1, 1, none⟩ new) base Q new rv (xs ++ cs) ys (fun b => S1 b ∨ Sx b) S2 (ds ++ [d]) as' := by
 have hsz := h.sz
 have hown := h.g1.own
 have hbs := hbX.size
 have hn : ∀ k, sv.ownBlock = some k → ¬ Sx k := fun k hk hS => by have := (hown.lt k hk).2; have := hSx k hS; omega
 obtain ⟨p1, p2, p3, p4⟩ := h.g1.box (j := 1) hbX ho hg hl hc hx hn (show Q + 1 < base by omega) h.sb (fun b hb => by
  rcases hb with hb | hb
  · have := h.a1 b hb; omega
  · have := hSx b hb; omega)
 have far : ∀ b, b < X.heap.size → b ≠ Q + 1 → some b ≠ sv.ownBlock → (w7.setCell ⟨Q + 1, 1, none⟩ new).heap[b]? = X.heap[b]? := fun b h1 h2 h3 => (Below.heap_setCell _ _ _ b h2).trans (hg.block b h1 h3)
 have keepB : ∀ {b : Nat} {o : Obj}, W.heap[b]? = some o → b < base → b ≠ Q + 1 → (w7.setCell ⟨Q + 1, 1, none⟩ new).heap[b]? = some o := fun {b o} hb h1 h2 => by
  have hl := lt_of_block hb
  rw [far b (by omega) h2 (fun e => by have := (hown.lt b e.symm).1; omega)]
  exact block_below hb hbX hl
 refine ⟨?_, ?_, keepB h.rb (by omega) (by omega), p2, keepB h.eb (by omega) (by omega), keepB h.br (by omega) (by omega), p1, h.g2.keep (fun b hb => ?_), fun b hb => ?_, h.a2, fun b hb => ?_⟩
 · have hlo := h.low.size
   have q := ((h.low.trans (hbX.mono hlo)).grown hg (by omega) (fun k hk => by have := (hown.lt k hk).1; omega))
   exact q.setCell (p := ⟨Q + 1, 1, none⟩) (show w.heap.size ≤ Q + 1 by omega) new
 · have := (p3 (Q + 1) (Nat.le_refl _)).size
   omega
 · have hb2 : b < W.heap.size := hb.elim (h.g2.rows.1 b) (fun e => (h.g2.own.lt b e).2)
   have hb3 : base ≤ b := hb.elim (h.a2 b) (fun e => (h.g2.own.lt b e).1)
   rw [far b (by omega) (by omega) (fun e => h.x1 b (.inr e.symm) hb)]
   exact hbX.block b hb2
 · rcases hb with hb | hb
   · exact h.a1 b hb
   · have := hSx b hb; omega
 · intro hb2
   have hb3 : b < W.heap.size := hb2.elim (h.g2.rows.1 b) (fun e => (h.g2.own.lt b e).2)
   rcases hb with (hb | hb) | hb
   · exact h.x1 b (.inl hb) hb2
   · have := hSx b hb; omega
   · rcases hl with e | e
     · rw [e] at hb; exact h.x1 b (.inr hb) hb2
     · rw [e] at hb; have := Option.some.inj hb; omega
theorem LvM.push2 (h : LvM w W base Q sv rv xs ys S1 S2 ds as') (hQ : w.heap.size ≤ Q) (hq : Q + 4 ≤ base) (hbX : Below W.heap.size W X) (hx : Firm Sx X (fun V => alR V cs al)) (hSx : ∀ b, Sx b → W.heap.size ≤ b)
  (hg : X.grownBy w7 rv.ownBlock) (ho : w7.ownsRow base 71 6 new (as'.length + 1) (ys ++ cs)) (hl : new.ownBlock = rv.ownBlock ∨ new.ownBlock = some X.heap.size) (hc : cs.length = 6) :
  LvM w (w7.setCell ⟨Q + 3, 1, none⟩ new) base Q sv new xs (ys ++ cs) S1 (fun b => S2 b ∨ Sx b) ds (as' ++ [al]) := by
 have hsz := h.sz
 have hown := h.g2.own
 have hbs := hbX.size
 have hn : ∀ k, rv.ownBlock = some k → ¬ Sx k := fun k hk hS => by have := (hown.lt k hk).2; have := hSx k hS; omega
 obtain ⟨p1, p2, p3, p4⟩ := h.g2.box (j := 1) hbX ho hg hl hc hx hn (show Q + 3 < base by omega) h.br (fun b hb => by
  rcases hb with hb | hb
  · have := h.a2 b hb; omega
  · have := hSx b hb; omega)
 have far : ∀ b, b < X.heap.size → b ≠ Q + 3 → some b ≠ rv.ownBlock → (w7.setCell ⟨Q + 3, 1, none⟩ new).heap[b]? = X.heap[b]? := fun b h1 h2 h3 => (Below.heap_setCell _ _ _ b h2).trans (hg.block b h1 h3)
 have keepB : ∀ {b : Nat} {o : Obj}, W.heap[b]? = some o → b < base → b ≠ Q + 3 → (w7.setCell ⟨Q + 3, 1, none⟩ new).heap[b]? = some o := fun {b o} hb h1 h2 => by
  have hl := lt_of_block hb
  rw [far b (by omega) h2 (fun e => by have := (hown.lt b e.symm).1; omega)]
  exact block_below hb hbX hl
 refine ⟨?_, ?_, keepB h.rb (by omega) (by omega), keepB h.sb (by omega) (by omega), keepB h.eb (by omega) (by omega), p2, h.g1.keep (fun b hb => ?_), p1, h.a1, fun b hb => ?_, fun b hb => ?_⟩
 · have hlo := h.low.size
   have q := ((h.low.trans (hbX.mono hlo)).grown hg (by omega) (fun k hk => by have := (hown.lt k hk).1; omega))
   exact q.setCell (p := ⟨Q + 3, 1, none⟩) (show w.heap.size ≤ Q + 3 by omega) new
 · have := (p3 (Q + 3) (Nat.le_refl _)).size
   omega
 · have hb2 : b < W.heap.size := hb.elim (h.g1.rows.1 b) (fun e => (h.g1.own.lt b e).2)
   have hb3 : base ≤ b := hb.elim (h.a1 b) (fun e => (h.g1.own.lt b e).1)
   rw [far b (by omega) (by omega) (fun e => h.x1 b hb (.inr e.symm))]
   exact hbX.block b hb2
 · rcases hb with hb | hb
   · exact h.a2 b hb
   · have := hSx b hb; omega
 · intro hb2
   have hb3 : b < W.heap.size := hb.elim (h.g1.rows.1 b) (fun e => (h.g1.own.lt b e).2)
   rcases hb2 with (hb2 | hb2) | hb2
   · exact h.x1 b hb (.inl hb2)
   · have := hSx b hb2; omega
   · rcases hl with e | e
     · rw [e] at hb2; exact h.x1 b hb (.inr hb2)
     · rw [e] at hb2; have := Option.some.inj hb2; omega
theorem lv_flat {α : Type} (f : α → List Value) (k : Nat) (hf : ∀ x, (f x).length = k) : ∀ l : List α, (l.flatMap f).length = l.length * k
 | [] => by simp
 | a :: l => by rw [List.flatMap_cons, List.length_append, hf, lv_flat f k hf l, List.length_cons, Nat.succ_mul]; omega
theorem sms_lit (w : World) (l : List Sm) (cs : Array Value) (hcs : cs.toList = l.flatMap smC) (hl : l.length ≤ 100) : Firm (fun b => b = w.heap.size) (w.alloc (.cells cs 68)) (fun V => SmsV V (.slice (some ⟨w.heap.size, 0, none⟩) l.length l.length) l) := by
 have ho : (w.alloc (.cells cs 68)).ownsRow w.heap.size 68 4 (.slice (some ⟨w.heap.size, 0, none⟩) l.length l.length) l.length (l.flatMap smC) := by
  rw [← hcs]
  exact World.ownsRow_lit (base := w.heap.size) (size := 4) (e := 68) w cs l.length (Nat.le_refl _) (by unfold maxLen; omega) (by rw [← Array.length_toList, hcs]; exact lv_flat smC 4 (fun _ => rfl) l)
 have := own_firm (f := smC) (fun _ => rfl) (by omega) ho
 exact this.wide (fun b hb => (Option.some.inj hb).symm) (fun b hb => by subst hb; simp)
theorem pts_lit (w : World) (l : List Pt) (cs : Array Value) (hcs : cs.toList = l.flatMap ptC4) (hl : l.length ≤ 100) : Firm (fun b => b = w.heap.size) (w.alloc (.cells cs 78)) (fun V => PtsV V (.slice (some ⟨w.heap.size, 0, none⟩) l.length l.length) l) := by
 have ho : (w.alloc (.cells cs 78)).ownsRow w.heap.size 78 6 (.slice (some ⟨w.heap.size, 0, none⟩) l.length l.length) l.length (l.flatMap ptC4) := by
  rw [← hcs]
  exact World.ownsRow_lit (base := w.heap.size) (size := 6) (e := 78) w cs l.length (Nat.le_refl _) (by unfold maxLen; omega) (by rw [← Array.length_toList, hcs]; exact lv_flat ptC4 6 (fun _ => rfl) l)
 have := own_firm (f := ptC4) (fun _ => rfl) (by omega) ho
 exact this.wide (fun b hb => (Option.some.inj hb).symm) (fun b hb => by subst hb; simp)
theorem lv_one {w : World} {B : Nat} {cs : Array Value} {T : TypeId} {x : Rl} (h : w.heap[B]? = some (.cells cs T (0, 0))) (hR : rlR w cs.toList x) (hs : cs.size = 3 := by rfl) : RlsV w (.slice (some ⟨B, 0, none⟩) 1 1) [x] := by
 refine ⟨_, 1, rfl, Nat.le_refl _, by omega, fun e => (by cases e), fun i y hy => ?_⟩
 obtain rfl : i = 0 := by have := (List.getElem?_eq_some_iff.1 hy).1; simp at this; omega
 obtain rfl : x = y := by simpa using hy
 refine ⟨B, 0, cs.toList, rfl, by simpa using hs, hR, fun j hj => ?_⟩
 rw [show 0 + 0 * 3 + j = j by omega, cell_of_row w B j cs T (0, 0) h, List.getD_eq_getElem?_getD, Array.getElem?_toList, Array.getElem?_eq_getElem (by omega)]; rfl
theorem tB_small {i m : Nat} (h : i + 2 ≤ m) : (tB i).size ≤ m := by
 have h1 := digT_size i
 have : (tB i).size = 1 + (digT i).size := by unfold tB; rw [ByteArray.size_append]; rfl
 omega
theorem levS_small (kinds : List Int) {o s : Nat} (ho : o ≤ 900000) (hs : s ≤ 900000) : SoSmall (levS kinds o s) ∧ SoB (levS kinds o s) := by
 have hz : (⟨#[]⟩ : ByteArray).size ≤ 1000000 := by decide
 have hz2 : (ByteArray.empty : ByteArray).size ≤ 1000000 := by decide
 have he : eB.size ≤ 1000000 := by decide
 have hx : xB.size ≤ 1000000 := by decide
 have hn9 : min kinds.length 9 ≤ 9 := Nat.min_le_right _ _
 have hA : ∀ a ∈ (List.range (min kinds.length 9)).map lvA ++ [lvX] ++ (if 0 < min kinds.length 9 then [lvL o s] else []), AlSmall a ∧ a.parts.length ≤ 100 := fun a ha => by
  rcases List.mem_append.1 ha with h1 | h1
  · rcases List.mem_append.1 h1 with h2 | h2
    · obtain ⟨i, hi, rfl⟩ := List.mem_map.1 h2
      have hi := List.mem_range.1 hi
      have ht : (tB i).size ≤ 1000000 := tB_small (by omega)
      refine ⟨⟨fun p hp => ?_, hz2⟩, by show 3 ≤ 100; decide⟩
      simp only [lvA, List.mem_cons, List.not_mem_nil, or_false] at hp
      rcases hp with rfl | rfl | rfl
      · exact ⟨he, hz2⟩
      · exact ⟨ht, hz2⟩
      · exact ⟨he, hz2⟩
    · simp only [List.mem_singleton] at h2
      subst h2
      refine ⟨⟨fun p hp => ?_, hz2⟩, by show 1 ≤ 100; decide⟩
      simp only [lvX, List.mem_singleton] at hp
      subst hp
      exact ⟨hx, hz2⟩
  · split at h1
    · simp only [List.mem_singleton] at h1
      subst h1
      refine ⟨⟨fun p hp => ?_, tB_small (by omega)⟩, by show 2 ≤ 100; decide⟩
      simp only [lvL, List.mem_cons, List.not_mem_nil, or_false] at hp
      rcases hp with rfl | rfl
      · exact ⟨tB_small (by omega), hz2⟩
      · exact ⟨he, hz2⟩
    · simp at h1
 have hD : ∀ d ∈ (levS kinds o s).decls, ∃ i, i < 9 ∧ d = lvD kinds i := fun d hd => by
  obtain ⟨i, hi, rfl⟩ := List.mem_map.1 (show d ∈ (List.range (min kinds.length 9)).map (lvD kinds) from hd)
  exact ⟨i, by have := List.mem_range.1 hi; omega, rfl⟩
 have hR : ∀ r ∈ (levS kinds o s).rules, r = ⟨eB, (List.range (min kinds.length 9)).map lvA ++ [lvX] ++ (if 0 < min kinds.length 9 then [lvL o s] else []), 0⟩ := fun r hr => by
  exact List.mem_singleton.1 hr
 refine ⟨⟨hz, hz, fun d hd => ?_, fun r hr => ?_⟩, ⟨?_, fun d hd => ?_, by show 1 ≤ 300; decide, fun r hr => ?_⟩⟩
 · obtain ⟨i, hi, rfl⟩ := hD d hd
   refine ⟨hz, fun x hx => ?_⟩
   simp only [lvD, List.mem_singleton] at hx
   subst hx
   exact tB_small (by omega)
 · rw [hR r hr]
   exact ⟨he, fun a ha => (hA a ha).1⟩
 · show ((List.range (min kinds.length 9)).map (lvD kinds)).length ≤ 300
   simp; omega
 · obtain ⟨i, hi, rfl⟩ := hD d hd
   show 1 ≤ 300; decide
 · rw [hR r hr]
   refine ⟨?_, fun a ha => (hA a ha).2⟩
   show (_ ++ _ ++ _ : List Al).length ≤ 20
   rw [List.length_append, List.length_append, List.length_map, List.length_range]
   split <;> simp <;> omega
end
end Go.Proofs.Ytkgbifbbpmdpgaa
