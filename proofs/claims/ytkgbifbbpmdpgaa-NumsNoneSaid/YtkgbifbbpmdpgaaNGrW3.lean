/- Grammars by numbers: rows of growing lists, symbols, declarations, walked. -/
import Derived.Test.YtkgbifbbpmdpgaaNBox
import Derived.Deep.RegionLaw
set_option linter.unusedVariables false
set_option linter.unusedSimpArgs false
namespace Go.Proofs.Ytkgbifbbpmdpgaa

section
open Go.RowKit
theorem GrowL.widen {α : Type} {base : Nat} {E : TypeId} {size : Nat} {R : World → List Value → α → Prop} {S S' : Nat → Prop} {w : World} {v : Value} {xs : List Value} {l : List α} (h : GrowL base E size R S w v xs l)
  (hs : ∀ b, S b → S' b) (hl : ∀ b, S' b → b < w.heap.size) (hn : ∀ k, v.ownBlock = some k → ¬ S' k) : GrowL base E size R S' w v xs l := ⟨h.own, h.rows.wide hs hl, hn⟩
structure GrowRow {α : Type} (base : Nat) (E : TypeId) (size j : Nat) (E2 : TypeId) (size2 : Nat) (R2 : World → List Value → α → Prop) (S : Nat → Prop) (w : World) (v : Value) (xs : List Value) (ll : List (List α)) : Prop where
 own : w.ownsRow base E size v ll.length xs
 each : ∀ i l, ll[i]? = some l → ∃ u ys, xs[i * size + j]? = some u ∧ GrowL base E2 size2 R2 S w u ys l
 top : ∀ i u b, i < ll.length → xs[i * size + j]? = some u → u.ownBlock = some b → v.ownBlock ≠ some b
 two : ∀ i i' u u' b, i < ll.length → i' < ll.length → i ≠ i' → xs[i * size + j]? = some u → xs[i' * size + j]? = some u' → u.ownBlock = some b → u'.ownBlock ≠ some b
 apart : ∀ b, v.ownBlock = some b → ¬ S b
 low : ∀ b, S b → base ≤ b ∧ b < w.heap.size
section
variable {α : Type} {base : Nat} {E : TypeId} {size j : Nat} {E2 : TypeId} {size2 : Nat} {R2 : World → List Value → α → Prop} {S S' : Nat → Prop} {w w' w5 : World} {v new : Value} {xs cs ys : List Value} {ll : List (List α)}
theorem idx_ne {size j i i' : Nat} (hj : j < size) (h : i ≠ i') : i * size + j ≠ i' * size + j := fun e => h (Nat.eq_of_mul_eq_mul_right (by omega) (by omega : i * size = i' * size))
theorem idx_lt {size j i n : Nat} (hj : j < size) (h : i < n) : i * size + j < n * size := by
 have := Nat.mul_le_mul_right size (show i + 1 ≤ n by omega)
 rw [Nat.succ_mul] at this; omega
theorem GrowRow.nil (base : Nat) (E : TypeId) (size j : Nat) (E2 : TypeId) (size2 : Nat) (R2 : World → List Value → α → Prop) (w : World) : GrowRow base E size j E2 size2 R2 (fun _ => False) w (.slice none 0 0) [] [] :=
 ⟨World.ownsRow_nil _ _ _ _, fun i l h => by simp at h, fun i u b h => by simp at h, fun i i' u u' b h => by simp at h, fun b h => by simp [Value.ownBlock] at h, fun b h => h.elim⟩
theorem GrowRow.keep (h : GrowRow base E size j E2 size2 R2 S w v xs ll) (hk : ∀ b, base ≤ b → b < w.heap.size → w'.heap[b]? = w.heap[b]?) (hs : w.heap.size ≤ w'.heap.size) : GrowRow base E size j E2 size2 R2 S w' v xs ll := by
 refine ⟨row_kept h.own (fun k e => ?_), fun i l hl => ?_, h.top, h.two, h.apart, fun b hb => ⟨(h.low b hb).1, Nat.lt_of_lt_of_le (h.low b hb).2 hs⟩⟩
 · have := h.own.lt k e
   exact hk k this.1 this.2
 · obtain ⟨u, ys, h1, h2⟩ := h.each i l hl
   refine ⟨u, ys, h1, h2.keep (fun b hb => ?_)⟩
   rcases hb with hb | hb
   · exact hk b (h.low b hb).1 (h.low b hb).2
   · have := h2.own.lt b hb
     exact hk b this.1 this.2
theorem GrowRow.below (h : GrowRow base E size j E2 size2 R2 S w v xs ll) (hb : Below w.heap.size w w') : GrowRow base E size j E2 size2 R2 S w' v xs ll := h.keep (fun b _ hlt => hb.block b hlt) hb.size
theorem GrowRow.widen (h : GrowRow base E size j E2 size2 R2 S w v xs ll) (hs : ∀ b, S b → S' b) (hl : ∀ b, S' b → base ≤ b ∧ b < w.heap.size) (hv : ∀ b, v.ownBlock = some b → ¬ S' b)
  (hn : ∀ i u b, i < ll.length → xs[i * size + j]? = some u → u.ownBlock = some b → ¬ S' b) : GrowRow base E size j E2 size2 R2 S' w v xs ll :=
 ⟨h.own, fun i l hi => by
  obtain ⟨u, ys, h1, h2⟩ := h.each i l hi
  exact ⟨u, ys, h1, h2.widen hs (fun b hb => (hl b hb).2) (fun k hk => hn i u k (List.getElem?_eq_some_iff.1 hi).1 h1 hk)⟩, h.top, h.two, hv, hl⟩
theorem GrowRow.push {u : Value} {l : List α} (h : GrowRow base E size j E2 size2 R2 S w v xs ll) (hj : j < size) (ho : w5.ownsRow base E size new (ll.length + 1) (xs ++ cs)) (hg : w.grownBy w5 v.ownBlock)
  (hl : new.ownBlock = v.ownBlock ∨ new.ownBlock = some w.heap.size) (hc : cs.length = size) (hu : cs[j]? = some u) (hU : GrowL base E2 size2 R2 S w u ys l)
  (hv : ∀ b, u.ownBlock = some b → v.ownBlock ≠ some b) (hn : ∀ i u' b, i < ll.length → xs[i * size + j]? = some u' → u.ownBlock = some b → u'.ownBlock ≠ some b) :
  GrowRow base E size j E2 size2 R2 S w5 new (xs ++ cs) (ll ++ [l]) := by
 have hlen : xs.length = ll.length * size := h.own.1
 have hold : ∀ i, i < ll.length → (xs ++ cs)[i * size + j]? = xs[i * size + j]? := fun i hi => List.getElem?_append_left (by rw [hlen]; exact idx_lt hj hi)
 have hnew : (xs ++ cs)[ll.length * size + j]? = some u := by rw [List.getElem?_append_right (by omega), show ll.length * size + j - xs.length = j by omega]; exact hu
 have hlt : ∀ (u' : Value) (ys' : List Value) (l' : List α), GrowL base E2 size2 R2 S w u' ys' l' → (∀ b, u'.ownBlock = some b → v.ownBlock ≠ some b) → GrowL base E2 size2 R2 S w5 u' ys' l' := fun u' ys' l' h1 h2 => h1.keep (fun b hb => by
  rcases hb with hb | hb
  · exact hg.block b (h.low b hb).2 (fun e => h.apart b e.symm hb)
  · exact hg.block b (h1.own.lt b hb).2 (fun e => h2 b hb e.symm))
 have hsz := hg.size
 have hnewne : ∀ (u' : Value) (b : Nat), (∀ b, u'.ownBlock = some b → v.ownBlock ≠ some b ∧ b < w.heap.size) → u'.ownBlock = some b → new.ownBlock ≠ some b := fun u' b h1 h2 h3 => by
  rcases hl with e | e
  · exact (h1 b h2).1 (by rw [← e]; exact h3)
  · rw [e] at h3
    cases h3
    exact Nat.lt_irrefl _ (h1 _ h2).2
 refine ⟨by rw [List.length_append]; exact ho, fun i l' hi => ?_, fun i u' b hi hx hb => ?_, fun i i' u1 u2 b hi hi' hne hx hx' hb => ?_, fun b hb => ?_, fun b hb => ⟨(h.low b hb).1, Nat.lt_of_lt_of_le (h.low b hb).2 hsz⟩⟩
 · by_cases hlt2 : i < ll.length
   · rw [List.getElem?_append_left hlt2] at hi
     obtain ⟨u', ys', h1, h2⟩ := h.each i l' hi
     exact ⟨u', ys', by rw [hold i hlt2]; exact h1, hlt u' ys' l' h2 (fun b hb => h.top i u' b hlt2 h1 hb)⟩
   · have hi2 : i = ll.length := by
      have := (List.getElem?_eq_some_iff.1 hi).1
      simp at this; omega
     subst hi2
     simp at hi
     subst hi
     exact ⟨u, ys, hnew, hlt u ys l hU hv⟩
 · by_cases hlt2 : i < ll.length
   · rw [hold i hlt2] at hx
     obtain ⟨u0, ys0, h1, h2⟩ := h.each i _ (List.getElem?_eq_getElem hlt2)
     rw [hx] at h1
     cases h1
     exact hnewne u' b (fun b hb => ⟨h.top i u' b hlt2 hx hb, (h2.own.lt b hb).2⟩) hb
   · have hi2 : i = ll.length := by simp at hi; omega
     subst hi2
     rw [hnew] at hx
     cases hx
     exact hnewne u b (fun b hb => ⟨hv b hb, (hU.own.lt b hb).2⟩) hb
 · by_cases h1 : i < ll.length
   · rw [hold i h1] at hx
     by_cases h2 : i' < ll.length
     · rw [hold i' h2] at hx'
       exact h.two i i' u1 u2 b h1 h2 hne hx hx' hb
     · have : i' = ll.length := by simp at hi'; omega
       subst this
       rw [hnew] at hx'
       cases hx'
       exact fun e => hn i u1 b h1 hx e hb
   · have : i = ll.length := by simp at hi; omega
     subst this
     rw [hnew] at hx
     cases hx
     have h2 : i' < ll.length := by simp at hi'; omega
     rw [hold i' h2] at hx'
     exact hn i' u2 b h2 hx' hb
 · intro hS
   rcases hl with e | e
   · exact h.apart b (by rw [← e]; exact hb) hS
   · rw [e] at hb
     cases hb
     exact Nat.lt_irrefl _ (h.low _ hS).2
theorem GrowRow.more {u : Value} {l : List α} {x : α} {i g n cap : Nat} (h : GrowRow base E size j E2 size2 R2 S w v xs ll) (hj : j < size) (hv : v = .slice (some ⟨g, 0, none⟩) n cap) (hi : ll[i]? = some l) (hu : xs[i * size + j]? = some u)
  (ho : w5.ownsRow base E2 size2 new (l.length + 1) (ys ++ cs)) (hys : GrowL base E2 size2 R2 S w u ys l) (hg : w.grownBy w5 u.ownBlock) (hl : new.ownBlock = u.ownBlock ∨ new.ownBlock = some w.heap.size) (hc : cs.length = size2)
  (hx : Firm S' w (fun w' => R2 w' cs x)) (hS : ∀ b, S' b → base ≤ b ∧ v.ownBlock ≠ some b ∧ ∀ i' u', i' < ll.length → xs[i' * size + j]? = some u' → u'.ownBlock ≠ some b) :
  GrowRow base E size j E2 size2 R2 (fun b => S b ∨ S' b) (w5.setCell ⟨g, i * size + j, none⟩ new) v (xs.set (i * size + j) new) (ll.set i (l ++ [x])) ∧
  (∀ D, D ≤ base → Below D w (w5.setCell ⟨g, i * size + j, none⟩ new)) := by
 have hi2 := (List.getElem?_eq_some_iff.1 hi).1
 have hlen : xs.length = ll.length * size := h.own.1
 have hvo : v.ownBlock = some g := by rw [hv]; rfl
 have hgb := h.own.lt g hvo
 have hug : ∀ b, u.ownBlock = some b → b ≠ g := fun b hb e => h.top i u b hi2 hu hb (by rw [hvo, e])
 have hnn : ll.length = n := by
  rcases h.own.2 with ⟨h0, _⟩ | ⟨g', cap', cur, h0, _⟩
  · rw [hv] at h0; cases h0
  · rw [hv] at h0; cases h0; rfl
 have hrow5 : w5.ownsRow base E size v ll.length xs := row_kept h.own (fun k e => hg.block k (h.own.lt k e).2 (fun e2 => by
  rw [hvo] at e; cases e
  exact hug _ e2.symm rfl))
 rw [hv, hnn] at hrow5
 obtain ⟨hst, hgs⟩ := hrow5.stored (i * size + j) new
 have hnewg : ∀ b, new.ownBlock = some b → b ≠ g := fun b hb e => by
  rcases hl with e2 | e2
  · exact hug b (by rw [← e2]; exact hb) e
  · rw [e2] at hb; cases hb
    omega
 have hSlt : ∀ b, S' b → b < w.heap.size := hx.1
 have hset : ∀ b, b ≠ g → (w5.setCell ⟨g, i * size + j, none⟩ new).heap[b]? = w5.heap[b]? := fun b hb => Below.heap_setCell _ _ _ _ hb
 have hsz := hg.size
 have hszs : (w5.setCell ⟨g, i * size + j, none⟩ new).heap.size = w5.heap.size := by simp
 have hfar : ∀ b, b < w.heap.size → b ≠ g → u.ownBlock ≠ some b → (w5.setCell ⟨g, i * size + j, none⟩ new).heap[b]? = w.heap[b]? := fun b h1 h2 h3 => (hset b h2).trans (hg.block b h1 (fun e => h3 e.symm))
 have hSg : ∀ b, S' b → b ≠ g := fun b hb e => (hS b hb).2.1 (by rw [hvo, e])
 have hSg0 : ∀ b, S b → b ≠ g := fun b hb e => h.apart g hvo (e ▸ hb)
 have hSu : ∀ b, S' b → u.ownBlock ≠ some b := fun b hb => (hS b hb).2.2 i u hi2 hu
 have hidx : ∀ i', i' ≠ i → (xs.set (i * size + j) new)[i' * size + j]? = xs[i' * size + j]? := fun i' hne => List.getElem?_set_ne (fun e => idx_ne hj (Ne.symm hne) e)
 have hidx0 : (xs.set (i * size + j) new)[i * size + j]? = some new := List.getElem?_set_self (by rw [hlen]; exact idx_lt hj hi2)
 have hlen2 : (ll.set i (l ++ [x])).length = ll.length := List.length_set
 have hp := hys.push ho hg hl hc hx (fun k hk hS' => hSu k hS' hk)
 have hSS : ∀ b, (S b ∨ S' b) → b < w.heap.size := fun b hb => hb.elim (fun h' => (h.low b h').2) (hSlt b)
 have hnewlt : ∀ b, new.ownBlock = some b → b < (w5.setCell ⟨g, i * size + j, none⟩ new).heap.size := fun b hb => by
  rw [hszs]; exact (ho.lt b hb).2
 have hgood : ∀ i' u', i' < ll.length → i' ≠ i → xs[i' * size + j]? = some u' → ∀ b, u'.ownBlock = some b → b < w.heap.size ∧ b ≠ g ∧ u.ownBlock ≠ some b ∧ new.ownBlock ≠ some b := fun i' u' hi' hne hx' b hb => by
  obtain ⟨u0, ys0, h1, h2⟩ := h.each i' _ (List.getElem?_eq_getElem hi')
  rw [hx'] at h1
  cases h1
  have h3 := (h2.own.lt b hb).2
  refine ⟨h3, fun e => h.top i' u' b hi' hx' hb (by rw [hvo, e]), fun e => h.two i i' u u' b hi2 hi' (Ne.symm hne) hu hx' e hb, fun e => ?_⟩
  rcases hl with e2 | e2
  · exact h.two i i' u u' b hi2 hi' (Ne.symm hne) hu hx' (by rw [← e2]; exact e) hb
  · rw [e2] at e; cases e; omega
 constructor
 · refine ⟨?_, fun i' l' hl' => ?_, fun i' u' b hi' hx' hb => ?_, fun i1 i2 u1 u2 b h1 h2 hne hx1 hx2 hb => ?_, fun b hb => ?_, fun b hb => ?_⟩
   · rw [hlen2, hnn, hv]; exact hst
   · by_cases he : i' = i
     · subst he
       rw [List.getElem?_set_self hi2] at hl'
       cases hl'
       refine ⟨new, _, hidx0, hp.keep (fun b hb => hset b ?_)⟩
       rcases hb with (hb | hb) | hb
       · exact hSg0 b hb
       · exact hSg b hb
       · exact hnewg b hb
     · rw [List.getElem?_set_ne (Ne.symm he)] at hl'
       obtain ⟨u', ys', h1, h2⟩ := h.each i' l' hl'
       have hi' := (List.getElem?_eq_some_iff.1 hl').1
       have hq := hgood i' u' hi' he h1
       refine ⟨u', ys', by rw [hidx i' he]; exact h1, ?_⟩
       have h3 : GrowL base E2 size2 R2 (fun b => S b ∨ S' b) w u' ys' l' := h2.widen (fun b hb => .inl hb) hSS (fun k hk hS' => hS'.elim (h2.apart k hk) (fun hS'' => (hS k hS'').2.2 i' u' hi' h1 hk))
       refine h3.keep (fun b hb => hfar b ?_ ?_ ?_)
       · rcases hb with hb | hb
         · exact hSS b hb
         · exact (hq b hb).1
       · rcases hb with (hb | hb) | hb
         · exact hSg0 b hb
         · exact hSg b hb
         · exact (hq b hb).2.1
       · rcases hb with (hb | hb) | hb
         · exact fun e => hys.apart b e hb
         · exact hSu b hb
         · exact (hq b hb).2.2.1
   · rw [hlen2] at hi'
     rw [hvo]
     by_cases he : i' = i
     · subst he
       rw [hidx0] at hx'
       cases hx'
       exact fun e => hnewg b hb (by cases e; rfl)
     · rw [hidx i' he] at hx'
       exact fun e => (hgood i' u' hi' he hx' b hb).2.1 (by cases e; rfl)
   · rw [hlen2] at h1 h2
     by_cases he1 : i1 = i
     · subst he1
       rw [hidx0] at hx1
       cases hx1
       rw [hidx i2 (Ne.symm hne)] at hx2
       exact fun e => (hgood i2 u2 h2 (Ne.symm hne) hx2 b e).2.2.2 hb
     · rw [hidx i1 he1] at hx1
       by_cases he2 : i2 = i
       · subst he2
         rw [hidx0] at hx2
         cases hx2
         exact (hgood i1 u1 h1 he1 hx1 b hb).2.2.2
       · rw [hidx i2 he2] at hx2
         exact h.two i1 i2 u1 u2 b h1 h2 hne hx1 hx2 hb
   · exact fun hS' => hS'.elim (h.apart b hb) (fun h' => (hS b h').2.1 hb)
   · refine ⟨hb.elim (fun h' => (h.low b h').1) (fun h' => (hS b h').1), ?_⟩
     have := hSS b hb
     omega
 · intro D hD
   have h1 := hgb
   have hub : ∀ k, u.ownBlock = some k → D ≤ k := fun k hk => Nat.le_trans hD (hys.own.lt k hk).1
   exact ((Below.refl D w).grown hg (by omega) hub).setCell (p := ⟨g, i * size + j, none⟩) (by show D ≤ g; omega) new
theorem GrowRow.list {β : Type} {R : World → List Value → β → Prop} {items : List β} (h : GrowRow base E size j E2 size2 R2 S w v xs ll) (hs : 0 < size) (hs2 : 0 < size2) (hl : items.length = ll.length)
  (hR : ∀ i y l u, items[i]? = some y → ll[i]? = some l → xs[i * size + j]? = some u → ListV size2 R2 w u l → R w ((xs.drop (i * size)).take size) y) : ListV size R w v items := by
 obtain ⟨h1, h2⟩ := h.own
 rcases h2 with ⟨rfl, h0⟩ | ⟨g, cap, cur, rfl, hg, hh, hn, hc, hsz, ht⟩
 · rw [← hl] at h0
   obtain rfl := List.eq_nil_of_length_eq_zero h0
   exact ListV.nil _ _ _
 · refine ⟨_, cap, by rw [hl], by rw [hl]; exact hn, by unfold maxLen at hc; omega, fun e => (by cases e), fun i x hx => ?_⟩
   have hi : i < ll.length := by rw [← hl]; exact (List.getElem?_eq_some_iff.1 hx).1
   have hm : i * size + size ≤ ll.length * size := by
    have := Nat.mul_le_mul_right size (show i + 1 ≤ ll.length by omega)
    rw [Nat.succ_mul] at this; exact this
   obtain ⟨u, ys, e1, e2⟩ := h.each i _ (List.getElem?_eq_getElem hi)
   refine ⟨g, 0, _, rfl, ?_, hR i x _ u hx (List.getElem?_eq_getElem hi) e1 (e2.list hs2), fun q hq => ?_⟩
   · rw [List.length_take, List.length_drop]; omega
   · have hlt : i * size + q < xs.length := by omega
     rw [Nat.zero_add, h.own.cellAt _ (by omega), List.getD_eq_getElem?_getD, getElem?_flat i q hq, List.getElem?_eq_getElem hlt]; rfl
theorem GrowRow.slice (h : GrowRow base E size j E2 size2 R2 S w v xs ll) : ∃ a c, v = .slice a ll.length c := by
 rcases h.own.2 with ⟨rfl, h0⟩ | ⟨g, cap, cur, rfl, _⟩
 · exact ⟨none, 0, by rw [h0]⟩
 · exact ⟨_, _, rfl⟩
end
end
section
open Go.RowKit
structure Gr where
 nons : Int
 rules : List (List Int)
 levels : List Int
 inner : List Int
 bare : Bool
def gNonB (k : Nat) : ByteArray := ⟨#[UInt8.ofNat (97 + k)]⟩
def gLetB (k : Nat) : ByteArray := ⟨#[UInt8.ofNat (112 + k % 4)]⟩
def gErrB : ByteArray := ⟨#[101, 114, 114, 111, 114]⟩
def nameG (b : ByteArray) : Sm := ⟨b, false, 0, 0⟩
def litG (k : Nat) : Sm := ⟨gLetB k, true, 0, 0⟩
def symQ (q nons : Nat) : Sm := if q < 5 then nameG (gNonB (q % nons)) else if q = 13 then nameG gErrB else litG (q - 5)
def symG (x : Int) (nons : Nat) : Sm := symQ (x % 14).toNat nons
def dStep (st : List (Int × List Sm)) (i q : Nat) : List (Int × List Sm) :=
 if q % 4 = 0 then st else if 4 < q ∧ 0 < st.length then st.set (st.length - 1) ((st.getD (st.length - 1) (0, [])).1, (st.getD (st.length - 1) (0, [])).2 ++ [litG i]) else st ++ [(1 + ((q % 4 : Nat) : Int), [litG i])]
def dSt (l : List Int) : Nat → List (Int × List Sm)
 | 0 => []
 | i + 1 => dStep (dSt l i) i (l.getD i 0 % 8).toNat
def dcOf (p : Int × List Sm) : Dc := ⟨p.1, ByteArray.empty, p.2, 0⟩
def declsG (l : List Int) : List Dc := (dSt l (min l.length 4)).map dcOf
def codeA : ByteArray := ⟨#[123, 36, 36, 32, 61, 32, 36, 49, 125]⟩
def codeB : ByteArray := ⟨#[123, 102, 40, 36, 36, 41, 125]⟩
def ptS (x : Sm) : Pt := ⟨x, ByteArray.empty, 0⟩
def ptC (c : ByteArray) : Pt := ⟨noSm, c, 0⟩
def innA (inner : List Int) (i : Nat) : Bool := decide (i < inner.length) && (Int.tmod (inner.getD i 0) 3 == 1)
def innB (inner : List Int) (i : Nat) : Bool := decide (i < inner.length) && (Int.tmod (inner.getD i 0) 2 != 0)
def partsG (nons : Nat) (row : List Int) (ia : Bool) : Nat → List Pt
 | 0 => []
 | c + 1 => partsG nons row ia c ++ [ptS (symG (row.getD (c + 1) 0) nons)] ++ (if c = 0 ∧ ia = true then [ptC codeA] else [])
def plainS (x : Sm) : Bool := x.lit || (x.name.toList == gErrB.toList)
def plainG (nons : Nat) (row : List Int) : Nat → Bool
 | 0 => true
 | c + 1 => plainG nons row c && plainS (symG (row.getD (c + 1) 0) nons)
def altG (nons : Nat) (row : List Int) (ia ib : Bool) : Al := ⟨partsG nons row ia (min row.length 5 - 1) ++ (if ib = true then [ptC codeB] else []), noSm, 0⟩
abbrev RSt := List (List Al) × List Bool
def rStep (nons : Nat) (row : List Int) (ia ib : Bool) (st : RSt) : RSt :=
 if row.length = 0 then st else
  let k := (row.getD 0 0 % (nons : Int)).toNat
  (st.1.set k (st.1.getD k [] ++ [altG nons row ia ib]), st.2.set k (st.2.getD k false || plainG nons row (min row.length 5 - 1)))
def rSt (g : Gr) (nons : Nat) : Nat → RSt
 | 0 => (List.replicate nons [], List.replicate nons false)
 | i + 1 => rStep nons (g.rules.getD i []) (innA g.inner i) (innB g.inner i) (rSt g nons i)
def litA (i : Nat) : Al := ⟨[ptS (litG i)], noSm, 0⟩
def fStep (has : List Bool) (bare : Bool) (i : Nat) (als : List (List Al)) : List (List Al) :=
 if (als.getD i []).length = 0 ∨ (has.getD i false = false ∧ bare = false) then als.set i (als.getD i [] ++ [litA i]) else als
def fSt (has : List Bool) (bare : Bool) (als : List (List Al)) : Nat → List (List Al)
 | 0 => als
 | i + 1 => fStep has bare i (fSt has bare als i)
def nonsG (g : Gr) : Nat := 1 + (g.nons % 4).toNat
def rlG (als : List (List Al)) (i : Nat) : Rl := ⟨gNonB i, als.getD i [], 0⟩
def alsG (g : Gr) : List (List Al) := fSt (rSt g (nonsG g) (min g.rules.length 9)).2 g.bare (rSt g (nonsG g) (min g.rules.length 9)).1 (nonsG g)
def srcG (g : Gr) : So := ⟨ByteArray.empty, declsG g.levels, (List.range (nonsG g)).map (rlG (alsG g)), ByteArray.empty⟩
theorem rSt_len (g : Gr) (nons : Nat) : ∀ i, (rSt g nons i).1.length = nons ∧ (rSt g nons i).2.length = nons
 | 0 => by simp [rSt]
 | i + 1 => by
   obtain ⟨h1, h2⟩ := rSt_len g nons i
   show (rStep _ _ _ _ _).1.length = _ ∧ (rStep _ _ _ _ _).2.length = _
   unfold rStep
   split
   · exact ⟨h1, h2⟩
   · simp [h1, h2]
theorem fSt_len (has : List Bool) (bare : Bool) (als : List (List Al)) : ∀ i, (fSt has bare als i).length = als.length
 | 0 => rfl
 | i + 1 => by
   show (fStep _ _ _ _).length = _
   unfold fStep
   split
   · rw [List.length_set, fSt_len has bare als i]
   · exact fSt_len has bare als i
theorem nonsG_pos (g : Gr) : 1 ≤ nonsG g ∧ nonsG g ≤ 4 := by unfold nonsG; omega
def RwsV (w : World) (v : Value) (l : List (List Int)) : Prop := ListV 1 (fun w cs r => ∃ u, cs = [u] ∧ IntsV w u r) w v l
structure GrV (w : World) (v : Value) (g : Gr) : Prop where
 is : ∃ rv lv iv, v = .agg #[.int .i64 g.nons, rv, lv, iv, .bool g.bare] ∧ RwsV w rv g.rules ∧ IntsV w lv g.levels ∧ IntsV w iv g.inner
def InW (x : Int) : Prop := (Lit.int .i64 x).wf = true
structure GrIn (g : Gr) : Prop where
 nons : InW g.nons
 rules : ∀ r ∈ g.rules, ∀ x ∈ r, InW x
 levels : ∀ x ∈ g.levels, InW x
 inner : ∀ x ∈ g.inner, InW x
theorem RwsV.below {w w' : World} {v : Value} {l : List (List Int)} (h : RwsV w v l) (hb : Below w.heap.size w w') : RwsV w' v l :=
 ListV.below h (fun cs r ⟨u, e, hu⟩ => ⟨u, e, hu.below hb⟩) hb
theorem GrV.below {w w' : World} {v : Value} {g : Gr} (h : GrV w v g) (hb : Below w.heap.size w w') : GrV w' v g := by
 obtain ⟨rv, lv, iv, h1, h2, h3, h4⟩ := h.is
 exact ⟨rv, lv, iv, h1, h2.below hb, h3.below hb, h4.below hb⟩
theorem RwsV.open {w : World} {v : Value} {l : List (List Int)} (h : RwsV w v l) : ∃ a n c, v = .slice a n c ∧ Hid (n = l.length) ∧ n ≤ c ∧ c ≤ 9223372036854775807 ∧
  Hid (∀ i, i < n → ∃ b o u r, a = some ⟨b, o, none⟩ ∧ l[i]? = some r ∧ w.cell? ⟨b, o + i, none⟩ = some u ∧ IntsV w u r) := by
 obtain ⟨a, n, c, h1, h2, h3, h4, h5⟩ := ListV.open h
 refine ⟨a, n, c, h1, h2, h3, h4, Lib.hid (fun i hi => ?_)⟩
 obtain ⟨b, o, cs, x, e1, e2, e3, e4, e5⟩ := h5.out i hi
 obtain ⟨u, rfl, hu⟩ := e4
 have := e5 0 (by omega)
 exact ⟨b, o, u, x, e1, e2, by simpa using this, hu⟩
theorem inW_at {l : List Int} (h : ∀ x ∈ l, InW x) (k : Nat) : (Lit.int .i64 (l.getD k 0)).wf = true := by
 rw [List.getD_eq_getElem?_getD]
 by_cases hk : k < l.length
 · rw [List.getElem?_eq_getElem hk]; exact h _ (List.getElem_mem hk)
 · rw [List.getElem?_eq_none (by omega)]; decide
end
section
open Go.RowKit
set_option maxRecDepth 100000 in
theorem gNon_any (k : Nat) (hk : k < 4) (w : World) : Calls Try.prog 32 #[.int .i64 (k : Int)] w fun e w' => e = .returned (.string (gNonB k)) ∧ Below w.heap.size w w' := by
 have hc1 : ∀ (x : Int) (w : World), (convert 94 9 (.slice (some ⟨w.heap.size,0,none⟩) 1 1)).run Try.prog (w.alloc (.cells #[.int .u8 x] 5)) = .ok (.string (bytesOf [x])) (w.alloc (.cells #[.int .u8 x] 5)) :=
  fun x w => run_conv_new w _ _ _ [x] 1 Try.underlying94 Try.underlying5 Try.underlying9
 match k, hk with
 | 0, _ =>
   have h := hc1 97 w
   go_enter Try.func32, Try.ntmps32
   go_wp2_with fail
   go_ret
   exact ⟨rfl, (Below.refl _ _).alloc (Nat.le_refl _) _⟩
 | 1, _ =>
   have h := hc1 98 w
   go_enter Try.func32, Try.ntmps32
   go_wp2_with fail
   go_ret
   exact ⟨rfl, (Below.refl _ _).alloc (Nat.le_refl _) _⟩
 | 2, _ =>
   have h := hc1 99 w
   go_enter Try.func32, Try.ntmps32
   go_wp2_with fail
   go_ret
   exact ⟨rfl, (Below.refl _ _).alloc (Nat.le_refl _) _⟩
 | 3, _ =>
   have h := hc1 100 w
   go_enter Try.func32, Try.ntmps32
   go_wp2_with fail
   go_ret
   exact ⟨rfl, (Below.refl _ _).alloc (Nat.le_refl _) _⟩
theorem gLetters_any (w : World) : Calls Try.prog 42 #[] w fun e w' => e = .returned (.string ⟨#[112, 113, 114, 115]⟩) ∧ w' = w := by
 go_enter Try.func42, Try.ntmps42
 go_wp2_with fail
 go_ret
 exact ⟨rfl, rfl⟩
theorem gSymInfo : (Try.prog.info? 68).map (·.size) = some 4 := by kernel_rfl
def LitIs (k : Nat) (w : World) (e : Ending) (w' : World) : Prop := e = .returned (.agg #[.string (gLetB k), .bool true, .int .i64 0, .int .i64 0]) ∧ Below w.heap.size w w'
set_option maxRecDepth 100000 in
theorem gLit_any (k : Nat) (hk : k < 9) (w : World) : Calls Try.prog 34 #[.int .i64 (k : Int)] w (LitIs k w) := by
 have hb1 := (Below.refl w.heap.size w).alloc (Nat.le_refl _) (.cells #[.string (gLetB k), .bool true, .int .i64 0, .int .i64 0] 68)
 match k, hk with
 | 0, _ =>
   go_enter Try.func34, Try.ntmps34
   go_wp2_with (go_at_call 42; refine (gLetters_any _).mono ?_; rintro e w9 ⟨rfl, rfl⟩)
   have hh := heap_alloc_new w (.cells #[.string (gLetB 0), .bool true, .int .i64 0, .int .i64 0] 68)
   exact bodyPost_ret (v := .agg #[.string (gLetB 0), .bool true, .int .i64 0, .int .i64 0]) (results_cell_row rfl _ _ w.heap.size 68 #[.string (gLetB 0), .bool true, .int .i64 0, .int .i64 0] (0, 0) _ rfl hh Try.underlying68 rfl gSymInfo) rfl ⟨rfl, hb1⟩
 | 1, _ =>
   go_enter Try.func34, Try.ntmps34
   go_wp2_with (go_at_call 42; refine (gLetters_any _).mono ?_; rintro e w9 ⟨rfl, rfl⟩)
   have hh := heap_alloc_new w (.cells #[.string (gLetB 1), .bool true, .int .i64 0, .int .i64 0] 68)
   exact bodyPost_ret (v := .agg #[.string (gLetB 1), .bool true, .int .i64 0, .int .i64 0]) (results_cell_row rfl _ _ w.heap.size 68 #[.string (gLetB 1), .bool true, .int .i64 0, .int .i64 0] (0, 0) _ rfl hh Try.underlying68 rfl gSymInfo) rfl ⟨rfl, hb1⟩
 | 2, _ =>
   go_enter Try.func34, Try.ntmps34
   go_wp2_with (go_at_call 42; refine (gLetters_any _).mono ?_; rintro e w9 ⟨rfl, rfl⟩)
   have hh := heap_alloc_new w (.cells #[.string (gLetB 2), .bool true, .int .i64 0, .int .i64 0] 68)
   exact bodyPost_ret (v := .agg #[.string (gLetB 2), .bool true, .int .i64 0, .int .i64 0]) (results_cell_row rfl _ _ w.heap.size 68 #[.string (gLetB 2), .bool true, .int .i64 0, .int .i64 0] (0, 0) _ rfl hh Try.underlying68 rfl gSymInfo) rfl ⟨rfl, hb1⟩
 | 3, _ =>
   go_enter Try.func34, Try.ntmps34
   go_wp2_with (go_at_call 42; refine (gLetters_any _).mono ?_; rintro e w9 ⟨rfl, rfl⟩)
   have hh := heap_alloc_new w (.cells #[.string (gLetB 3), .bool true, .int .i64 0, .int .i64 0] 68)
   exact bodyPost_ret (v := .agg #[.string (gLetB 3), .bool true, .int .i64 0, .int .i64 0]) (results_cell_row rfl _ _ w.heap.size 68 #[.string (gLetB 3), .bool true, .int .i64 0, .int .i64 0] (0, 0) _ rfl hh Try.underlying68 rfl gSymInfo) rfl ⟨rfl, hb1⟩
 | 4, _ =>
   go_enter Try.func34, Try.ntmps34
   go_wp2_with (go_at_call 42; refine (gLetters_any _).mono ?_; rintro e w9 ⟨rfl, rfl⟩)
   have hh := heap_alloc_new w (.cells #[.string (gLetB 4), .bool true, .int .i64 0, .int .i64 0] 68)
   exact bodyPost_ret (v := .agg #[.string (gLetB 4), .bool true, .int .i64 0, .int .i64 0]) (results_cell_row rfl _ _ w.heap.size 68 #[.string (gLetB 4), .bool true, .int .i64 0, .int .i64 0] (0, 0) _ rfl hh Try.underlying68 rfl gSymInfo) rfl ⟨rfl, hb1⟩
 | 5, _ =>
   go_enter Try.func34, Try.ntmps34
   go_wp2_with (go_at_call 42; refine (gLetters_any _).mono ?_; rintro e w9 ⟨rfl, rfl⟩)
   have hh := heap_alloc_new w (.cells #[.string (gLetB 5), .bool true, .int .i64 0, .int .i64 0] 68)
   exact bodyPost_ret (v := .agg #[.string (gLetB 5), .bool true, .int .i64 0, .int .i64 0]) (results_cell_row rfl _ _ w.heap.size 68 #[.string (gLetB 5), .bool true, .int .i64 0, .int .i64 0] (0, 0) _ rfl hh Try.underlying68 rfl gSymInfo) rfl ⟨rfl, hb1⟩
 | 6, _ =>
   go_enter Try.func34, Try.ntmps34
   go_wp2_with (go_at_call 42; refine (gLetters_any _).mono ?_; rintro e w9 ⟨rfl, rfl⟩)
   have hh := heap_alloc_new w (.cells #[.string (gLetB 6), .bool true, .int .i64 0, .int .i64 0] 68)
   exact bodyPost_ret (v := .agg #[.string (gLetB 6), .bool true, .int .i64 0, .int .i64 0]) (results_cell_row rfl _ _ w.heap.size 68 #[.string (gLetB 6), .bool true, .int .i64 0, .int .i64 0] (0, 0) _ rfl hh Try.underlying68 rfl gSymInfo) rfl ⟨rfl, hb1⟩
 | 7, _ =>
   go_enter Try.func34, Try.ntmps34
   go_wp2_with (go_at_call 42; refine (gLetters_any _).mono ?_; rintro e w9 ⟨rfl, rfl⟩)
   have hh := heap_alloc_new w (.cells #[.string (gLetB 7), .bool true, .int .i64 0, .int .i64 0] 68)
   exact bodyPost_ret (v := .agg #[.string (gLetB 7), .bool true, .int .i64 0, .int .i64 0]) (results_cell_row rfl _ _ w.heap.size 68 #[.string (gLetB 7), .bool true, .int .i64 0, .int .i64 0] (0, 0) _ rfl hh Try.underlying68 rfl gSymInfo) rfl ⟨rfl, hb1⟩
 | 8, _ =>
   go_enter Try.func34, Try.ntmps34
   go_wp2_with (go_at_call 42; refine (gLetters_any _).mono ?_; rintro e w9 ⟨rfl, rfl⟩)
   have hh := heap_alloc_new w (.cells #[.string (gLetB 8), .bool true, .int .i64 0, .int .i64 0] 68)
   exact bodyPost_ret (v := .agg #[.string (gLetB 8), .bool true, .int .i64 0, .int .i64 0]) (results_cell_row rfl _ _ w.heap.size 68 #[.string (gLetB 8), .bool true, .int .i64 0, .int .i64 0] (0, 0) _ rfl hh Try.underlying68 rfl gSymInfo) rfl ⟨rfl, hb1⟩
end
section
open Go.RowKit
set_option maxRecDepth 100000 in
theorem gSym_any (x : Int) (nons : Nat) (hx : (Lit.int .i64 x).wf = true) (hn1 : 1 ≤ nons) (hn4 : nons ≤ 4) (w : World) : Calls Try.prog 33 #[.int .i64 x, .int .i64 (nons : Int)] w fun e w' => e = .returned (symG x nons).agg ∧ Below w.heap.size w w' := by
 have hq : ((x % 14).toNat : Int) = x % ((14 : Nat) : Int) := by omega
 have hq14 : (x % 14).toNat < 14 := by omega
 have HC : Hid (∀ W, Calls Try.prog 20 #[.int .i64 x, .int .i64 14] W fun e w' => e = .returned (.int .i64 ((x % 14).toNat : Int)) ∧ W = w') := Lib.hid (fun W => by rw [hq]; exact within_any x 14 W hx (by omega) (by omega))
 unfold symG
 generalize (x % 14).toNat = q at HC hq14 ⊢
 clear hq hx
 have hb1 := (Below.refl w.heap.size w).alloc (Nat.le_refl _) (.cells #[.string ⟨#[]⟩, .bool false, .int .i64 0, .int .i64 0] 68)
 have hr1 := heap_alloc_new w (.cells #[.string ⟨#[]⟩, .bool false, .int .i64 0, .int .i64 0] 68)
 have hz1 : w.heap.size < (w.alloc (.cells #[.string ⟨#[]⟩, .bool false, .int .i64 0, .int .i64 0] 68)).heap.size := by simp
 have HR : Hid (∀ W, Below (w.alloc (.cells #[.string ⟨#[]⟩, .bool false, .int .i64 0, .int .i64 0] 68)).heap.size (w.alloc (.cells #[.string ⟨#[]⟩, .bool false, .int .i64 0, .int .i64 0] 68)) W → W.heap[w.heap.size]? = some (.cells #[.string ⟨#[]⟩, .bool false, .int .i64 0, .int .i64 0] 68 (0, 0))) := Lib.hid (fun W h => (h.block _ hz1).trans hr1)
 by_cases h5 : q < 5
 · have hS : symQ q nons = ⟨gNonB (q % nons), false, 0, 0⟩ := by unfold symQ; rw [if_pos h5]; rfl
   have hm4 : q % nons < 4 := Nat.lt_of_lt_of_le (Nat.mod_lt _ (by omega)) hn4
   have HN := Lib.hid (fun W => gNon_any (q % nons) hm4 W)
   have hrem : Int.tmod (q : Int) (nons : Int) = ((q % nons : Nat) : Int) := rfl
   have hn0 : ¬ (nons : Int) = 0 := by omega
   rw [hS]
   generalize q % nons = m at HN hrem ⊢
   unfold Sm.agg
   simp only
   go_enter Try.func33, Try.ntmps33
   go_wp2_with (first
    | (go_at_call 20; (with_reducible refine (HC.out _).mono ?_); rintro e w8 ⟨rfl, rfl⟩)
    | (go_at_call 32; (with_reducible refine (HN.out _).mono ?_); rintro e w9 ⟨rfl, hb9⟩; have hr9 := HR.out _ hb9; have y0 := cell_of_row w9 _ 0 _ _ _ hr9; have y1 := cell_of_row w9 _ 1 _ _ _ hr9; have y2 := cell_of_row w9 _ 2 _ _ _ hr9; have y3 := cell_of_row w9 _ 3 _ _ _ hr9; have z0 : w9.frozen? ⟨w.heap.size, 0, none⟩ = false := free_of_block hr9; have z1 : w9.frozen? ⟨w.heap.size, 1, none⟩ = false := free_of_block hr9; have z2 : w9.frozen? ⟨w.heap.size, 2, none⟩ = false := free_of_block hr9; have z3 : w9.frozen? ⟨w.heap.size, 3, none⟩ = false := free_of_block hr9))
   have hbw := hb1.trans (hb9.mono hb1.size)
   have hh := block_setCell (j := 3) (u := .int .i64 0) (block_setCell (j := 2) (u := .int .i64 0) (block_setCell (j := 1) (u := .bool false) (block_setCell (j := 0) (u := .string (gNonB m)) hr9)))
   have hbz := (((hbw.setCell (p := ⟨w.heap.size, 0, none⟩) (Nat.le_refl _) (.string (gNonB m))).setCell (p := ⟨w.heap.size, 1, none⟩) (Nat.le_refl _) (.bool false)).setCell (p := ⟨w.heap.size, 2, none⟩) (Nat.le_refl _) (.int .i64 0)).setCell (p := ⟨w.heap.size, 3, none⟩) (Nat.le_refl _) (.int .i64 0)
   exact bodyPost_ret (v := .agg #[.string (gNonB m), .bool false, .int .i64 0, .int .i64 0]) (results_cell_row rfl _ _ w.heap.size 68 #[.string (gNonB m), .bool false, .int .i64 0, .int .i64 0] (0, 0) _ rfl hh Try.underlying68 rfl gSymInfo) rfl ⟨rfl, hbz⟩
 · by_cases h13 : q = 13
   · have hS : symQ q nons = ⟨gErrB, false, 0, 0⟩ := by unfold symQ; rw [if_neg h5, if_pos h13]; rfl
     have e13 : ((q : Int) == 13) = true := by rw [beq_iff_eq]; omega
     rw [hS]
     unfold Sm.agg gErrB
     simp only
     go_enter Try.func33, Try.ntmps33
     go_wp2_with (first
      | (go_at_call 20; (with_reducible refine (HC.out _).mono ?_); rintro e w8 ⟨rfl, rfl⟩))
     have hb2 := (Below.refl w.heap.size w).alloc (Nat.le_refl _) (.cells #[.string ⟨#[101, 114, 114, 111, 114]⟩, .bool false, .int .i64 0, .int .i64 0] 68)
     have hh := heap_alloc_new w (.cells #[.string ⟨#[101, 114, 114, 111, 114]⟩, .bool false, .int .i64 0, .int .i64 0] 68)
     exact bodyPost_ret (v := .agg #[.string ⟨#[101, 114, 114, 111, 114]⟩, .bool false, .int .i64 0, .int .i64 0]) (results_cell_row rfl _ _ w.heap.size 68 #[.string ⟨#[101, 114, 114, 111, 114]⟩, .bool false, .int .i64 0, .int .i64 0] (0, 0) _ rfl hh Try.underlying68 rfl gSymInfo) rfl ⟨rfl, hb2⟩
   · obtain ⟨m, rfl⟩ : ∃ m, q = m + 5 := ⟨q - 5, by omega⟩
     have hS : symQ (m + 5) nons = ⟨gLetB m, true, 0, 0⟩ := by unfold symQ; rw [if_neg h5, if_neg h13]; rfl
     have e13 : (((m + 5 : Nat) : Int) == 13) = false := by rw [beq_eq_false_iff_ne]; omega
     have hsub : ((m + 5 : Nat) : Int) - 5 = (m : Int) := by omega
     have HL := Lib.hid (fun W => gLit_any m (by omega) W)
     unfold LitIs at HL
     rw [hS]
     unfold Sm.agg
     simp only
     go_enter Try.func33, Try.ntmps33
     go_wp2_with (first
      | (go_at_call 20; (with_reducible refine (HC.out _).mono ?_); rintro e w8 ⟨rfl, rfl⟩)
      | (go_at_call 34; (refine (HL.out _).mono ?_); rintro e w9 ⟨rfl, hb9⟩; have hr9 := HR.out _ hb9; have y0 := cell_of_row w9 _ 0 _ _ _ hr9; have y1 := cell_of_row w9 _ 1 _ _ _ hr9; have y2 := cell_of_row w9 _ 2 _ _ _ hr9; have y3 := cell_of_row w9 _ 3 _ _ _ hr9; have z0 : w9.frozen? ⟨w.heap.size, 0, none⟩ = false := free_of_block hr9; have z1 : w9.frozen? ⟨w.heap.size, 1, none⟩ = false := free_of_block hr9; have z2 : w9.frozen? ⟨w.heap.size, 2, none⟩ = false := free_of_block hr9; have z3 : w9.frozen? ⟨w.heap.size, 3, none⟩ = false := free_of_block hr9))
     have hbw := hb1.trans (hb9.mono hb1.size)
     have hh := block_setCell (j := 3) (u := .int .i64 0) (block_setCell (j := 2) (u := .int .i64 0) (block_setCell (j := 1) (u := .bool true) (block_setCell (j := 0) (u := .string (gLetB m)) hr9)))
     have hbz := (((hbw.setCell (p := ⟨w.heap.size, 0, none⟩) (Nat.le_refl _) (.string (gLetB m))).setCell (p := ⟨w.heap.size, 1, none⟩) (Nat.le_refl _) (.bool true)).setCell (p := ⟨w.heap.size, 2, none⟩) (Nat.le_refl _) (.int .i64 0)).setCell (p := ⟨w.heap.size, 3, none⟩) (Nat.le_refl _) (.int .i64 0)
     exact bodyPost_ret (v := .agg #[.string (gLetB m), .bool true, .int .i64 0, .int .i64 0]) (results_cell_row rfl _ _ w.heap.size 68 #[.string (gLetB m), .bool true, .int .i64 0, .int .i64 0] (0, 0) _ rfl hh Try.underlying68 rfl gSymInfo) rfl ⟨rfl, hbz⟩
end
section
open Go.RowKit
def DRow (xs : List Value) (st : List (Int × List Sm)) : Prop := ∀ i p, st[i]? = some p → xs[i * 4]? = some (.int .i64 p.1) ∧ xs[i * 4 + 1]? = some (.string ⟨#[]⟩) ∧ xs[i * 4 + 3]? = some (.int .i64 0)
theorem DRow.set {xs : List Value} {st : List (Int × List Sm)} {m : Nat} {p : Int × List Sm} {l : List Sm} {u : Value} (h : DRow xs st) (hm : st[m]? = some p) : DRow (xs.set (m * 4 + 2) u) (st.set m (p.1, l)) := by
 intro i q hq
 rw [List.getElem?_set_ne (by omega), List.getElem?_set_ne (by omega), List.getElem?_set_ne (by omega)]
 by_cases e : i = m
 · subst e
   rw [List.getElem?_set_self (List.getElem?_eq_some_iff.1 hm).1] at hq
   cases hq
   exact h i p hm
 · rw [List.getElem?_set_ne (Ne.symm e)] at hq
   exact h i q hq
theorem DRow.push {xs : List Value} {st : List (Int × List Sm)} {k : Int} {l : List Sm} {u : Value} (h : DRow xs st) (hl : xs.length = st.length * 4) : DRow (xs ++ [.int .i64 k, .string ⟨#[]⟩, u, .int .i64 0]) (st ++ [(k, l)]) := by
 intro i q hq
 by_cases e : i < st.length
 · rw [List.getElem?_append_left e] at hq
   obtain ⟨h1, h2, h3⟩ := h i q hq
   rw [List.getElem?_append_left (by omega), List.getElem?_append_left (by omega), List.getElem?_append_left (by omega)]
   exact ⟨h1, h2, h3⟩
 · have e2 : i = st.length := by
    have := (List.getElem?_eq_some_iff.1 hq).1
    simp at this; omega
   subst e2
   simp at hq
   subst hq
   rw [List.getElem?_append_right (by omega), List.getElem?_append_right (by omega), List.getElem?_append_right (by omega), show st.length * 4 - xs.length = 0 by omega, show st.length * 4 + 1 - xs.length = 1 by omega, show st.length * 4 + 3 - xs.length = 3 by omega]
   exact ⟨rfl, rfl, rfl⟩
theorem dSt_len (l : List Int) : ∀ i, (dSt l i).length ≤ i
 | 0 => Nat.le_refl _
 | i + 1 => by
   have h := dSt_len l i
   show (dStep _ _ _).length ≤ _
   unfold dStep
   split
   · omega
   · split
     · rw [List.length_set]; omega
     · simp; omega
theorem gDeclInfo : (Try.prog.info? 64).map (fun i => (i.zero, i.size, i.bytes)) = some (some (.agg #[.int .i64 0, .string ByteArray.empty, .slice none 0 0, .int .i64 0]), 4, 56) := by kernel_rfl
theorem gSymInfo3 : (Try.prog.info? 68).map (fun i => (i.zero, i.size, i.bytes)) = some (some (.agg #[.string ByteArray.empty, .bool false, .int .i64 0, .int .i64 0]), 4, 40) := by kernel_rfl
def gDeclsGo (st : List (Int × List Sm)) (w : World) (e : Ending) (w' : World) : Prop := ∃ (v : Value) (xs : List Value), e = .returned v ∧ GrowRow w.heap.size 64 4 2 68 4 smR (fun _ => False) w' v xs (st.map (·.2)) ∧ DRow xs st ∧ Below w.heap.size w w'
theorem growL_lit {w : World} {base : Nat} (hb : base ≤ w.heap.size) (k : Nat) : GrowL base 68 4 smR (fun _ => False) (w.alloc (.cells #[.string (gLetB k), .bool true, .int .i64 0, .int .i64 0] 68)) (.slice (some ⟨w.heap.size, 0, none⟩) 1 1) [.string (gLetB k), .bool true, .int .i64 0, .int .i64 0] [litG k] :=
 ⟨World.ownsRow_lit w #[.string (gLetB k), .bool true, .int .i64 0, .int .i64 0] 1 hb (by decide) rfl, Firm.pure (fun w' i y hy => by
  have hi := (List.getElem?_eq_some_iff.1 hy).1
  obtain rfl : i = 0 := by simp at hi; omega
  simp at hy
  subst hy
  rfl), fun k hk h => h⟩
theorem own_lt {α : Type} {base : Nat} {E : TypeId} {size j : Nat} {E2 : TypeId} {size2 : Nat} {R2 : World → List Value → α → Prop} {S : Nat → Prop} {w : World} {v : Value} {xs : List Value} {ll : List (List α)} (h : GrowRow base E size j E2 size2 R2 S w v xs ll) :
  (∀ b, v.ownBlock = some b → b < w.heap.size) ∧ ∀ i u b, i < ll.length → xs[i * size + j]? = some u → u.ownBlock = some b → b < w.heap.size := by
 refine ⟨fun b hb => (h.own.lt b hb).2, fun i u b hi hu hb => ?_⟩
 obtain ⟨u0, ys0, h1, h2⟩ := h.each i _ (List.getElem?_eq_getElem hi)
 rw [hu] at h1
 cases h1
 exact (h2.own.lt b hb).2
theorem dSt_small (l : List Int) : ∀ i, ∀ p ∈ dSt l i, p.2.length ≤ i
 | 0, p, h => by simp [dSt] at h
 | i + 1, p, h => by
   have hs := dSt_small l i
   have h2 : p ∈ dStep (dSt l i) i (l.getD i 0 % 8).toNat := h
   unfold dStep at h2
   split at h2
   · have := hs p h2; omega
   · split at h2
     · rename_i hc
       rcases List.mem_or_eq_of_mem_set h2 with h3 | rfl
       · have := hs p h3; omega
       · have h4 : (dSt l i).length - 1 < (dSt l i).length := by omega
         have h5 := hs _ (List.getElem_mem h4)
         simp only [List.length_append, List.length_singleton, List.getD_eq_getElem?_getD, List.getElem?_eq_getElem h4, Option.getD_some]
         omega
     · rcases List.mem_append.1 h2 with h3 | h3
       · have := hs p h3; omega
       · rw [List.mem_singleton.1 h3]; simp
theorem GrowRow.no {α : Type} {base : Nat} {E : TypeId} {size j : Nat} {E2 : TypeId} {size2 : Nat} {R2 : World → List Value → α → Prop} {w : World} {v : Value} {xs : List Value} {ll : List (List α)} (h : GrowRow base E size j E2 size2 R2 (fun b => (fun _ => False) b ∨ (fun _ => False) b) w v xs ll) : GrowRow base E size j E2 size2 R2 (fun _ => False) w v xs ll := by
 rw [show (fun b : Nat => (fun _ => False) b ∨ (fun _ => False) b) = fun _ => False from funext (fun b => by simp)] at h
 exact h
set_option maxRecDepth 100000 in
set_option maxHeartbeats 40000000 in
theorem gDecls_any (v : Value) (l : List Int) (w : World) (hv : IntsV w v l) (hi : ∀ x ∈ l, InW x) : Calls Try.prog 31 #[v] w (gDeclsGo (dSt l (min l.length 4)) w) := by
 have HF := Lib.hid (fun k => inW_at hi k)
 have HN : Hid (∀ (x : Int), (Lit.int .i64 x).wf = true → ∃ q : Nat, q < 8 ∧ (x % 8).toNat = q ∧ ∀ W, Calls Try.prog 20 #[.int .i64 x, .int .i64 8] W fun e w' => e = .returned (.int .i64 (q : Int)) ∧ W = w') := Lib.hid (fun x hx => by
  have hq : (((x % 8).toNat : Nat) : Int) = x % ((8 : Nat) : Int) := by omega
  refine ⟨_, by omega, rfl, fun W => ?_⟩
  rw [hq]
  exact within_any x 8 W hx (by omega) (by omega))
 obtain ⟨a, n, c, rfl, hn, hnc, hcm, hx⟩ := hv.open
 have HSt : Hid (∀ k, dSt l (k + 1) = dStep (dSt l k) k (l.getD k 0 % 8).toNat) := Lib.hid (fun _ => rfl)
 have HLen := Lib.hid (fun k => dSt_len l k)
 have HEnd : Hid (min l.length 4 = min n 4) := Lib.hid (by rw [hn.out])
 rw [HEnd.out]
 clear HEnd hi hv
 go_enter Try.func31, Try.ntmps31
 go_wp2_with fail
 go_loopw [3, 4] (fun x3 x4 W => ∃ (k : Nat) (xs : List Value), k ≤ n ∧ k ≤ 4 ∧ x4 = .int .i64 k ∧ Below w.heap.size w W ∧ GrowRow w.heap.size 64 4 2 68 4 smR (fun _ => False) W x3 xs ((dSt l k).map (·.2)) ∧ Hid (DRow xs (dSt l k))) (fun _ x4 _ => n - (intOf x4).toNat)
 case atStart => exact ⟨0, [], Nat.zero_le _, Nat.zero_le _, rfl, Below.refl _ _, GrowRow.nil _ _ _ _ _ _ _ _, Lib.hid (fun i p h => by simp [dSt] at h)⟩
 case round =>
  obtain ⟨k, xs, hk, hk4, rfl, hb, hG, HD⟩ := hrel
  rename World => W
  by_cases hgo : k < n ∧ k < 4
  · obtain ⟨hlt, hlt4⟩ := hgo
    obtain ⟨b, off, rfl, hcell⟩ := hx.out k hlt
    have hwf := HF.out k
    have hS := HSt.out k
    have hL := HLen.out k
    have HSm := Lib.hid (dSt_small l k)
    have c0 : W.cell? ⟨b, off + k, none⟩ = some (.int .i64 (l.getD k 0)) := (hb.cell (World.block_lt_of_cell? _ _ hcell)).trans hcell
    generalize l.getD k 0 = x at hcell c0 hwf hS
    obtain ⟨q, hq8, hqe, hcl⟩ := HN.out x hwf
    rw [hqe] at hS
    have HC := Lib.hid hcl
    have HLit := Lib.hid (fun W => gLit_any k (by omega) W)
    unfold LitIs at HLit
    have i1 : (k : Int) < (n : Int) := by omega
    have i2 : (k : Int) < 4 := by omega
    have hrem : Int.tmod (q : Int) 4 = ((q % 4 : Nat) : Int) := rfl
    have HStep := Lib.hid hS
    generalize dSt l k = st at hG HD HStep hL HSm
    obtain ⟨xa, xc, hx3⟩ := hG.slice
    have hown := hG.own
    rw [List.length_map] at hx3 hown
    have hwW := hb.size
    clear hcl hcell hwf hqe HN HF HSt HLen hx hn hS
    by_cases h4 : q % 4 = 0
    · have e4 : (((q % 4 : Nat) : Int) == 0) = true := by rw [h4]; rfl
      have HA : Hid (dSt l (k + 1) = st) := Lib.hid (by rw [HStep.out]; unfold dStep; rw [if_pos h4])
      clear HStep hL hx3 hown HLit
      go_wp2_with (first | (go_at_call 20; (with_reducible refine (HC.out _).mono ?_); rintro e w9 ⟨rfl, rfl⟩))
      go_round
      case rel => exact ⟨k + 1, xs, by omega, by omega, by go_num, hb, by rw [HA.out]; exact hG, by rw [HA.out]; exact HD⟩
      case measure => simp [intOf]; omega
    · have e4 : (((q % 4 : Nat) : Int) == 0) = false := by rw [beq_eq_false_iff_ne]; omega
      by_cases hB : 4 < q ∧ 0 < st.length
      · obtain ⟨hB1, hB2⟩ := hB
        obtain ⟨m, hm⟩ : ∃ m, st.length = m + 1 := ⟨st.length - 1, by omega⟩
        have hmlt : m < st.length := by omega
        have hp := List.getElem?_eq_getElem hmlt
        generalize st[m] = p at hp
        have HA : Hid (dSt l (k + 1) = st.set m (p.1, p.2 ++ [litG k])) := Lib.hid (by
         rw [HStep.out]; unfold dStep; rw [if_neg h4, if_pos ⟨hB1, hB2⟩, hm, show m + 1 - 1 = m from rfl, List.getD_eq_getElem?_getD, hp]; rfl)
        have hpl := HSm.out p (List.mem_of_getElem? hp)
        have hpm : (st.map (fun x => x.2))[m]? = some p.2 := by rw [List.getElem?_map, hp]; rfl
        obtain ⟨u, ys, hu, hU⟩ := hG.each m p.2 hpm
        rw [hm] at hown
        obtain ⟨g, cap, hv, hg1, hg2⟩ := hown.form (by omega)
        have hug : some g ≠ u.ownBlock := fun h => hG.top m u g (by rw [List.length_map]; exact hmlt) hu h.symm (by rw [hv]; rfl)
        clear hx3
        subst hv
        have hcu : W.cell? ⟨g, m * 4 + 2, none⟩ = some u := (hown.cellAt (m * 4 + 2) (by omega)).trans hu
        obtain ⟨i0, hi, iz0, iz1, iz2⟩ := rd_info gSymInfo3
        have HU := Lib.hid (fun (W9 : World) (h : Below W.heap.size W W9) => And.intro (own_below hU.own h) (own_below hown h))
        have i5 : (q : Int) > 4 := by omega
        have i6 : ((m + 1 : Nat) : Int) > 0 := by omega
        have hsub : ((m + 1 : Nat) : Int) - 1 = (m : Int) := by omega
        have i7 : (m : Int) < (m : Int) + 1 := by omega
        have i8 : IntKind.i64.wrap (m : Int) = (m : Int) := by rw [IntKind.wrap_i64]; omega
        go_upto_region 9 with (first | (go_at_call 20; (with_reducible refine (HC.out _).mono ?_); rintro e w9 ⟨rfl, rfl⟩))
        go_region_law (first
         | (go_simp; go_at_call 34; (refine (HLit.out _).mono ?_); rintro e w9 ⟨rfl, hb9⟩;
             have h9 : Below W.heap.size W w9 := (Below.refl W.heap.size W).drew.trans hb9;
             have c9 : w9.cell? ⟨g, m * 4 + 2, none⟩ = some u := (h9.cell (World.block_lt_of_cell? _ _ hcu)).trans hcu;
             have a9 := rdCell_alloc c9 (.cells #[.string (gLetB k), .bool true, .int .i64 0, .int .i64 0] 68);
             have own9 := (HU.out _ h9).1;
             have fr9 := ((HU.out _ h9).2.alloc (.cells #[.string (gLetB k), .bool true, .int .i64 0, .int .i64 0] 68)).frozenAt (m * 4 + 2);
             have l9 : w9.heap.size < (w9.alloc (.cells #[.string (gLetB k), .bool true, .int .i64 0, .int .i64 0] 68)).heap.size := (by simp))
         | (refine step_append_lies _ (by rfl) _ _ _ (by rfl) w.heap.size 68 i0 (.agg #[.string ByteArray.empty, .bool false, .int .i64 0, .int .i64 0]) 4 40 Try.underlying62 hi iz0 iz1 iz2 rfl (by omega) u p.2.length ys (by rfl) (own9.alloc _)
             ⟨w9.heap.size, 0, none⟩ 1 1 [.string (gLetB k), .bool true, .int .i64 0, .int .i64 0] (by rfl) (by rfl) (rd_news w9 _ _) (by simp [Value.oneCell'])
             (by omega) (by unfold maxLen; omega) (by omega) (by have := h9.size; simp; omega) (w9.heap.size + 1) (by simp) ?_;
            intro gg cap2 w5 hown5 hgrow5 hat hlt5;
            have f5 : w5.cell? ⟨g, m * 4 + 2, none⟩ = some u := hgrow5.cell a9 hug;
            have r5 : w5.frozen? ⟨g, m * 4 + 2, none⟩ = false := (hgrow5.frozen_far ⟨g, m * 4 + 2, none⟩ (show g < (w9.alloc (.cells #[.string (gLetB k), .bool true, .int .i64 0, .int .i64 0] 68)).heap.size from (by have := h9.size; omega)) hug).trans fr9))
        all_goals
         go_wp2_with fail
         have k9 := h9.alloc h9.size (.cells #[.string (gLetB k), .bool true, .int .i64 0, .int .i64 0] 68)
         have hmo := (hG.below k9).more (x := litG k) (cs := [.string (gLetB k), .bool true, .int .i64 0, .int .i64 0]) (S' := fun _ => False) (by omega) rfl hpm hu hown5 (hU.below k9) hgrow5 (own_new hat (by simp)) rfl (Firm.pure (fun w' => rfl)) (fun b h => h.elim)
         have hg9 := hmo.1.no
         have hbz := (hb.trans (k9.mono hwW)).trans (hmo.2 w.heap.size (Nat.le_refl _))
         clear hmo k9 hown5 hgrow5 f5 r5 own9 fr9 a9 c9 l9
         go_round
         case rel => exact ⟨k + 1, _, by omega, by omega, by go_num, hbz, by rw [HA.out, List.map_set]; exact hg9, Lib.hid (by rw [HA.out]; exact HD.out.set hp)⟩
         case measure => simp [intOf]; omega
      · have HA : Hid (dSt l (k + 1) = st ++ [(1 + ((q % 4 : Nat) : Int), [litG k])]) := Lib.hid (by rw [HStep.out]; unfold dStep; rw [if_neg h4, if_neg hB])
        have hm4 : q % 4 < 4 := by omega
        subst hx3
        obtain ⟨i0, hi, iz0, iz1, iz2⟩ := rd_info gDeclInfo
        generalize hqm : q % 4 = qm at HA hrem e4 hm4
        have hcase : (4 < q → st.length = 0) := fun h => by omega
        have hown2 := hown
        generalize hsl : st.length = sl at hown2 hcase hG ⊢
        have hsl4 : sl ≤ 4 := by omega
        clear HStep hB
        by_cases hq4 : 4 < q
        · obtain rfl : sl = 0 := hcase hq4
          have i5 : (q : Int) > 4 := by omega
          go_upto_region 10 with (first | (go_at_call 20; (with_reducible refine (HC.out _).mono ?_); rintro e w9 ⟨rfl, rfl⟩))
          have HO := Lib.hid (fun (W9 : World) (h : Below W.heap.size W W9) => own_below hown2 h)
          go_wp2_with (first
           | (go_at_call 34; (refine (HLit.out _).mono ?_); rintro e W9 ⟨rfl, hb9⟩; have own9 := HO.out _ hb9; have hsA : (W9.alloc (.cells #[.string (gLetB k), .bool true, .int .i64 0, .int .i64 0] 68)).heap.size = W9.heap.size + 1 := (by simp); have hnw : ∀ j u, ([.int .i64 (1 + (qm : Int)), .string ⟨#[]⟩, .slice (some ⟨W9.heap.size, 0, none⟩) 1 1, .int .i64 0] : List Value)[j]? = some u → ((W9.alloc (.cells #[.string (gLetB k), .bool true, .int .i64 0, .int .i64 0] 68)).alloc (.cells #[.int .i64 (1 + (qm : Int)), .string ⟨#[]⟩, .slice (some ⟨W9.heap.size, 0, none⟩) 1 1, .int .i64 0] 64)).cell? ((⟨W9.heap.size + 1, 0, none⟩ : Addr).add j) = some u := by (rw [← hsA]; exact rd_news _ [.int .i64 (1 + (qm : Int)), .string ⟨#[]⟩, .slice (some ⟨W9.heap.size, 0, none⟩) 1 1, .int .i64 0] _))
           | (refine wpList_append_lies _ (by rfl) _ _ _ (by rfl) w.heap.size 64 i0 (.agg #[.int .i64 0, .string ByteArray.empty, .slice none 0 0, .int .i64 0]) 4 56 Try.underlying22 hi iz0 iz1 iz2 rfl (by omega) (.slice xa 0 xc) 0 xs (by rfl) ((own9.alloc _).alloc _) ⟨W9.heap.size + 1, 0, none⟩ 1 1 [.int .i64 (1 + (qm : Int)), .string ⟨#[]⟩, .slice (some ⟨W9.heap.size, 0, none⟩) 1 1, .int .i64 0] (by rfl) (by rfl) hnw (by simp [Value.oneCell']) (by omega) (by unfold maxLen; omega) (by omega) (by have := hb9.size; simp; omega) (W9.heap.size + 2) (by simp) ?_; intro gg cap w5 hown5 hgrow5 hat hlt5))
          have kA := (Below.refl W9.heap.size W9).alloc (Nat.le_refl _) (.cells #[.string (gLetB k), .bool true, .int .i64 0, .int .i64 0] 68)
          have kB := (Below.refl (W9.alloc (.cells #[.string (gLetB k), .bool true, .int .i64 0, .int .i64 0] 68)).heap.size (W9.alloc (.cells #[.string (gLetB k), .bool true, .int .i64 0, .int .i64 0] 68))).alloc (Nat.le_refl _) (.cells #[.int .i64 (1 + (qm : Int)), .string ⟨#[]⟩, .slice (some ⟨W9.heap.size, 0, none⟩) 1 1, .int .i64 0] 64)
          have hbA := hb9.trans (kA.mono hb9.size)
          have hbB := hbA.trans (kB.mono hbA.size)
          have hGz := hG.below hbB
          have hU := (growL_lit (base := w.heap.size) (w := W9) (Nat.le_trans hwW hb9.size) k).below kB
          have hlts := own_lt hG
          have h9s := hb9.size
          have hp := hGz.push (l := [litG k]) (u := .slice (some ⟨W9.heap.size, 0, none⟩) 1 1) (cs := [.int .i64 (1 + (qm : Int)), .string ⟨#[]⟩, .slice (some ⟨W9.heap.size, 0, none⟩) 1 1, .int .i64 0]) (by omega) (by rw [List.length_map, hsl]; exact hown5) hgrow5 (own_new hat (by simp)) rfl rfl hU (fun b hb e => by have h0 := hlts.1 b e; have hb' : W9.heap.size = b := Option.some.inj hb; omega) (fun i u' b h1 h2 hb e => by have h0 := hlts.2 i u' b h1 h2 e; have hb' : W9.heap.size = b := Option.some.inj hb; omega)
          have hbW : Below w.heap.size w w5 := (hb.trans (hbB.mono hwW)).grown hgrow5 (by have := hbB.size; omega) (fun b hb => (hG.own.lt b hb).1)
          have HD2 : Hid (DRow (xs ++ [.int .i64 (1 + (qm : Int)), .string ⟨#[]⟩, .slice (some ⟨W9.heap.size, 0, none⟩) 1 1, .int .i64 0]) (st ++ [(1 + (qm : Int), [litG k])])) := Lib.hid (HD.out.push (by have := hG.own.1; rw [List.length_map] at this; exact this))
          clear hown5 hgrow5 own9 hnw kA kB hbA hbB hGz hU hlts hown2 hown
          go_round
          case rel => exact ⟨k + 1, _, by omega, by omega, by go_num, hbW, by rw [HA.out, List.map_append]; exact hp, by rw [HA.out]; exact HD2⟩
          case measure => simp [intOf]; omega
        · have i5 : ¬ (q : Int) > 4 := by omega
          go_upto_region 10 with (first | (go_at_call 20; (with_reducible refine (HC.out _).mono ?_); rintro e w9 ⟨rfl, rfl⟩))
          have HO := Lib.hid (fun (W9 : World) (h : Below W.heap.size W W9) => own_below hown2 h)
          go_wp2_with (first
           | (go_at_call 34; (refine (HLit.out _).mono ?_); rintro e W9 ⟨rfl, hb9⟩; have own9 := HO.out _ hb9; have hsA : (W9.alloc (.cells #[.string (gLetB k), .bool true, .int .i64 0, .int .i64 0] 68)).heap.size = W9.heap.size + 1 := (by simp); have hnw : ∀ j u, ([.int .i64 (1 + (qm : Int)), .string ⟨#[]⟩, .slice (some ⟨W9.heap.size, 0, none⟩) 1 1, .int .i64 0] : List Value)[j]? = some u → ((W9.alloc (.cells #[.string (gLetB k), .bool true, .int .i64 0, .int .i64 0] 68)).alloc (.cells #[.int .i64 (1 + (qm : Int)), .string ⟨#[]⟩, .slice (some ⟨W9.heap.size, 0, none⟩) 1 1, .int .i64 0] 64)).cell? ((⟨W9.heap.size + 1, 0, none⟩ : Addr).add j) = some u := by (rw [← hsA]; exact rd_news _ [.int .i64 (1 + (qm : Int)), .string ⟨#[]⟩, .slice (some ⟨W9.heap.size, 0, none⟩) 1 1, .int .i64 0] _))
           | (refine wpList_append_lies _ (by rfl) _ _ _ (by rfl) w.heap.size 64 i0 (.agg #[.int .i64 0, .string ByteArray.empty, .slice none 0 0, .int .i64 0]) 4 56 Try.underlying22 hi iz0 iz1 iz2 rfl (by omega) (.slice xa sl xc) sl xs (by rfl) ((own9.alloc _).alloc _) ⟨W9.heap.size + 1, 0, none⟩ 1 1 [.int .i64 (1 + (qm : Int)), .string ⟨#[]⟩, .slice (some ⟨W9.heap.size, 0, none⟩) 1 1, .int .i64 0] (by rfl) (by rfl) hnw (by simp [Value.oneCell']) (by omega) (by unfold maxLen; omega) (by omega) (by have := hb9.size; simp; omega) (W9.heap.size + 2) (by simp) ?_; intro gg cap w5 hown5 hgrow5 hat hlt5))
          have kA := (Below.refl W9.heap.size W9).alloc (Nat.le_refl _) (.cells #[.string (gLetB k), .bool true, .int .i64 0, .int .i64 0] 68)
          have kB := (Below.refl (W9.alloc (.cells #[.string (gLetB k), .bool true, .int .i64 0, .int .i64 0] 68)).heap.size (W9.alloc (.cells #[.string (gLetB k), .bool true, .int .i64 0, .int .i64 0] 68))).alloc (Nat.le_refl _) (.cells #[.int .i64 (1 + (qm : Int)), .string ⟨#[]⟩, .slice (some ⟨W9.heap.size, 0, none⟩) 1 1, .int .i64 0] 64)
          have hbA := hb9.trans (kA.mono hb9.size)
          have hbB := hbA.trans (kB.mono hbA.size)
          have hGz := hG.below hbB
          have hU := (growL_lit (base := w.heap.size) (w := W9) (Nat.le_trans hwW hb9.size) k).below kB
          have hlts := own_lt hG
          have h9s := hb9.size
          have hp := hGz.push (l := [litG k]) (u := .slice (some ⟨W9.heap.size, 0, none⟩) 1 1) (cs := [.int .i64 (1 + (qm : Int)), .string ⟨#[]⟩, .slice (some ⟨W9.heap.size, 0, none⟩) 1 1, .int .i64 0]) (by omega) (by rw [List.length_map, hsl]; exact hown5) hgrow5 (own_new hat (by simp)) rfl rfl hU (fun b hb e => by have h0 := hlts.1 b e; have hb' : W9.heap.size = b := Option.some.inj hb; omega) (fun i u' b h1 h2 hb e => by have h0 := hlts.2 i u' b h1 h2 e; have hb' : W9.heap.size = b := Option.some.inj hb; omega)
          have hbW : Below w.heap.size w w5 := (hb.trans (hbB.mono hwW)).grown hgrow5 (by have := hbB.size; omega) (fun b hb => (hG.own.lt b hb).1)
          have HD2 : Hid (DRow (xs ++ [.int .i64 (1 + (qm : Int)), .string ⟨#[]⟩, .slice (some ⟨W9.heap.size, 0, none⟩) 1 1, .int .i64 0]) (st ++ [(1 + (qm : Int), [litG k])])) := Lib.hid (HD.out.push (by have := hG.own.1; rw [List.length_map] at this; exact this))
          clear hown5 hgrow5 own9 hnw kA kB hbA hbB hGz hU hlts hown2 hown
          go_round
          case rel => exact ⟨k + 1, _, by omega, by omega, by go_num, hbW, by rw [HA.out, List.map_append]; exact hp, by rw [HA.out]; exact HD2⟩
          case measure => simp [intOf]; omega
  · have hkm : min n 4 = k := by omega
    by_cases hkn : k < n
    all_goals
     go_wp2_with fail
     go_ret
     exact ⟨_, xs, rfl, by rw [hkm]; exact hG, by rw [hkm]; exact HD.out, hb⟩
end
end Go.Proofs.Ytkgbifbbpmdpgaa
