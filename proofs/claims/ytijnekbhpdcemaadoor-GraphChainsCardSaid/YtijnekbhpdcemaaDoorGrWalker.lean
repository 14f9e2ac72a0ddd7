/- The walker's memory: what its blocks hold, and which block is whose. -/
import Derived.Test.YtijnekbhpdcemaaDoorGrLists
import Derived.Test.YtijnekbhpdcemaaDoorGrTarjan2
import Derived.Deep.OwnRows
import Derived.Deep.Draws
namespace Go.Proofs.YtijnekbhpdcemaaDoor
open Go.RowKit
set_option linter.unusedVariables false
set_option linter.unusedSimpArgs false

/-- blocks that nobody has marked are as they were; marks stay -/
structure Kept (tag tag' : Nat → Nat) (w w' : World) : Prop where
  os : w'.os = w.os
  tape : w'.tape = w.tape
  output : w'.output = w.output
  size : w.heap.size ≤ w'.heap.size
  old : ∀ k, k < w.heap.size → tag' k = tag k
  block : ∀ k, k < w.heap.size → tag k = 0 → w'.heap[k]? = w.heap[k]?
def retag (tag : Nat → Nat) (g t : Nat) : Nat → Nat := fun k => if k = g then t else tag k
theorem retag_at (tag : Nat → Nat) (g t : Nat) : retag tag g t g = t := by simp [retag]
theorem retag_ne (tag : Nat → Nat) {g k : Nat} (t : Nat) (h : k ≠ g) : retag tag g t k = tag k := by simp [retag, h]
section
variable {tag tag' tag'' : Nat → Nat} {w w' w'' : World}
theorem Kept.refl (tag : Nat → Nat) (w : World) : Kept tag tag w w := ⟨rfl, rfl, rfl, Nat.le_refl _, fun _ _ => rfl, fun _ _ _ => rfl⟩
theorem Kept.trans (h : Kept tag tag' w w') (k : Kept tag' tag'' w' w'') : Kept tag tag'' w w'' :=
  ⟨k.os.trans h.os, k.tape.trans h.tape, k.output.trans h.output, Nat.le_trans h.size k.size,
    fun i hi => (k.old i (Nat.lt_of_lt_of_le hi h.size)).trans (h.old i hi),
    fun i hi h0 => (k.block i (Nat.lt_of_lt_of_le hi h.size) (by rw [h.old i hi]; exact h0)).trans (h.block i hi h0)⟩
theorem Kept.drewN (h : Kept tag tag' w w') (n : Nat) : Kept tag tag' w (w'.drewN n) := ⟨h.os, h.tape, h.output, h.size, h.old, h.block⟩
theorem Kept.drew (h : Kept tag tag' w w') : Kept tag tag' w w'.drew := ⟨h.os, h.tape, h.output, h.size, h.old, h.block⟩
theorem Kept.alloc (h : Kept tag tag' w w') (o : Obj) : Kept tag tag' w (w'.alloc o) :=
  h.trans ⟨rfl, rfl, rfl, by simp, fun _ _ => rfl, fun k hk _ => Below.heap_alloc _ _ _ hk⟩
theorem Kept.setCell (h : Kept tag tag' w w') {a : Addr} (ha : tag' a.block ≠ 0) (u : Value) : Kept tag tag' w (w'.setCell a u) :=
  h.trans ⟨rfl, rfl, rfl, by simp [World.setCell], fun _ _ => rfl, fun k hk h0 => Below.heap_setCell _ _ _ _ (fun e => ha (by rw [← e]; exact h0))⟩
/-- a store into a block that was not there -/
theorem Kept.setNew (h : Kept tag tag' w w') {a : Addr} (ha : w.heap.size ≤ a.block) (u : Value) : Kept tag tag' w (w'.setCell a u) :=
  ⟨h.os, h.tape, h.output, by simp [World.setCell]; exact h.size, h.old, fun k hk h0 => (Below.heap_setCell _ _ _ _ (by omega)).trans (h.block k hk h0)⟩
theorem Kept.grown (h : Kept tag tag' w w') {row : Option Nat} (hg : w'.grownBy w'' row) (hr : ∀ k, row = some k → tag' k ≠ 0 ∨ w.heap.size ≤ k) : Kept tag tag' w w'' :=
  ⟨hg.os.trans h.os, hg.tape.trans h.tape, hg.output.trans h.output, Nat.le_trans h.size hg.size, h.old, fun k hk h0 =>
    (hg.block k (Nat.lt_of_lt_of_le hk h.size) (fun e => by
      rcases hr k e.symm with g | g
      · exact g (by rw [h.old k hk]; exact h0)
      · omega)).trans (h.block k hk h0)⟩
theorem Kept.retag (h : Kept tag tag' w w') {g t : Nat} (hg : w.heap.size ≤ g) : Kept tag (retag tag' g t) w w' :=
  ⟨h.os, h.tape, h.output, h.size, fun k hk => by rw [retag_ne _ _ (by omega)]; exact h.old k hk, h.block⟩
theorem Kept.below (h : Kept tag tag' w w') {B : Nat} (hB : B ≤ w.heap.size) (h0 : ∀ k, k < B → tag k = 0) : Below B w w' :=
  ⟨h.os, h.tape, h.output, h.size, fun k hk => h.block k (by omega) (h0 k hk)⟩
theorem Kept.owns (h : Kept tag tag' w w') {base : Nat} {e : TypeId} {size n : Nat} {v : Value} {xs : List Value} (ho : w.ownsRow base e size v n xs) (h0 : ∀ k, v.ownBlock = some k → tag k = 0) : w'.ownsRow base e size v n xs := by
  obtain ⟨h1, h2⟩ := ho
  refine ⟨h1, ?_⟩
  rcases h2 with h2 | ⟨g, cap, cur, rfl, hg, hh, r⟩
  · exact .inl h2
  · exact .inr ⟨g, cap, cur, rfl, hg, by rw [h.block g (lt_of_block hh) (h0 g rfl)]; exact hh, r⟩
end

/-! rows of the call's own -/
section
variable {w : World} {base : Nat} {e : TypeId} {size : Nat} {v : Value} {n : Nat} {xs : List Value}
theorem owns_block {w' : World} (h : w.ownsRow base e size v n xs) (hb : ∀ k, v.ownBlock = some k → w'.heap[k]? = w.heap[k]?) : w'.ownsRow base e size v n xs := by
  obtain ⟨h1, h2⟩ := h
  refine ⟨h1, ?_⟩
  rcases h2 with h2 | ⟨g, cap, cur, rfl, hg, hh, r⟩
  · exact .inl h2
  · exact .inr ⟨g, cap, cur, rfl, hg, by rw [hb g rfl]; exact hh, r⟩
theorem owns_at (h : w.ownsRow base e size v n xs) (hn : 0 < n) : ∃ g cap, v = .slice (some ⟨g, 0, none⟩) n cap ∧ base ≤ g ∧ g < w.heap.size ∧ n ≤ cap ∧ cap ≤ maxLen := by
  obtain ⟨h1, h2⟩ := h
  rcases h2 with ⟨_, h0⟩ | ⟨g, cap, cur, rfl, hg, hh, hc, hm, r⟩
  · omega
  · exact ⟨g, cap, rfl, hg, lt_of_block hh, hc, hm⟩
theorem owns_take {g cap m : Nat} (h : w.ownsRow base e size (.slice (some ⟨g, 0, none⟩) n cap) n xs) (hm : m ≤ n) : w.ownsRow base e size (.slice (some ⟨g, 0, none⟩) m cap) m (xs.take (m * size)) := by
  obtain ⟨h1, h2⟩ := h
  have hms : m * size ≤ n * size := Nat.mul_le_mul_right _ hm
  refine ⟨by rw [List.length_take, h1]; omega, ?_⟩
  rcases h2 with ⟨hc, _⟩ | ⟨g', cap', cur, hv, hg, hh, hc, hm2, hs, ht⟩
  · cases hc
  · cases hv
    refine .inr ⟨g, cap, cur, rfl, hg, hh, by omega, hm2, hs, ?_⟩
    rw [← ht, List.take_take, Nat.min_eq_left hms]
theorem owns_len (h : w.ownsRow base e size v n xs) : xs.length = n * size := h.1
theorem grown_rowIs {w' : World} {row : Option Nat} {b : Nat} {t : TypeId} {m : Nat} {f : Nat → Value} (h : w.rowIs b t m f) (hg : w.grownBy w' row) (hr : ∀ k, row = some k → k ≠ b) : w'.rowIs b t m f :=
  h.of_block (hg.block b h.lt (fun he => hr b he.symm rfl))
end

/-- the walker's fields -/
def wF (rv : Value) (n ob lb cb : Nat) (ov cv : Value) (met : Nat) : Nat → Value
  | 0 => rv
  | 1 => .slice (some ⟨ob, 0, none⟩) n n
  | 2 => .slice (some ⟨lb, 0, none⟩) n n
  | 3 => .slice (some ⟨cb, 0, none⟩) n n
  | 4 => ov
  | 5 => cv
  | _ => .int .i64 met

structure WalkV (w : World) (base : Nat) (tag : Nat → Nat) (b : Nat) (rv : Value) (n ob lb cb : Nat) (ov cv : Value) (vs : List Value) (s : TS) : Prop where
  bas : base ≤ w.heap.size
  low : ∀ k, k < base → tag k = 0
  new : ∀ k, w.heap.size ≤ k → tag k = 0
  tb : tag b = 1
  to_ : tag ob = 2
  tl : tag lb = 3
  tc : tag cb = 4
  tov : ∀ k, ov.ownBlock = some k → tag k = 5
  tcv : ∀ k, cv.ownBlock = some k → tag k = 6
  tm : ∀ c, c < s.cps.length → ∀ k, (vs.getD c undef).ownBlock = some k → tag k = 7 + c
  rb : w.rowIs b 59 7 (wF rv n ob lb cb ov cv s.met)
  ro : w.rowIs ob 3 n (fun j => .int .i64 (s.ord j))
  rl : w.rowIs lb 3 n (fun j => .int .i64 (s.low j))
  rc : w.rowIs cb 3 n (fun j => .int .i64 (s.cmp j))
  rov : w.ownsRow base 3 1 ov s.opn.length (s.opn.map (.int .i64))
  rcv : w.ownsRow base 22 1 cv s.cps.length vs
  mem : ∀ c, c < s.cps.length → w.ownsRow base 3 1 (vs.getD c undef) (s.cps.getD c []).length ((s.cps.getD c []).map (.int .i64))

namespace WalkV
variable {w : World} {base : Nat} {tag : Nat → Nat} {b : Nat} {rv : Value} {n ob lb cb : Nat} {ov cv : Value} {vs : List Value} {s : TS}

theorem ne_of_tag {tag : Nat → Nat} {a b x y : Nat} (h1 : tag a = x) (h2 : tag b = y) (h : x ≠ y) : a ≠ b := fun e => h (by rw [← h1, ← h2, e])

/-- the same blocks in another world -/
theorem moved {w' : World} (h : WalkV w base tag b rv n ob lb cb ov cv vs s) (hs : w.heap.size ≤ w'.heap.size) (hb : ∀ k, k < w.heap.size → tag k ≠ 0 → w'.heap[k]? = w.heap[k]?) : WalkV w' base tag b rv n ob lb cb ov cv vs s where
  bas := Nat.le_trans h.bas hs
  low := h.low
  new := fun k hk => h.new k (Nat.le_trans hs hk)
  tb := h.tb
  to_ := h.to_
  tl := h.tl
  tc := h.tc
  tov := h.tov
  tcv := h.tcv
  tm := h.tm
  rb := h.rb.of_block (hb _ h.rb.lt (by rw [h.tb]; omega))
  ro := h.ro.of_block (hb _ h.ro.lt (by rw [h.to_]; omega))
  rl := h.rl.of_block (hb _ h.rl.lt (by rw [h.tl]; omega))
  rc := h.rc.of_block (hb _ h.rc.lt (by rw [h.tc]; omega))
  rov := owns_block h.rov (fun k hk => hb k (h.rov.lt k hk).2 (by rw [h.tov k hk]; omega))
  rcv := owns_block h.rcv (fun k hk => hb k (h.rcv.lt k hk).2 (by rw [h.tcv k hk]; omega))
  mem := fun c hc => owns_block (h.mem c hc) (fun k hk => hb k ((h.mem c hc).lt k hk).2 (by rw [h.tm c hc k hk]; omega))
theorem alloc (h : WalkV w base tag b rv n ob lb cb ov cv vs s) (o : Obj) : WalkV (w.alloc o) base tag b rv n ob lb cb ov cv vs s :=
  h.moved (by simp) (fun k hk _ => Below.heap_alloc _ _ _ hk)
theorem drewN (h : WalkV w base tag b rv n ob lb cb ov cv vs s) (m : Nat) : WalkV (w.drewN m) base tag b rv n ob lb cb ov cv vs s :=
  h.moved (Nat.le_refl _) (fun k hk _ => rfl)
theorem drew (h : WalkV w base tag b rv n ob lb cb ov cv vs s) : WalkV w.drew base tag b rv n ob lb cb ov cv vs s :=
  h.moved (Nat.le_refl _) (fun k hk _ => rfl)
/-- a store into a block that is not the walker's -/
theorem setFree (h : WalkV w base tag b rv n ob lb cb ov cv vs s) {a : Addr} (ha : tag a.block = 0) (u : Value) : WalkV (w.setCell a u) base tag b rv n ob lb cb ov cv vs s :=
  h.moved (by simp [World.setCell]) (fun k hk h0 => Below.heap_setCell _ _ _ _ (fun e => h0 (by rw [e]; exact ha)))
theorem grownFree {w' : World} {row : Option Nat} (h : WalkV w base tag b rv n ob lb cb ov cv vs s) (hg : w.grownBy w' row) (hr : ∀ k, row = some k → tag k = 0) : WalkV w' base tag b rv n ob lb cb ov cv vs s :=
  h.moved hg.size (fun k hk h0 => hg.block k hk (fun e => h0 (hr k e.symm)))

/-- a store into one of the walker's blocks leaves the others -/
theorem rowOther {t : TypeId} {m : Nat} {f : Nat → Value} {a : Addr} {k x y : Nat} (h : w.rowIs k t m f) (hk : tag k = x) (ha : tag a.block = y) (hne : x ≠ y) (u : Value) : (w.setCell a u).rowIs k t m f :=
  h.setOther (ne_of_tag hk ha hne) u
theorem ownOther {e : TypeId} {m sz : Nat} {v : Value} {xs : List Value} {a : Addr} {x y : Nat} (h : w.ownsRow base e sz v m xs) (hk : ∀ k, v.ownBlock = some k → tag k = x) (ha : tag a.block = y) (hne : x ≠ y) (u : Value) : (w.setCell a u).ownsRow base e sz v m xs :=
  owns_block h (fun k hk' => Below.heap_setCell _ _ _ _ (ne_of_tag (hk k hk') ha hne))

theorem setB (h : WalkV w base tag b rv n ob lb cb ov cv vs s) {j : Nat} {u : Value} {ov' cv' : Value} {met' : Nat} {opn' : List Int} {cps' : List (List Int)} {vs' : List Value}
    (hf : ∀ i, i < 7 → (if i = j then u else wF rv n ob lb cb ov cv s.met i) = wF rv n ob lb cb ov' cv' met' i)
    (htov : ∀ k, ov'.ownBlock = some k → tag k = 5) (htcv : ∀ k, cv'.ownBlock = some k → tag k = 6) (htm : ∀ c, c < cps'.length → ∀ k, (vs'.getD c undef).ownBlock = some k → tag k = 7 + c)
    (hrov : w.ownsRow base 3 1 ov' opn'.length (opn'.map (.int .i64)))
    (hrcv : w.ownsRow base 22 1 cv' cps'.length vs')
    (hmem : ∀ c, c < cps'.length → w.ownsRow base 3 1 (vs'.getD c undef) (cps'.getD c []).length ((cps'.getD c []).map (.int .i64))) :
    WalkV (w.setCell ⟨b, j, none⟩ u) base tag b rv n ob lb cb ov' cv' vs' { s with met := met', opn := opn', cps := cps' } where
  bas := by simp [World.setCell]; exact h.bas
  low := h.low
  new := fun k hk => h.new k (by simpa [World.setCell] using hk)
  tb := h.tb
  to_ := h.to_
  tl := h.tl
  tc := h.tc
  tov := htov
  tcv := htcv
  tm := htm
  rb := (h.rb.set j u).congr (fun i hi => hf i hi)
  ro := rowOther h.ro h.to_ (a := ⟨b, j, none⟩) h.tb (by omega) u
  rl := rowOther h.rl h.tl (a := ⟨b, j, none⟩) h.tb (by omega) u
  rc := rowOther h.rc h.tc (a := ⟨b, j, none⟩) h.tb (by omega) u
  rov := ownOther hrov htov (a := ⟨b, j, none⟩) h.tb (by omega) u
  rcv := ownOther hrcv htcv (a := ⟨b, j, none⟩) h.tb (by omega) u
  mem := fun c hc => ownOther (hmem c hc) (htm c hc) (a := ⟨b, j, none⟩) h.tb (by omega) u
theorem setMet (h : WalkV w base tag b rv n ob lb cb ov cv vs s) (m : Nat) : WalkV (w.setCell ⟨b, 6, none⟩ (.int .i64 m)) base tag b rv n ob lb cb ov cv vs { s with met := m } :=
  h.setB (fun i hi => by
    match i, hi with
    | 0, _ => rfl
    | 1, _ => rfl
    | 2, _ => rfl
    | 3, _ => rfl
    | 4, _ => rfl
    | 5, _ => rfl
    | 6, _ => rfl) h.tov h.tcv h.tm h.rov h.rcv h.mem
theorem setOpn (h : WalkV w base tag b rv n ob lb cb ov cv vs s) {ov' : Value} {l : List Int} (h1 : w.ownsRow base 3 1 ov' l.length (l.map (.int .i64))) (h2 : ∀ k, ov'.ownBlock = some k → tag k = 5) :
    WalkV (w.setCell ⟨b, 4, none⟩ ov') base tag b rv n ob lb cb ov' cv vs { s with opn := l } :=
  h.setB (fun i hi => by
    match i, hi with
    | 0, _ => rfl
    | 1, _ => rfl
    | 2, _ => rfl
    | 3, _ => rfl
    | 4, _ => rfl
    | 5, _ => rfl
    | 6, _ => rfl) h2 h.tcv h.tm h1 h.rcv h.mem
theorem setCps (h : WalkV w base tag b rv n ob lb cb ov cv vs s) {cv' : Value} {vs' : List Value} {l : List (List Int)} (h1 : w.ownsRow base 22 1 cv' l.length vs') (h2 : ∀ k, cv'.ownBlock = some k → tag k = 6)
    (h3 : ∀ c, c < l.length → w.ownsRow base 3 1 (vs'.getD c undef) (l.getD c []).length ((l.getD c []).map (.int .i64))) (h4 : ∀ c, c < l.length → ∀ k, (vs'.getD c undef).ownBlock = some k → tag k = 7 + c) :
    WalkV (w.setCell ⟨b, 5, none⟩ cv') base tag b rv n ob lb cb ov cv' vs' { s with cps := l } :=
  h.setB (fun i hi => by
    match i, hi with
    | 0, _ => rfl
    | 1, _ => rfl
    | 2, _ => rfl
    | 3, _ => rfl
    | 4, _ => rfl
    | 5, _ => rfl
    | 6, _ => rfl) h.tov h2 h4 h.rov h1 h3

theorem upd_row {f : Int → Int} {i : Nat} {x : Int} : ∀ j : Nat, (if j = i then Value.int .i64 x else .int .i64 (f j)) = .int .i64 (upd f i x j) := fun j => by
  unfold upd
  by_cases e : j = i
  · subst e; simp
  · rw [if_neg e, if_neg (by omega)]

theorem setOrd (h : WalkV w base tag b rv n ob lb cb ov cv vs s) (i : Nat) (x : Int) : WalkV (w.setCell ⟨ob, i, none⟩ (.int .i64 x)) base tag b rv n ob lb cb ov cv vs { s with ord := upd s.ord i x } where
  bas := by simp [World.setCell]; exact h.bas
  low := h.low
  new := fun k hk => h.new k (by simpa [World.setCell] using hk)
  tb := h.tb
  to_ := h.to_
  tl := h.tl
  tc := h.tc
  tov := h.tov
  tcv := h.tcv
  tm := h.tm
  rb := rowOther h.rb h.tb (a := ⟨ob, i, none⟩) h.to_ (by omega) _
  ro := (h.ro.set i (.int .i64 x)).congr (fun j _ => upd_row j)
  rl := rowOther h.rl h.tl (a := ⟨ob, i, none⟩) h.to_ (by omega) _
  rc := rowOther h.rc h.tc (a := ⟨ob, i, none⟩) h.to_ (by omega) _
  rov := ownOther h.rov h.tov (a := ⟨ob, i, none⟩) h.to_ (by omega) _
  rcv := ownOther h.rcv h.tcv (a := ⟨ob, i, none⟩) h.to_ (by omega) _
  mem := fun c hc => ownOther (h.mem c hc) (h.tm c hc) (a := ⟨ob, i, none⟩) h.to_ (by omega) _
theorem setLow (h : WalkV w base tag b rv n ob lb cb ov cv vs s) (i : Nat) (x : Int) : WalkV (w.setCell ⟨lb, i, none⟩ (.int .i64 x)) base tag b rv n ob lb cb ov cv vs { s with low := upd s.low i x } where
  bas := by simp [World.setCell]; exact h.bas
  low := h.low
  new := fun k hk => h.new k (by simpa [World.setCell] using hk)
  tb := h.tb
  to_ := h.to_
  tl := h.tl
  tc := h.tc
  tov := h.tov
  tcv := h.tcv
  tm := h.tm
  rb := rowOther h.rb h.tb (a := ⟨lb, i, none⟩) h.tl (by omega) _
  rl := (h.rl.set i (.int .i64 x)).congr (fun j _ => upd_row j)
  ro := rowOther h.ro h.to_ (a := ⟨lb, i, none⟩) h.tl (by omega) _
  rc := rowOther h.rc h.tc (a := ⟨lb, i, none⟩) h.tl (by omega) _
  rov := ownOther h.rov h.tov (a := ⟨lb, i, none⟩) h.tl (by omega) _
  rcv := ownOther h.rcv h.tcv (a := ⟨lb, i, none⟩) h.tl (by omega) _
  mem := fun c hc => ownOther (h.mem c hc) (h.tm c hc) (a := ⟨lb, i, none⟩) h.tl (by omega) _
theorem setCmp (h : WalkV w base tag b rv n ob lb cb ov cv vs s) (i : Nat) (x : Int) : WalkV (w.setCell ⟨cb, i, none⟩ (.int .i64 x)) base tag b rv n ob lb cb ov cv vs { s with cmp := upd s.cmp i x } where
  bas := by simp [World.setCell]; exact h.bas
  low := h.low
  new := fun k hk => h.new k (by simpa [World.setCell] using hk)
  tb := h.tb
  to_ := h.to_
  tl := h.tl
  tc := h.tc
  tov := h.tov
  tcv := h.tcv
  tm := h.tm
  rb := rowOther h.rb h.tb (a := ⟨cb, i, none⟩) h.tc (by omega) _
  rc := (h.rc.set i (.int .i64 x)).congr (fun j _ => upd_row j)
  ro := rowOther h.ro h.to_ (a := ⟨cb, i, none⟩) h.tc (by omega) _
  rl := rowOther h.rl h.tl (a := ⟨cb, i, none⟩) h.tc (by omega) _
  rov := ownOther h.rov h.tov (a := ⟨cb, i, none⟩) h.tc (by omega) _
  rcv := ownOther h.rcv h.tcv (a := ⟨cb, i, none⟩) h.tc (by omega) _
  mem := fun c hc => ownOther (h.mem c hc) (h.tm c hc) (a := ⟨cb, i, none⟩) h.tc (by omega) _

/-- an append may have moved a marked row to a new block, which is marked then -/
theorem marks {w' : World} {base : Nat} {tag : Nat → Nat} {e : TypeId} {sz m y : Nat} {v v' : Value} {xs : List Value} (hbas : base ≤ w.heap.size) (hlow : ∀ k, k < base → tag k = 0) (hnew : ∀ k, w.heap.size ≤ k → tag k = 0)
    (hv : ∀ k, v.ownBlock = some k → tag k = y) (hg : w.grownBy w' v.ownBlock) (hl : v'.ownBlock = v.ownBlock ∨ v'.ownBlock = some w.heap.size) (h1 : w'.ownsRow base e sz v' m xs) :
    ∃ tag' : Nat → Nat, (∀ k, k < w.heap.size → tag' k = tag k) ∧ (∀ k, v'.ownBlock = some k → tag' k = y) ∧ (∀ k, k < base → tag' k = 0) ∧ ∀ k, w'.heap.size ≤ k → tag' k = 0 := by
  rcases hl with hl | hl
  · exact ⟨tag, fun _ _ => rfl, fun k hk => hv k (hl ▸ hk), hlow, fun k hk => hnew k (Nat.le_trans hg.size hk)⟩
  · refine ⟨retag tag w.heap.size y, fun k hk => retag_ne _ _ (by omega), fun k hk => ?_, fun k hk => ?_, fun k hk => ?_⟩
    · rw [hl] at hk; cases hk; exact retag_at _ _ _
    · rw [retag_ne _ _ (by omega)]; exact hlow k hk
    · have h2 := (h1.lt _ hl).2
      rw [retag_ne _ _ (by omega)]; exact hnew k (by omega)

theorem openGrown {w' : World} {v' : Value} {l : List Int} (h : WalkV w base tag b rv n ob lb cb ov cv vs s) (hg : w.grownBy w' ov.ownBlock) (hl : v'.ownBlock = ov.ownBlock ∨ v'.ownBlock = some w.heap.size)
    (h1 : w'.ownsRow base 3 1 v' l.length (l.map (.int .i64))) :
    ∃ tag', WalkV (w'.setCell ⟨b, 4, none⟩ v') base tag' b rv n ob lb cb v' cv vs { s with opn := l } ∧ Kept tag tag' w (w'.setCell ⟨b, 4, none⟩ v') := by
  obtain ⟨tag', t1, t2, t3, t4⟩ := marks h.bas h.low h.new h.tov hg hl h1
  have tb : tag' b = 1 := (t1 b h.rb.lt).trans h.tb
  have to' : tag' ob = 2 := (t1 ob h.ro.lt).trans h.to_
  have tl : tag' lb = 3 := (t1 lb h.rl.lt).trans h.tl
  have tc : tag' cb = 4 := (t1 cb h.rc.lt).trans h.tc
  have htcv : ∀ k, cv.ownBlock = some k → tag' k = 6 := fun k hk => (t1 k (h.rcv.lt k hk).2).trans (h.tcv k hk)
  have htm : ∀ c, c < s.cps.length → ∀ k, (vs.getD c undef).ownBlock = some k → tag' k = 7 + c := fun c hc k hk => (t1 k ((h.mem c hc).lt k hk).2).trans (h.tm c hc k hk)
  have same : ∀ k x, tag k = x → x ≠ 5 → k < w.heap.size → w'.heap[k]? = w.heap[k]? := fun k x hk hx hlt => hg.block k hlt (fun e => hx (by rw [← hk, h.tov k e.symm]))
  have rb' := h.rb.of_block (same b 1 h.tb (by omega) h.rb.lt)
  have ro' := h.ro.of_block (same ob 2 h.to_ (by omega) h.ro.lt)
  have rl' := h.rl.of_block (same lb 3 h.tl (by omega) h.rl.lt)
  have rc' := h.rc.of_block (same cb 4 h.tc (by omega) h.rc.lt)
  have rcv' := owns_block h.rcv (fun k hk => same k 6 (h.tcv k hk) (by omega) (h.rcv.lt k hk).2)
  have mem' : ∀ c, c < s.cps.length → w'.ownsRow base 3 1 (vs.getD c undef) (s.cps.getD c []).length ((s.cps.getD c []).map (.int .i64)) := fun c hc => owns_block (h.mem c hc) (fun k hk => same k _ (h.tm c hc k hk) (by omega) ((h.mem c hc).lt k hk).2)
  refine ⟨tag', {
    bas := by simp [World.setCell]; exact Nat.le_trans h.bas hg.size
    low := t3
    new := fun k hk => t4 k (by simpa [World.setCell] using hk)
    tb := tb
    to_ := to'
    tl := tl
    tc := tc
    tov := t2
    tcv := htcv
    tm := htm
    rb := (rb'.set 4 v').congr (fun i hi => by
      match i, hi with
      | 0, _ => rfl
      | 1, _ => rfl
      | 2, _ => rfl
      | 3, _ => rfl
      | 4, _ => rfl
      | 5, _ => rfl
      | 6, _ => rfl)
    ro := rowOther ro' to' (a := ⟨b, 4, none⟩) tb (by omega) _
    rl := rowOther rl' tl (a := ⟨b, 4, none⟩) tb (by omega) _
    rc := rowOther rc' tc (a := ⟨b, 4, none⟩) tb (by omega) _
    rov := ownOther h1 t2 (a := ⟨b, 4, none⟩) tb (by omega) _
    rcv := ownOther rcv' htcv (a := ⟨b, 4, none⟩) tb (by omega) _
    mem := fun c hc => ownOther (mem' c hc) (htm c hc) (a := ⟨b, 4, none⟩) tb (by omega) _ }, ?_⟩
  refine ⟨hg.os, hg.tape, hg.output, by simp [World.setCell]; exact hg.size, t1, fun k hk h0 => ?_⟩
  rw [Below.heap_setCell _ _ _ _ (fun e => by have e' : k = b := e; rw [e', h.tb] at h0; cases h0)]
  exact same k 0 h0 (by omega) hk

theorem compsGrown {w' : World} {v' nv : Value} {M : List Int} (h : WalkV w base tag b rv n ob lb cb ov cv vs s) (hg : w.grownBy w' cv.ownBlock) (hl : v'.ownBlock = cv.ownBlock ∨ v'.ownBlock = some w.heap.size)
    (h1 : w'.ownsRow base 22 1 v' (s.cps.length + 1) (vs ++ [nv])) (h2 : w.ownsRow base 3 1 nv M.length (M.map (.int .i64))) (h3 : ∀ k, nv.ownBlock = some k → tag k = 7 + s.cps.length) :
    ∃ tag', WalkV (w'.setCell ⟨b, 5, none⟩ v') base tag' b rv n ob lb cb ov v' (vs ++ [nv]) { s with cps := s.cps ++ [M] } ∧ Kept tag tag' w (w'.setCell ⟨b, 5, none⟩ v') := by
  obtain ⟨tag', t1, t2, t3, t4⟩ := marks h.bas h.low h.new h.tcv hg hl h1
  have tb : tag' b = 1 := (t1 b h.rb.lt).trans h.tb
  have to' : tag' ob = 2 := (t1 ob h.ro.lt).trans h.to_
  have tl : tag' lb = 3 := (t1 lb h.rl.lt).trans h.tl
  have tc : tag' cb = 4 := (t1 cb h.rc.lt).trans h.tc
  have htov : ∀ k, ov.ownBlock = some k → tag' k = 5 := fun k hk => (t1 k (h.rov.lt k hk).2).trans (h.tov k hk)
  have hvl : vs.length = s.cps.length := by have := h.rcv.1; omega
  have old : ∀ c, c < s.cps.length → (vs ++ [nv]).getD c undef = vs.getD c undef ∧ (s.cps ++ [M]).getD c [] = s.cps.getD c [] := fun c hc =>
    ⟨by rw [List.getD_eq_getElem?_getD, List.getElem?_append_left (by omega), ← List.getD_eq_getElem?_getD], getD_snoc_lt hc⟩
  have last : (vs ++ [nv]).getD s.cps.length undef = nv ∧ (s.cps ++ [M]).getD s.cps.length [] = M :=
    ⟨by rw [List.getD_eq_getElem?_getD, List.getElem?_append_right (by omega)]; simp [hvl], getD_snoc_eq⟩
  have htm : ∀ c, c < (s.cps ++ [M]).length → ∀ k, ((vs ++ [nv]).getD c undef).ownBlock = some k → tag' k = 7 + c := fun c hc k hk => by
    by_cases e : c < s.cps.length
    · rw [(old c e).1] at hk
      exact (t1 k ((h.mem c e).lt k hk).2).trans (h.tm c e k hk)
    · obtain rfl : c = s.cps.length := by simp at hc; omega
      rw [last.1] at hk
      exact (t1 k (h2.lt k hk).2).trans (h3 k hk)
  have same : ∀ k x, tag k = x → x ≠ 6 → k < w.heap.size → w'.heap[k]? = w.heap[k]? := fun k x hk hx hlt => hg.block k hlt (fun e => hx (by rw [← hk, h.tcv k e.symm]))
  have rb' := h.rb.of_block (same b 1 h.tb (by omega) h.rb.lt)
  have ro' := h.ro.of_block (same ob 2 h.to_ (by omega) h.ro.lt)
  have rl' := h.rl.of_block (same lb 3 h.tl (by omega) h.rl.lt)
  have rc' := h.rc.of_block (same cb 4 h.tc (by omega) h.rc.lt)
  have rov' := owns_block h.rov (fun k hk => same k 5 (h.tov k hk) (by omega) (h.rov.lt k hk).2)
  have mem' : ∀ c, c < (s.cps ++ [M]).length → w'.ownsRow base 3 1 ((vs ++ [nv]).getD c undef) ((s.cps ++ [M]).getD c []).length (((s.cps ++ [M]).getD c []).map (.int .i64)) := fun c hc => by
    by_cases e : c < s.cps.length
    · rw [(old c e).1, (old c e).2]
      exact owns_block (h.mem c e) (fun k hk => same k _ (h.tm c e k hk) (by omega) ((h.mem c e).lt k hk).2)
    · obtain rfl : c = s.cps.length := by simp at hc; omega
      rw [last.1, last.2]
      exact owns_block h2 (fun k hk => same k _ (h3 k hk) (by omega) (h2.lt k hk).2)
  refine ⟨tag', {
    bas := by simp [World.setCell]; exact Nat.le_trans h.bas hg.size
    low := t3
    new := fun k hk => t4 k (by simpa [World.setCell] using hk)
    tb := tb
    to_ := to'
    tl := tl
    tc := tc
    tov := htov
    tcv := t2
    tm := htm
    rb := (rb'.set 5 v').congr (fun i hi => by
      match i, hi with
      | 0, _ => rfl
      | 1, _ => rfl
      | 2, _ => rfl
      | 3, _ => rfl
      | 4, _ => rfl
      | 5, _ => rfl
      | 6, _ => rfl)
    ro := rowOther ro' to' (a := ⟨b, 5, none⟩) tb (by omega) _
    rl := rowOther rl' tl (a := ⟨b, 5, none⟩) tb (by omega) _
    rc := rowOther rc' tc (a := ⟨b, 5, none⟩) tb (by omega) _
    rov := ownOther rov' htov (a := ⟨b, 5, none⟩) tb (by omega) _
    rcv := by
      have : (s.cps ++ [M]).length = s.cps.length + 1 := by simp
      rw [this]
      exact ownOther h1 t2 (a := ⟨b, 5, none⟩) tb (by omega) _
    mem := fun c hc => ownOther (mem' c hc) (htm c hc) (a := ⟨b, 5, none⟩) tb (by omega) _ }, ?_⟩
  refine ⟨hg.os, hg.tape, hg.output, by simp [World.setCell]; exact hg.size, t1, fun k hk h0 => ?_⟩
  rw [Below.heap_setCell _ _ _ _ (fun e => by have e' : k = b := e; rw [e', h.tb] at h0; cases h0)]
  exact same k 0 h0 (by omega) hk

/-- a fresh block gets its mark -/
theorem mark (h : WalkV w base tag b rv n ob lb cb ov cv vs s) {w' : World} (hb : Below w.heap.size w w') {g t : Nat} (h1 : w.heap.size ≤ g) (h2 : g < w'.heap.size) : WalkV w' base (retag tag g t) b rv n ob lb cb ov cv vs s := by
  have hr : ∀ k, k < w.heap.size → retag tag g t k = tag k := fun k hk => retag_ne _ _ (by omega)
  have h' := h.moved (w' := w') hb.size (fun k hk _ => hb.block k hk)
  exact {
    bas := h'.bas
    low := fun k hk => by rw [hr k (Nat.lt_of_lt_of_le hk h.bas)]; exact h.low k hk
    new := fun k hk => by rw [retag_ne _ _ (by omega)]; exact h'.new k hk
    tb := (hr b h.rb.lt).trans h.tb
    to_ := (hr ob h.ro.lt).trans h.to_
    tl := (hr lb h.rl.lt).trans h.tl
    tc := (hr cb h.rc.lt).trans h.tc
    tov := fun k hk => (hr k (h.rov.lt k hk).2).trans (h.tov k hk)
    tcv := fun k hk => (hr k (h.rcv.lt k hk).2).trans (h.tcv k hk)
    tm := fun c hc k hk => (hr k ((h.mem c hc).lt k hk).2).trans (h.tm c hc k hk)
    rb := h'.rb
    ro := h'.ro
    rl := h'.rl
    rc := h'.rc
    rov := h'.rov
    rcv := h'.rcv
    mem := h'.mem }
end WalkV

section
variable {P : Program} {w : World}
/-- append, told where the row lies then; as one step of a region that draws -/
theorem step_append_at {ops : Array Oper} {o : Oper} {a : Act} {K : Act → World → Prop} {Q : Exit → Act → World → Prop} {E : Prop} (hgd : o.guard = none) (s x : Operand) (t : TypeId)
    (ho : o.op = .call { callee := .builtin .append, args := #[s, x], argTypes := #[t, t] })
    (base : Nat) (e : TypeId) (i : TypeInfo) (z : Value) (size bytes : Nat) (ht : P.underlying t = some (.slice e)) (hi : P.info? e = some i) (hz : i.zero = some z)
    (hsize : i.size = size) (hby : i.bytes = bytes) (hzs : z.cells.size = size) (hsz : 0 < size)
    (v : Value) (n : Nat) (xs : List Value) (hs : a.eval s = v) (hown : w.ownsRow base e size v n xs)
    (ad : Addr) (m c : Nat) (news : List Value) (hx : a.eval x = .slice (some ad) m c) (hl : news.length = m * size) (hnews : ∀ j u, news[j]? = some u → w.cell? (ad.add j) = some u) (h1 : ∀ u ∈ news, u.oneCell' = true)
    (h63 : n + m ≤ maxLen) (hbytes : (n + m) * bytes ≤ 140737488355328) (hbase : base ≤ w.heap.size)
    (h : ∀ v' w', w'.ownsRow base e size v' (n + m) (xs ++ news) → w.grownBy w' v.ownBlock → (v'.ownBlock = v.ownBlock ∨ v'.ownBlock = some w.heap.size) → K (a.put o.dst v') w') :
    if Region.wanted o (yielded ops a.tmps) = true then Oper.wp P o a w K Q else E := by
  have hw : Region.wanted o (yielded ops a.tmps) = true := by simp [Region.wanted, hgd]
  rw [if_pos hw]
  obtain ⟨v', w', hr, h2, h3, h4, h5⟩ := run_append_own_at (P := P) w base t o.type e i z size bytes ht hi hz hsize hby hzs hsz v n xs hown ad m c news hl hnews h1 h63 hbytes hbase
  unfold Oper.wp execOp
  simp only [ho, resolve, invoke, builtin, Sem.run_bind, Sem.run_pure, Result.andThen_ok, List.map_toArray, List.map_cons, List.map_nil, hs, hx, hr]
  exact h v' w' h2 h3 h5
end

end Go.Proofs.YtijnekbhpdcemaaDoor
