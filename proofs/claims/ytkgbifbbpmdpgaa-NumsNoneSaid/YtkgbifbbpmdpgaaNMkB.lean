/- The maker's tokens written over; fail, opened. -/
import Derived.Test.YtkgbifbbpmdpgaaNOf3
set_option linter.unusedVariables false
set_option linter.unusedSimpArgs false
namespace Go.Proofs.Ytkgbifbbpmdpgaa

open Go.RowKit
variable {w W w5 : World} {B M : Nat} {F S : Nat → Prop} {m : Mk} {tv pv gv yv lv y : Value} {ys : List Value}
theorem Goes.same' {w w' : World} {r : Value} (h : MkV w' B M F S m) (hb : Below w.heap.size w w') : Goes w B M F S m r (.returned r) w' := ⟨F, rfl, h, fun b hb => .inl hb, Fr.of_below hb⟩
theorem foot_same (M : Nat) (tv pv gv yv lv : Value) (ys ys' : List Value) (m m' : Mk) (b : Nat) : footS M (mkRows tv pv gv yv lv ys m) b ↔ footS M (mkRows tv pv gv yv lv ys' m') b := by
 unfold footS mkRows
 simp
theorem flat_get {α : Type} {f : α → List Value} {size : Nat} (hf : ∀ x, (f x).length = size) : ∀ (l : List α) (t j : Nat) (x : α), l[t]? = some x → j < size → (l.flatMap f)[t * size + j]? = (f x)[j]?
 | [], t, j, x, h, _ => by simp at h
 | y :: l, 0, j, x, h, hj => by
   simp at h; subst h
   simp only [List.flatMap_cons, Nat.zero_mul, Nat.zero_add]
   rw [List.getElem?_append_left (by rw [hf]; exact hj)]
 | y :: l, t + 1, j, x, h, hj => by
   simp only [List.flatMap_cons]
   rw [List.getElem?_append_right (by rw [hf, Nat.succ_mul]; omega), hf, show (t + 1) * size + j - size = t * size + j by rw [Nat.succ_mul]; omega]
   exact flat_get hf l t j x (by simpa using h) hj
theorem flat_set {α : Type} {f : α → List Value} {size : Nat} (hf : ∀ x, (f x).length = size) : ∀ (l : List α) (t j : Nat) (u : Value) (x x' : α), l[t]? = some x → j < size → f x' = (f x).set j u → (l.flatMap f).set (t * size + j) u = (l.set t x').flatMap f
 | [], t, j, u, x, x', h, _, _ => by simp at h
 | y :: l, 0, j, u, x, x', h, hj, hx => by
   simp at h; subst h
   simp only [List.flatMap_cons, Nat.zero_mul, Nat.zero_add, List.set_cons_zero]
   rw [List.set_append_left _ _ (by rw [hf]; exact hj), hx]
 | y :: l, t + 1, j, u, x, x', h, hj, hx => by
   simp only [List.flatMap_cons, List.set_cons_succ]
   rw [List.set_append_right _ _ (by rw [hf, Nat.succ_mul]; omega), hf, show (t + 1) * size + j - size = t * size + j by rw [Nat.succ_mul]; omega]
   rw [flat_set hf l t j u x x' (by simpa using h) hj hx]
set_option maxRecDepth 100000 in
theorem fail_open (h : MkO w B M S m tv pv gv yv lv ys) (p : Int) (n : ByteArray) : Calls Try.prog 45 #[.pointer (some ⟨M, 0, none⟩), .int .i64 p, .string n] w (fun e w' => e = .returned (.tuple #[]) ∧ MkO w' B M S (m.fail p n) tv pv gv yv lv ys ∧ Fr (fun b => b = M) w w') := by
 have x8 := h.1.cell 8
 simp only [mkCells, List.getElem?_cons_succ, List.getElem?_cons_zero] at x8
 by_cases he : m.e = 0
 · have HK := Lib.hid h.1
   have HF := Lib.hid h.2
   have HE : Hid (m.fail p n = { m with e := 3, pos := p, name := n }) := Lib.hid (if_pos he)
   rw [he] at x8
   have f8 := h.1.free 8
   have f9 := h.1.free 9
   have f10 := h.1.free 10
   have x9 := h.1.cell 9
   simp only [mkCells, List.getElem?_cons_succ, List.getElem?_cons_zero] at x9
   have x10 := h.1.cell 10
   simp only [mkCells, List.getElem?_cons_succ, List.getElem?_cons_zero] at x10
   clear h
   go_enter Try.func45, Try.ntmps45
   go_wp2_with fail
   go_end0
   have hF : Fr (fun b => b = M) w (((w.setCell ⟨M, 8, none⟩ (.int .i64 3)).setCell ⟨M, 9, none⟩ (.int .i64 p)).setCell ⟨M, 10, none⟩ (.string n)) := (((Fr.set (D := fun b => b = M) w ⟨M, 8, none⟩ _ rfl).trans (Fr.set (D := fun b => b = M) _ ⟨M, 9, none⟩ _ rfl) (fun b hb => .inl hb)).trans (Fr.set (D := fun b => b = M) _ ⟨M, 10, none⟩ _ rfl) (fun b hb => .inl hb))
   refine ⟨rfl, ?_, hF⟩
   rw [HE.out]
   exact ⟨((HK.out.put 8 _).put 9 _).put 10 _, HF.out.frame hF (fun b hS hb => (HK.out.low b hS).2.2 hb)⟩
 · have HE : m.fail p n = m := if_neg he
   rw [HE]
   have HH := Lib.hid h
   have hb : (m.e == 0) = false := by simpa using he
   clear h HE
   go_enter Try.func45, Try.ntmps45
   go_wp2_with fail
   go_end0
   exact ⟨rfl, HH.out, Fr.refl _ _⟩
section
variable {g n c t j : Nat} {u : Value} {k' : Tk}
theorem MkO.ntok (h : MkO w B M S m (.slice (some ⟨g, 0, none⟩) n c) pv gv yv lv ys) : n = m.toks.length := by
 have := h.1.own ⟨52, 6, (.slice (some ⟨g, 0, none⟩) n c), m.toks.length, m.toks.flatMap tkC⟩ (by simp [mkRows])
 obtain ⟨_, h2⟩ := this
 simp only at h2
 rcases h2 with ⟨e, _⟩ | ⟨g', cap', cur, e, _⟩
 · cases e
 · injection e
theorem MkO.tokAt (h : MkO w B M S m (.slice (some ⟨g, 0, none⟩) n c) pv gv yv lv ys) (ht : t < n) (hj : j < 6) : w.cell? ⟨g, t * 6 + j, none⟩ = (tkC (m.toks.getD t noTk))[j]? := by
 have hn := h.ntok
 have := h.1.own ⟨52, 6, (.slice (some ⟨g, 0, none⟩) n c), m.toks.length, m.toks.flatMap tkC⟩ (by simp [mkRows])
 simp only at this
 rw [← hn] at this
 rw [this.cellAt _ (by omega), flat_get (f := tkC) (size := 6) (fun _ => rfl) m.toks t j (m.toks.getD t noTk) (by rw [List.getD_eq_getElem?_getD, List.getElem?_eq_getElem (by omega)]; rfl) hj]
theorem MkO.tokFree (h : MkO w B M S m (.slice (some ⟨g, 0, none⟩) n c) pv gv yv lv ys) (i : Nat) : w.frozen? ⟨g, i, none⟩ = false := by
 have hn := h.ntok
 have := h.1.own ⟨52, 6, (.slice (some ⟨g, 0, none⟩) n c), m.toks.length, m.toks.flatMap tkC⟩ (by simp [mkRows])
 simp only at this
 rw [← hn] at this
 exact this.frozenAt i
theorem MkO.setTok (h : MkO w B M S m (.slice (some ⟨g, 0, none⟩) n c) pv gv yv lv ys) (ht : t < n) (hj : j < 6) (hk : tkC k' = (tkC (m.toks.getD t noTk)).set j u) :
  MkO (w.setCell ⟨g, t * 6 + j, none⟩ u) B M S { m with toks := m.toks.set t k' } (.slice (some ⟨g, 0, none⟩) n c) pv gv yv lv ys ∧ Fr (fun b => b = g) w (w.setCell ⟨g, t * 6 + j, none⟩ u) := by
 have hn := h.ntok
 have hs := h.1.store (i := 0) (r := ⟨52, 6, (.slice (some ⟨g, 0, none⟩) n c), m.toks.length, m.toks.flatMap tkC⟩) rfl rfl (t * 6 + j) u
 have hF : Fr (fun b => b = g) w (w.setCell ⟨g, t * 6 + j, none⟩ u) := Fr.set w _ u rfl
 have eR : (mkRows (.slice (some ⟨g, 0, none⟩) n c) pv gv yv lv ys m).set 0 ⟨52, 6, (.slice (some ⟨g, 0, none⟩) n c), m.toks.length, (m.toks.flatMap tkC).set (t * 6 + j) u⟩ = mkRows (.slice (some ⟨g, 0, none⟩) n c) pv gv yv lv ys { m with toks := m.toks.set t k' } := by
  unfold mkRows
  rw [flat_set (f := tkC) (size := 6) (fun _ => rfl) m.toks t j u (m.toks.getD t noTk) k' (by rw [List.getD_eq_getElem?_getD, List.getElem?_eq_getElem (by omega)]; rfl) hj hk]
  simp
 rw [eR] at hs
 exact ⟨⟨hs, h.2.frame hF (fun b hS hb => h.1.apart b hS ⟨52, 6, (.slice (some ⟨g, 0, none⟩) n c), m.toks.length, m.toks.flatMap tkC⟩ (by simp [mkRows]) (by rw [hb]; rfl))⟩, hF⟩
theorem MkO.setNum (h : MkO w B M S m (.slice (some ⟨g, 0, none⟩) n c) pv gv yv lv ys) (ht : t < n) (q : Int) :
  MkO (w.setCell ⟨g, t * 6 + 2, none⟩ (.int .i64 q)) B M S (m.setTok t (fun k => { k with num := q })) (.slice (some ⟨g, 0, none⟩) n c) pv gv yv lv ys ∧ Fr (fun b => b = g) w (w.setCell ⟨g, t * 6 + 2, none⟩ (.int .i64 q)) :=
 h.setTok (k' := { (m.toks.getD t noTk) with num := q }) ht (by omega) rfl
theorem MkO.setTag (h : MkO w B M S m (.slice (some ⟨g, 0, none⟩) n c) pv gv yv lv ys) (ht : t < n) (q : ByteArray) :
  MkO (w.setCell ⟨g, t * 6 + 5, none⟩ (.string q)) B M S (m.setTok t (fun k => { k with tag := q })) (.slice (some ⟨g, 0, none⟩) n c) pv gv yv lv ys ∧ Fr (fun b => b = g) w (w.setCell ⟨g, t * 6 + 5, none⟩ (.string q)) :=
 h.setTok (k' := { (m.toks.getD t noTk) with tag := q }) ht (by omega) rfl
theorem MkO.setLevel (h : MkO w B M S m (.slice (some ⟨g, 0, none⟩) n c) pv gv yv lv ys) (ht : t < n) (p q : Int) :
  MkO ((w.setCell ⟨g, t * 6 + 3, none⟩ (.int .i64 p)).setCell ⟨g, t * 6 + 4, none⟩ (.int .i64 q)) B M S (m.setTok t (fun k => { k with level := p, assoc := q })) (.slice (some ⟨g, 0, none⟩) n c) pv gv yv lv ys ∧ Fr (fun b => b = g) w ((w.setCell ⟨g, t * 6 + 3, none⟩ (.int .i64 p)).setCell ⟨g, t * 6 + 4, none⟩ (.int .i64 q)) := by
 have hn := h.ntok
 obtain ⟨h1, f1⟩ := h.setTok (k' := { (m.toks.getD t noTk) with level := p }) (j := 3) (u := .int .i64 p) ht (by omega) rfl
 have e : (m.toks.set t { (m.toks.getD t noTk) with level := p }).getD t noTk = { (m.toks.getD t noTk) with level := p } := by
  rw [List.getD_eq_getElem?_getD, List.getElem?_set_self (by omega)]; rfl
 obtain ⟨h2, f2⟩ := h1.setTok (k' := { (m.toks.getD t noTk) with level := p, assoc := q }) (j := 4) (u := .int .i64 q) ht (by omega) (by rw [show ({ m with toks := m.toks.set t { (m.toks.getD t noTk) with level := p } } : Mk).toks = m.toks.set t { (m.toks.getD t noTk) with level := p } from rfl, e]; rfl)
 refine ⟨?_, f1.trans f2 (fun b hb => .inl hb)⟩
 have e2 : ({ ({ m with toks := m.toks.set t { (m.toks.getD t noTk) with level := p } } : Mk) with toks := (m.toks.set t { (m.toks.getD t noTk) with level := p }).set t { (m.toks.getD t noTk) with level := p, assoc := q } } : Mk) = m.setTok t (fun k => { k with level := p, assoc := q }) := by
  unfold Mk.setTok
  rw [List.set_set]
 rw [← e2]
 exact h2
theorem MkO.ngiven (h : MkO w B M S m tv pv (.slice (some ⟨g, 0, none⟩) n c) yv lv ys) : n = m.given.length := by
 have := h.1.own ⟨4, 1, (.slice (some ⟨g, 0, none⟩) n c), m.given.length, m.given.flatMap blC⟩ (by simp [mkRows])
 obtain ⟨_, h2⟩ := this
 simp only at h2
 rcases h2 with ⟨e, _⟩ | ⟨g', cap', cur, e, _⟩
 · cases e
 · injection e
theorem MkO.givenAt (h : MkO w B M S m tv pv (.slice (some ⟨g, 0, none⟩) n c) yv lv ys) (ht : t < n) : w.cell? ⟨g, t, none⟩ = some (.bool (m.given.getD t false)) ∧ w.frozen? ⟨g, t, none⟩ = false := by
 have hn := h.ngiven
 have := h.1.own ⟨4, 1, (.slice (some ⟨g, 0, none⟩) n c), m.given.length, m.given.flatMap blC⟩ (by simp [mkRows])
 simp only at this
 rw [← hn] at this
 refine ⟨?_, this.frozenAt t⟩
 have h2 := flat_get (f := blC) (size := 1) (fun _ => rfl) m.given t 0 (m.given.getD t false) (by rw [List.getD_eq_getElem?_getD, List.getElem?_eq_getElem (by omega)]; rfl) (by omega : 0 < 1)
 rw [Nat.mul_one, Nat.add_zero] at h2
 rw [this.cellAt _ (by omega), h2]; rfl
theorem MkO.setGiven (h : MkO w B M S m tv pv (.slice (some ⟨g, 0, none⟩) n c) yv lv ys) (ht : t < n) :
  MkO (w.setCell ⟨g, t, none⟩ (.bool true)) B M S (m.setGiven t) tv pv (.slice (some ⟨g, 0, none⟩) n c) yv lv ys ∧ Fr (fun b => b = g) w (w.setCell ⟨g, t, none⟩ (.bool true)) := by
 have hn := h.ngiven
 have hs := h.1.store (i := 2) (r := ⟨4, 1, (.slice (some ⟨g, 0, none⟩) n c), m.given.length, m.given.flatMap blC⟩) rfl rfl t (.bool true)
 have hF : Fr (fun b => b = g) w (w.setCell ⟨g, t, none⟩ (.bool true)) := Fr.set w _ _ rfl
 have h2 := flat_set (f := blC) (size := 1) (fun _ => rfl) m.given t 0 (.bool true) (m.given.getD t false) true (by rw [List.getD_eq_getElem?_getD, List.getElem?_eq_getElem (by omega)]; rfl) (by omega : 0 < 1) rfl
 rw [Nat.mul_one, Nat.add_zero] at h2
 have eR : (mkRows tv pv (.slice (some ⟨g, 0, none⟩) n c) yv lv ys m).set 2 ⟨4, 1, (.slice (some ⟨g, 0, none⟩) n c), m.given.length, (m.given.flatMap blC).set t (.bool true)⟩ = mkRows tv pv (.slice (some ⟨g, 0, none⟩) n c) yv lv ys (m.setGiven t) := by
  unfold mkRows Mk.setGiven
  rw [h2]
  simp
 rw [eR] at hs
 exact ⟨⟨hs, h.2.frame hF (fun b hS hb => h.1.apart b hS ⟨4, 1, (.slice (some ⟨g, 0, none⟩) n c), m.given.length, m.given.flatMap blC⟩ (by simp [mkRows]) (by rw [hb]; rfl))⟩, hF⟩
end
end Go.Proofs.Ytkgbifbbpmdpgaa
