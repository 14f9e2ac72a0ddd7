/- The tokens of a grammar have numbers of their own: all but the three that always are, each another one. Of no program but for names. -/
import Derived.Test.YtkgbifbbpmdpgaaNNmA
set_option linter.unusedVariables false
set_option linter.unusedSimpArgs false
namespace Go.Proofs.Ytkgbifbbpmdpgaa

theorem getT_push (l : List Tk) (k : Tk) (i : Nat) : (l ++ [k]).getD i noTk = if i = l.length then k else l.getD i noTk := by
 rw [List.getD_eq_getElem?_getD, List.getD_eq_getElem?_getD, List.getElem?_append]
 grind
theorem getB_push (l : List Bool) (k : Bool) (i : Nat) : (l ++ [k]).getD i false = if i = l.length then k else l.getD i false := by
 rw [List.getD_eq_getElem?_getD, List.getD_eq_getElem?_getD, List.getElem?_append]
 grind
theorem getT_set (l : List Tk) (t : Nat) (x : Tk) (i : Nat) : (l.set t x).getD i noTk = if i = t ∧ t < l.length then x else l.getD i noTk := by
 rw [List.getD_eq_getElem?_getD, List.getD_eq_getElem?_getD, List.getElem?_set]
 grind
theorem getB_set (l : List Bool) (t : Nat) (x : Bool) (i : Nat) : (l.set t x).getD i false = if i = t ∧ t < l.length then x else l.getD i false := by
 rw [List.getD_eq_getElem?_getD, List.getD_eq_getElem?_getD, List.getElem?_set]
 grind
structure NumI (ts : List Tk) (gs : List Bool) : Prop where
 gv : gs.length = ts.length
 t3 : 3 ≤ ts.length
 lo : ∀ i, i < 3 → nmAt ts i ≤ 0
 hi : ∀ i, 3 ≤ i → i < ts.length → gs.getD i false = true → 1 ≤ nmAt ts i ∧ nmAt ts i ≤ 50000
 no : ∀ i, 3 ≤ i → i < ts.length → gs.getD i false = false → nmAt ts i = 0
 ne : ∀ i j, 3 ≤ i → i < j → j < ts.length → gs.getD i false = true → gs.getD j false = true → nmAt ts i ≠ nmAt ts j
theorem nmAt_push (l : List Tk) (k : Tk) (i : Nat) : nmAt (l ++ [k]) i = if i = l.length then k.num else nmAt l i := by
 unfold nmAt; rw [getT_push]; split <;> rfl
theorem nmAt_set (l : List Tk) (t : Nat) (x : Tk) (i : Nat) : nmAt (l.set t x) i = if i = t ∧ t < l.length then x.num else nmAt l i := by
 unfold nmAt; rw [getT_set]; split <;> rfl
theorem NumI.push {ts : List Tk} {gs : List Bool} (h : NumI ts gs) (k : Tk) (g : Bool) (hg : g = true → 1 ≤ k.num ∧ k.num ≤ 50000 ∧ ∀ i, 3 ≤ i → i < ts.length → nmAt ts i ≠ k.num) (hn : g = false → k.num = 0) : NumI (ts ++ [k]) (gs ++ [g]) := by
 obtain ⟨gv, t3, lo, hi, no, ne⟩ := h
 refine ⟨by simp [gv], by simp; omega, fun i hi => ?_, fun i h3 hl => ?_, fun i h3 hl => ?_, fun i j h3 hij hl => ?_⟩
 · rw [nmAt_push, if_neg (by omega)]; exact lo i hi
 · rw [nmAt_push, getB_push, gv]
   simp only [List.length_append, List.length_singleton] at hl
   grind
 · rw [nmAt_push, getB_push, gv]
   simp only [List.length_append, List.length_singleton] at hl
   grind
 · rw [nmAt_push, nmAt_push, getB_push, getB_push, gv]
   simp only [List.length_append, List.length_singleton] at hl
   grind
theorem NumI.same {ts : List Tk} {gs : List Bool} (h : NumI ts gs) (t : Nat) (x : Tk) (hx : x.num = nmAt ts t) : NumI (ts.set t x) gs := by
 have e : ∀ i, nmAt (ts.set t x) i = nmAt ts i := fun i => by
  rw [nmAt_set]; split
  · rename_i hh; rw [hx, hh.1]
  · rfl
 obtain ⟨gv, t3, lo, hi, no, ne⟩ := h
 exact ⟨by simp [gv], by simpa using t3, fun i hi => by rw [e]; exact lo i hi, fun i h3 hl => by rw [e]; exact hi i h3 (by simpa using hl), fun i h3 hl => by rw [e]; exact no i h3 (by simpa using hl),
  fun i j h3 hij hl => by rw [e, e]; exact ne i j h3 hij (by simpa using hl)⟩
theorem NumI.give {ts : List Tk} {gs : List Bool} (h : NumI ts gs) (t : Nat) (x : Tk) (ht : 3 ≤ t) (h1 : 1 ≤ x.num) (h2 : x.num ≤ 50000) (ho : ∀ i, 3 ≤ i → i < ts.length → nmAt ts i ≠ x.num) : NumI (ts.set t x) (gs.set t true) := by
 obtain ⟨gv, t3, lo, hi, no, ne⟩ := h
 refine ⟨by simp [gv], by simpa using t3, fun i hi => ?_, fun i h3 hl => ?_, fun i h3 hl => ?_, fun i j h3 hij hl => ?_⟩
 · rw [nmAt_set, if_neg (by omega)]; exact lo i hi
 · rw [nmAt_set, getB_set, gv]; rw [List.length_set] at hl
   grind
 · rw [nmAt_set, getB_set, gv]; rw [List.length_set] at hl
   grind
 · rw [nmAt_set, nmAt_set, getB_set, getB_set, gv]; rw [List.length_set] at hl
   grind
theorem firstN_none' {p : Nat → Bool} {n i : Nat} (h : ¬ 0 ≤ firstN p n i) {j : Nat} (h1 : i ≤ j) (h2 : j < n) : p j = false := by
 cases hp : p j with
 | false => rfl
 | true => exact absurd (firstN_some h1 h2 hp) h
theorem owner_none {m : Mk} {n : Int} (h : ¬ 0 ≤ m.owner n) (i : Nat) (h3 : 3 ≤ i) (hl : i < m.toks.length) : nmAt m.toks i ≠ n := by
 have := firstN_none' h h3 hl
 unfold ownP at this
 exact fun e => by rw [show (m.toks.getD i noTk).num = n from e] at this; simp at this
def NumJ (m : Mk) : Prop := m.e = 0 → NumI m.toks m.given
theorem failIf_e {m : Mk} {b : Bool} {p : Int} {n : ByteArray} (h : (m.failIf b p n).e = 0) : m.e = 0 ∧ b = false := by
 unfold Mk.failIf at h
 cases b with
 | false => exact ⟨h, rfl⟩
 | true =>
   exfalso
   simp only [↓reduceIte] at h
   unfold Mk.fail at h
   split at h
   · exact absurd h (by show ¬ (3 : Int) = 0; omega)
   · rename_i h2; exact h2 h
theorem fail_e {m : Mk} {p : Int} {n : ByteArray} (h : (m.fail p n).e = 0) : False := by
 have := failIf_e (m := m) (b := true) (p := p) (n := n) h
 exact absurd this.2 (by decide)
theorem NumJ.failIf {m : Mk} (h : NumJ m) (b : Bool) (p : Int) (n : ByteArray) : NumJ (m.failIf b p n) := fun he => by
 obtain ⟨a1, a2, a3, _⟩ := m.failIf_same b p n
 rw [a1, a3]; exact h (failIf_e he).1
theorem NumJ.fail {m : Mk} (p : Int) (n : ByteArray) : NumJ (m.fail p n) := fun he => (fail_e he).elim
def SymN (x : Sm) : Prop := (x.lit = true → 1 ≤ byte0 x.name ∧ byte0 x.name ≤ 50000) ∧ x.num ≤ 50000
theorem NumJ.put {m : Mk} (h : NumJ m) {x : Sm} (hx : SymN x) : NumJ (m.put x).1 ∧ ((m.put x).1.e = 0 → (m.put x).2.toNat < (m.put x).1.toks.length ∧ ((m.put x).2.toNat = 1 ∨ 3 ≤ (m.put x).2.toNat)) := by
 by_cases ht : 0 ≤ m.tok x
 · rw [Mk.put_old ht]
   refine ⟨h, fun he => ?_⟩
   unfold Mk.tok at ht ⊢
   rcases firstN_lt (tokP m.toks x) m.toks.length 1 with e | ⟨k, e, h1, h2, h3⟩
   · omega
   · rw [e]
     have : k ≠ 2 := fun e2 => by subst e2; simp [tokP] at h3
     simp only [Int.toNat_natCast]
     omega
 · rw [Mk.put_new ht]
   obtain ⟨a1, a2, a3, _⟩ := m.failIf_same (x.lit && decide (0 ≤ m.owner (byte0 x.name))) x.pos x.name
   refine ⟨fun he => ?_, fun he => ?_⟩
   · have he2 := failIf_e (show (m.failIf (x.lit && decide (0 ≤ m.owner (byte0 x.name))) x.pos x.name).e = 0 from he)
     have hI := h he2.1
     show NumI ((m.failIf _ _ _).toks ++ [_]) ((m.failIf _ _ _).given ++ [_])
     rw [a1, a3]
     refine hI.push _ _ (fun hl => ?_) (fun hl => ?_)
     · have ho : ¬ 0 ≤ m.owner (byte0 x.name) := by have := he2.2; rw [hl] at this; simpa using this
       simp only [hl, ↓reduceIte]
       exact ⟨(hx.1 hl).1, (hx.1 hl).2, fun i h3 hi => owner_none ho i h3 hi⟩
     · simp [hl]
   · have he2 := failIf_e (show (m.failIf (x.lit && decide (0 ≤ m.owner (byte0 x.name))) x.pos x.name).e = 0 from he)
     have hI := h he2.1
     show (m.toks.length : Int).toNat < ((m.failIf _ _ _).toks ++ [_]).length ∧ _
     rw [a1]
     have := hI.t3
     simp only [List.length_append, List.length_singleton, Int.toNat_natCast]
     omega
theorem NumJ.setTok {m : Mk} (h : NumJ m) (i : Nat) (f : Tk → Tk) (hf : ∀ k, (f k).num = k.num) : NumJ (m.setTok i f) := fun he => (h he).same i _ (hf _)
theorem NumJ.declare {m : Mk} (h : NumJ m) (d : Dc) {x : Sm} (hx : SymN x) : NumJ (m.declare d x) := by
 unfold Mk.declare
 split
 · unfold Mk.dType
   split
   · exact h
   · exact h.failIf _ _ _
 · obtain ⟨h1, ht⟩ := h.put hx
   generalize (m.put x).2.toNat = t at ht ⊢
   generalize (m.put x).1 = p at h1 ht ⊢
   have h2 : NumJ (p.dLevel d.kind x t) ∧ ((p.dLevel d.kind x t).e = 0 → t < (p.dLevel d.kind x t).toks.length ∧ (t = 1 ∨ 3 ≤ t)) := by
    unfold Mk.dLevel; split
    · exact ⟨h1, ht⟩
    · refine ⟨(h1.failIf _ _ _).setTok _ _ (fun k => rfl), fun he => ?_⟩
      have hh := ht (failIf_e (show (p.failIf _ _ _).e = 0 from he)).1
      refine ⟨?_, hh.2⟩
      show t < ((p.failIf _ _ _).toks.set _ _).length
      rw [List.length_set, (p.failIf_same _ _ _).1]
      exact hh.1
   clear h1 ht
   generalize p.dLevel d.kind x t = q at h2 ⊢
   have h3 : NumJ (q.dNum x t) := by
    unfold Mk.dNum; split
    · rename_i hn
      obtain ⟨a1, a2, a3, _⟩ := q.failIf_same ((t == 1) || (q.given.getD t false || decide (0 ≤ q.owner x.num))) x.pos x.name
      intro he
      have he2 := failIf_e (show (q.failIf ((t == 1) || (q.given.getD t false || decide (0 ≤ q.owner x.num))) x.pos x.name).e = 0 from he)
      have hI := h2.1 he2.1
      have hT := h2.2 he2.1
      have hb := he2.2
      simp only [Bool.or_eq_false_iff, beq_eq_false_iff_ne, decide_eq_false_iff_not] at hb
      show NumI ((q.failIf _ _ _).toks.set t _) ((q.failIf _ _ _).given.set t true)
      rw [a1, a3]
      exact hI.give t _ (hT.2.resolve_left hb.1) (by show 1 ≤ x.num; omega) hx.2 (fun i h3 hi => owner_none hb.2.2 i h3 hi)
    · exact h2.1
   unfold Mk.dTag; split
   · exact h3
   · exact (h3.failIf _ _ _).setTok _ _ (fun k => rfl)
theorem NumJ.symTo {d : Dc} {s : Mk × ByteArray} (h : NumJ s.1) (hd : ∀ x ∈ d.syms, SymN x) : ∀ k, k ≤ d.syms.length → NumJ (symTo d s k).1
 | 0, _ => h
 | k + 1, hk => by
   show NumJ (symStep d (d.syms.getD k noSm) (Go.Proofs.Ytkgbifbbpmdpgaa.symTo d s k)).1
   have hx : SymN (d.syms.getD k noSm) := hd _ (by rw [List.getD_eq_getElem?_getD, List.getElem?_eq_getElem (by omega)]; exact List.getElem_mem _)
   unfold symStep
   split
   · exact (NumJ.symTo h hd k (by omega)).failIf _ _ _
   · exact (NumJ.symTo h hd k (by omega)).declare _ hx
theorem NumJ.dclTo {ds : List Dc} {s : Mk × ByteArray} (h : NumJ s.1) (hd : ∀ d ∈ ds, ∀ x ∈ d.syms, SymN x) : ∀ i, i ≤ ds.length → NumJ (dclTo ds s i).1
 | 0, _ => h
 | i + 1, hi => by
   have hm : ds.getD i noDc ∈ ds := by rw [List.getD_eq_getElem?_getD, List.getElem?_eq_getElem (by omega)]; exact List.getElem_mem _
   refine NumJ.symTo (d := ds.getD i noDc) (s := (levUp (ds.getD i noDc) (Go.Proofs.Ytkgbifbbpmdpgaa.dclTo ds s i).1, (Go.Proofs.Ytkgbifbbpmdpgaa.dclTo ds s i).2)) ?_ (hd _ hm) _ (Nat.le_refl _)
   have h2 := NumJ.dclTo (ds := ds) h hd i (by omega)
   show NumJ (levUp _ _)
   unfold levUp
   split
   · exact h2
   · exact h2
theorem NumJ.ruTo {rs : List Rl} {m : Mk} (h : NumJ m) : ∀ i, NumJ (ruTo rs m i)
 | 0 => h
 | i + 1 => by
   show NumJ (ruB (rs.getD i noRl) (ruA (rs.getD i noRl) (Go.Proofs.Ytkgbifbbpmdpgaa.ruTo rs m i)))
   have h2 : NumJ (ruA (rs.getD i noRl) (Go.Proofs.Ytkgbifbbpmdpgaa.ruTo rs m i)) := (NumJ.ruTo h i).failIf _ _ _
   unfold ruB
   split
   · exact h2
   · exact h2
theorem NumJ.tysTo {d : Dc} {m : Mk} (h : NumJ m) : ∀ k, NumJ (tysTo d m k)
 | 0 => h
 | k + 1 => (NumJ.tysTo h k).failIf _ _ _
theorem NumJ.tydTo {ds : List Dc} {m : Mk} (h : NumJ m) : ∀ i, NumJ (tydTo ds m i)
 | 0 => h
 | i + 1 => NumJ.tysTo (NumJ.tydTo h i) _
theorem NumJ.symbol {m : Mk} (h : NumJ m) {x : Sm} (hx : SymN x) : NumJ (m.symbol x).1 := by
 unfold Mk.symbol
 split
 · exact (h.put hx).1
 · split
   · exact h
   · split
     · exact NumJ.fail _ _
     · exact h
theorem NumJ.auTo {m : Mk} (h : NumJ m) (a : Al) (ha : ∀ p ∈ a.parts, p.code.size = 0 → SymN p.sym) : ∀ i, i ≤ a.parts.length → NumJ (auTo m a i).m
 | 0, _ => h
 | i + 1, hi => by
   show NumJ (auStep _ i _ (Go.Proofs.Ytkgbifbbpmdpgaa.auTo m a i)).m
   have h2 := NumJ.auTo h a ha i (by omega)
   have hm : a.parts.getD i ⟨noSm, ⟨#[]⟩, 0⟩ ∈ a.parts := by rw [List.getD_eq_getElem?_getD, List.getElem?_eq_getElem (by omega)]; exact List.getElem_mem _
   unfold auStep
   split
   · rename_i hc; exact h2.symbol (ha _ hm hc)
   · split
     · exact h2
     · exact h2
theorem NumJ.alt {m : Mk} (h : NumJ m) (ln : ByteArray) (a : Al) (ha : ∀ p ∈ a.parts, p.code.size = 0 → SymN p.sym) (hp : a.prec.name.size ≠ 0 → SymN a.prec) : NumJ (m.alt ln a) := by
 unfold Mk.alt
 have hs := NumJ.auTo h a ha a.parts.length (Nat.le_refl _)
 generalize Go.Proofs.Ytkgbifbbpmdpgaa.auTo m a a.parts.length = s at hs ⊢
 have hq : NumJ (s.m.altPrec a.prec s.right).1 := by
  unfold Mk.altPrec
  split
  · exact hs
  · rename_i hz
    split
    · exact hs.symbol (hp hz)
    · split
      · exact hs.symbol (hp hz)
      · exact NumJ.fail _ _
 exact hq
def AltN (a : Al) : Prop := (∀ p ∈ a.parts, p.code.size = 0 → SymN p.sym) ∧ (a.prec.name.size ≠ 0 → SymN a.prec)
theorem NumJ.altsTo {r : Rl} {m : Mk} (h : NumJ m) (hr : ∀ a ∈ r.alts, AltN a) : ∀ k, k ≤ r.alts.length → NumJ (altsTo r m k)
 | 0, _ => h
 | k + 1, hk => by
   have hm : r.alts.getD k noAl ∈ r.alts := by rw [List.getD_eq_getElem?_getD, List.getElem?_eq_getElem (by omega)]; exact List.getElem_mem _
   exact (NumJ.altsTo h hr k (by omega)).alt _ _ (hr _ hm).1 (hr _ hm).2
theorem NumJ.rulTo {rs : List Rl} {m : Mk} (h : NumJ m) (hr : ∀ r ∈ rs, ∀ a ∈ r.alts, AltN a) : ∀ i, i ≤ rs.length → NumJ (rulTo rs m i)
 | 0, _ => h
 | i + 1, hi => by
   have hm : rs.getD i noRl ∈ rs := by rw [List.getD_eq_getElem?_getD, List.getElem?_eq_getElem (by omega)]; exact List.getElem_mem _
   exact NumJ.altsTo (NumJ.rulTo h hr i (by omega)) (hr _ hm) _ (Nat.le_refl _)
end Go.Proofs.Ytkgbifbbpmdpgaa
