/- A grammar that Of tells is well formed. Of no program. -/
import Derived.Test.YtkgbifbbpmdpgaaNOf18
import Derived.Test.YtkgbifbbpmdpgaaNBase
import Derived.Lib.Strings
import Derived.Lib.Index
import Derived.Test.YtkgbifbbpmdpgaaNBox
import Derived.Outline
import Derived.Test.YtkgbifbbpmdpgaaRows
import Derived.Test.YtkgbifbbpmdpgaaNOf1
set_option linter.unusedVariables false
set_option linter.unusedSimpArgs false
namespace Go.Proofs.Ytkgbifbbpmdpgaa
section
def SyW (t : Nat) (n : Int) (x : Int) : Prop := (0 ≤ x ∧ x < t) ∨ (1000 ≤ x ∧ x ≤ 1000 + n)
structure PdW (t : Nat) (n : Int) (p : Pd) : Prop where
 lf : 0 ≤ p.left ∧ p.left ≤ n
 rt : ∀ x ∈ p.right, SyW t n x
 pc : -1 ≤ p.prec ∧ p.prec < t
 ag : ∀ x ∈ p.args, SyW t n x
theorem SyW.wide {t t' : Nat} {n n' x : Int} (h : SyW t n x) (ht : t ≤ t') (hn : n ≤ n') : SyW t' n' x := by
 rcases h with h | h
 · exact .inl ⟨h.1, by omega⟩
 · exact .inr ⟨h.1, by omega⟩
theorem PdW.wide {t t' : Nat} {n n' : Int} {p : Pd} (h : PdW t n p) (ht : t ≤ t') (hn : n ≤ n') : PdW t' n' p :=
 ⟨⟨h.lf.1, by have := h.lf.2; omega⟩, fun x hx => (h.rt x hx).wide ht hn, ⟨h.pc.1, by have := h.pc.2; omega⟩, fun x hx => (h.ag x hx).wide ht hn⟩
structure MkW (m : Mk) : Prop where
 t3 : 3 ≤ m.toks.length
 nn : 0 ≤ m.inner
 pr : ∀ p ∈ m.prods, PdW m.toks.length (m.lefts.length + m.inner) p
structure MkL (m m' : Mk) : Prop where
 tk : m.toks.length ≤ m'.toks.length
 pd : m'.prods = m.prods
 lf : m'.lefts = m.lefts
 nn : m'.inner = m.inner
theorem MkL.refl (m : Mk) : MkL m m := ⟨Nat.le_refl _, rfl, rfl, rfl⟩
theorem MkL.trans {a b c : Mk} (h : MkL a b) (h' : MkL b c) : MkL a c := ⟨Nat.le_trans h.tk h'.tk, h'.pd.trans h.pd, h'.lf.trans h.lf, h'.nn.trans h.nn⟩
theorem MkW.more {m m' : Mk} (h : MkW m) (hl : MkL m m') : MkW m' :=
 ⟨Nat.le_trans h.t3 hl.tk, by rw [hl.nn]; exact h.nn, fun p hp => by
  rw [hl.pd] at hp
  rw [hl.lf, hl.nn]
  exact (h.pr p hp).wide hl.tk (Int.le_refl _)⟩
theorem MkL.failIf (m : Mk) (b : Bool) (p : Int) (n : ByteArray) : MkL m (m.failIf b p n) := by
 obtain ⟨a1, a2, a3, a4, a5, a6, a7⟩ := m.failIf_same b p n
 exact ⟨by rw [a1]; exact Nat.le_refl _, a2, a5, a7⟩
theorem MkL.fail (m : Mk) (p : Int) (n : ByteArray) : MkL m (m.fail p n) := by
 obtain ⟨a1, a2, a3, a4, a5, a6, a7⟩ := m.fail_same p n
 exact ⟨by rw [a1]; exact Nat.le_refl _, a2, a5, a7⟩
theorem MkL.put (m : Mk) (x : Sm) : MkL m (m.put x).1 ∧ 0 ≤ (m.put x).2 ∧ (m.put x).2 < (m.put x).1.toks.length := by
 by_cases h : 0 ≤ m.tok x
 · rw [Mk.put_old h]
   refine ⟨MkL.refl m, h, ?_⟩
   unfold Mk.tok at h ⊢
   rcases firstN_lt (tokP m.toks x) m.toks.length 1 with e | ⟨k, e, _, hk, _⟩
   · omega
   · rw [e]; exact Int.ofNat_lt.2 hk
 · rw [Mk.put_new h]
   have hf := MkL.failIf m (x.lit && decide (0 ≤ m.owner (byte0 x.name))) x.pos x.name
   have e := (m.failIf_same (x.lit && decide (0 ≤ m.owner (byte0 x.name))) x.pos x.name).1
   refine ⟨⟨?_, hf.pd, hf.lf, hf.nn⟩, Int.natCast_nonneg _, ?_⟩
   · show m.toks.length ≤ ((m.failIf _ _ _).toks ++ [_]).length
     rw [e]; simp
   · show (m.toks.length : Int) < (((m.failIf _ _ _).toks ++ [_]).length : Nat)
     rw [e]; simp only [List.length_append, List.length_singleton]; omega
theorem MkL.setTok (m : Mk) (i : Nat) (f : Tk → Tk) : MkL m (m.setTok i f) := ⟨by simp [Mk.setTok], rfl, rfl, rfl⟩
theorem MkL.setGiven (m : Mk) (i : Nat) : MkL m (m.setGiven i) := ⟨Nat.le_refl _, rfl, rfl, rfl⟩
theorem MkL.declare (m : Mk) (d : Dc) (x : Sm) : MkL m (m.declare d x) := by
 unfold Mk.declare
 split
 · unfold Mk.dType
   split
   · exact ⟨Nat.le_refl _, rfl, rfl, rfl⟩
   · exact MkL.failIf _ _ _ _
 · have h1 := (MkL.put m x).1
   have h2 : MkL m ((m.put x).1.dLevel d.kind x (m.put x).2.toNat) := by
    unfold Mk.dLevel; split
    · exact h1
    · exact (h1.trans (MkL.failIf _ _ _ _)).trans (MkL.setTok _ _ _)
   have h3 : MkL m (((m.put x).1.dLevel d.kind x (m.put x).2.toNat).dNum x (m.put x).2.toNat) := by
    unfold Mk.dNum; split
    · exact ((h2.trans (MkL.failIf _ _ _ _)).trans (MkL.setTok _ _ _)).trans (MkL.setGiven _ _)
    · exact h2
   unfold Mk.dTag; split
   · exact h3
   · exact (h3.trans (MkL.failIf _ _ _ _)).trans (MkL.setTok _ _ _)
theorem MkL.symTo (d : Dc) (s : Mk × ByteArray) : ∀ k, MkL s.1 (symTo d s k).1
 | 0 => MkL.refl _
 | k + 1 => by
   show MkL s.1 (symStep d (d.syms.getD k noSm) (Go.Proofs.Ytkgbifbbpmdpgaa.symTo d s k)).1
   unfold symStep
   split
   · exact (MkL.symTo d s k).trans (MkL.failIf _ _ _ _)
   · exact (MkL.symTo d s k).trans (MkL.declare _ _ _)
theorem MkL.dclTo (ds : List Dc) (s : Mk × ByteArray) : ∀ i, MkL s.1 (dclTo ds s i).1
 | 0 => MkL.refl _
 | i + 1 => by
   show MkL s.1 (Go.Proofs.Ytkgbifbbpmdpgaa.symTo (ds.getD i noDc) (levUp (ds.getD i noDc) (Go.Proofs.Ytkgbifbbpmdpgaa.dclTo ds s i).1, (Go.Proofs.Ytkgbifbbpmdpgaa.dclTo ds s i).2) (ds.getD i noDc).syms.length).1
   refine (MkL.dclTo ds s i).trans (MkL.trans ?_ (MkL.symTo _ _ _))
   show MkL _ (levUp (ds.getD i noDc) (Go.Proofs.Ytkgbifbbpmdpgaa.dclTo ds s i).1)
   unfold levUp
   split
   · exact ⟨Nat.le_refl _, rfl, rfl, rfl⟩
   · exact MkL.refl _
theorem MkL.symbol (m : Mk) (x : Sm) (h3 : 3 ≤ m.toks.length) (hi : 0 ≤ m.inner) : MkL m (m.symbol x).1 ∧ SyW (m.symbol x).1.toks.length (m.lefts.length + m.inner) (m.symbol x).2 := by
 unfold Mk.symbol
 split
 · have h := MkL.put m x
   exact ⟨h.1, .inl h.2⟩
 · split
   · rename_i h
     refine ⟨MkL.refl _, .inr ?_⟩
     show 1000 ≤ 1001 + m.left x.name ∧ 1001 + m.left x.name ≤ 1000 + (m.lefts.length + m.inner)
     rcases m.left_ge x.name with e | ⟨k, e, hk⟩ <;> omega
   · split
     · refine ⟨MkL.fail _ _ _, .inl ⟨Int.le_refl _, ?_⟩⟩
       have := (MkL.fail m x.pos x.name).tk
       show (0 : Int) < ((m.fail x.pos x.name).toks.length : Nat)
       omega
     · rename_i h
       refine ⟨MkL.refl _, .inl ⟨by show 0 ≤ m.tok x; omega, ?_⟩⟩
       show m.tok x < (m.toks.length : Nat)
       unfold Mk.tok at h ⊢
       rcases firstN_lt (tokP m.toks x) m.toks.length 1 with e | ⟨k, e, _, hk, _⟩
       · omega
       · rw [e]; exact Int.ofNat_lt.2 hk
structure AuW (m : Mk) (s : Au) : Prop where
 w : MkW s.m
 tk : m.toks.length ≤ s.m.toks.length
 lf : s.m.lefts = m.lefts
 nn : m.inner ≤ s.m.inner
 rt : ∀ x ∈ s.right, SyW s.m.toks.length (s.m.lefts.length + s.m.inner) x
theorem AuW.step {m : Mk} {s : Au} (n i : Nat) (w : Pt) (h : AuW m s) : AuW m (auStep n i w s) := by
 obtain ⟨hw, htk, hlf, hnn, hrt⟩ := h
 unfold auStep
 split
 · obtain ⟨h1, h2⟩ := MkL.symbol s.m w.sym hw.t3 hw.nn
   refine ⟨hw.more h1, Nat.le_trans htk h1.tk, h1.lf.trans hlf, by show m.inner ≤ (s.m.symbol w.sym).1.inner; rw [h1.nn]; exact hnn, fun x hx => ?_⟩
   show SyW (s.m.symbol w.sym).1.toks.length ((s.m.symbol w.sym).1.lefts.length + (s.m.symbol w.sym).1.inner) x
   rw [h1.lf, h1.nn]
   rcases List.mem_append.1 hx with hx | hx
   · exact (hrt x hx).wide h1.tk (Int.le_refl _)
   · simp at hx; subst hx; exact h2
 · split
   · exact ⟨hw, htk, hlf, hnn, hrt⟩
   · have hn0 := hw.nn
     refine ⟨⟨hw.t3, ?_, fun p hp => ?_⟩, htk, hlf, ?_, fun x hx => ?_⟩
     · show 0 ≤ s.m.inner + 1; omega
     · rcases List.mem_append.1 hp with hp | hp
       · exact (hw.pr p hp).wide (Nat.le_refl _) (by show (s.m.lefts.length : Int) + s.m.inner ≤ s.m.lefts.length + (s.m.inner + 1); omega)
       · simp at hp
         subst hp
         refine ⟨⟨?_, ?_⟩, fun x hx => by simp at hx, ⟨by show (-1 : Int) ≤ -1; omega, ?_⟩, fun x hx => (hrt x hx).wide (Nat.le_refl _) (by show (s.m.lefts.length : Int) + s.m.inner ≤ s.m.lefts.length + (s.m.inner + 1); omega)⟩
         · show 0 ≤ (s.m.lefts.length : Int) + (s.m.inner + 1); omega
         · show (s.m.lefts.length : Int) + (s.m.inner + 1) ≤ s.m.lefts.length + (s.m.inner + 1); omega
         · show (-1 : Int) < (s.m.toks.length : Nat); omega
     · show m.inner ≤ s.m.inner + 1; omega
     · rcases List.mem_append.1 hx with hx | hx
       · exact (hrt x hx).wide (Nat.le_refl _) (by show (s.m.lefts.length : Int) + s.m.inner ≤ s.m.lefts.length + (s.m.inner + 1); omega)
       · simp at hx; subst hx
         exact .inr ⟨by omega, by show (1000 : Int) + s.m.lefts.length + (s.m.inner + 1) ≤ 1000 + (s.m.lefts.length + (s.m.inner + 1)); omega⟩
theorem AuW.to {m : Mk} (h : MkW m) (a : Al) : ∀ i, AuW m (auTo m a i)
 | 0 => ⟨h, Nat.le_refl _, rfl, Int.le_refl _, fun x hx => by simp [auTo] at hx⟩
 | i + 1 => (AuW.to h a i).step _ _ _
theorem precTo_in {t : Nat} {n : Int} {l : List Int} (h : ∀ x ∈ l, SyW t n x) : ∀ i, i ≤ l.length → -1 ≤ precTo l i ∧ precTo l i < t
 | 0, _ => ⟨by show (-1 : Int) ≤ -1; omega, by show (-1 : Int) < t; omega⟩
 | i + 1, hi => by
   unfold precTo
   split
   · rename_i h1
     have hx : l.getD i 0 ∈ l := by
      rw [List.getD_eq_getElem?_getD, List.getElem?_eq_getElem (by omega)]
      exact List.getElem_mem _
     rcases h _ hx with h2 | h2
     · exact ⟨by omega, h2.2⟩
     · omega
   · exact precTo_in h i (by omega)
theorem MkL.altPrec {m : Mk} (x : Sm) (r : List Int) (h : MkW m) (hr : ∀ y ∈ r, SyW m.toks.length (m.lefts.length + m.inner) y) : MkL m (m.altPrec x r).1 ∧ -1 ≤ (m.altPrec x r).2 ∧ (x.lit = true ∨ m.left x.name < 0 → (m.altPrec x r).2 < (m.altPrec x r).1.toks.length) ∧ (m.altPrec x r).2 < (m.altPrec x r).1.toks.length + 0 := by
 have ht := h.t3
 have put_in : ∀ (hq : x.lit = true ∨ m.left x.name < 0), 0 ≤ (m.symbol x).2 ∧ (m.symbol x).2 < (m.symbol x).1.toks.length := fun hq => by
  unfold Mk.symbol
  split
  · exact (MkL.put m x).2
  · rename_i hl
    rw [if_neg (by rcases hq with e | e; exact absurd e hl; omega)]
    split
    · have := (MkL.fail m x.pos x.name).tk
      exact ⟨Int.le_refl _, by show (0 : Int) < ((m.fail x.pos x.name).toks.length : Nat); omega⟩
    · rename_i h2
      refine ⟨by show 0 ≤ m.tok x; omega, ?_⟩
      show m.tok x < (m.toks.length : Nat)
      unfold Mk.tok at h2 ⊢
      rcases firstN_lt (tokP m.toks x) m.toks.length 1 with e | ⟨k, e, _, hk, _⟩
      · omega
      · rw [e]; exact Int.ofNat_lt.2 hk
 unfold Mk.altPrec
 split
 · have := precTo_in hr r.length (Nat.le_refl _)
   exact ⟨MkL.refl _, this.1, fun _ => this.2, by simpa using this.2⟩
 · split
   · rename_i hl
     have h1 := MkL.symbol m x h.t3 h.nn
     have h2 := put_in (.inl hl)
     exact ⟨h1.1, by omega, fun _ => h2.2, by simpa using h2.2⟩
   · split
     · rename_i hl
       have h1 := MkL.symbol m x h.t3 h.nn
       have h2 := put_in (.inr hl)
       exact ⟨h1.1, by omega, fun _ => h2.2, by simpa using h2.2⟩
     · refine ⟨MkL.fail _ _ _, Int.le_refl _, fun _ => ?_, ?_⟩
       · show (-1 : Int) < ((m.fail x.pos x.name).toks.length : Nat); omega
       · show (-1 : Int) < ((m.fail x.pos x.name).toks.length : Nat) + 0; omega
theorem MkW.alt {m : Mk} (h : MkW m) (ln : ByteArray) (a : Al) : MkW (m.alt ln a) ∧ m.toks.length ≤ (m.alt ln a).toks.length ∧ (m.alt ln a).lefts = m.lefts := by
 have hs := AuW.to h a a.parts.length
 unfold Mk.alt
 generalize auTo m a a.parts.length = s at hs ⊢
 obtain ⟨hw, htk, hlf, hnn, hrt⟩ := hs
 obtain ⟨h1, h2, _, h3⟩ := MkL.altPrec a.prec s.right hw hrt
 simp only
 generalize s.m.altPrec a.prec s.right = q at h1 h2 h3 ⊢
 have hw2 := hw.more h1
 refine ⟨⟨hw2.t3, hw2.nn, fun p hp => ?_⟩, Nat.le_trans htk h1.tk, h1.lf.trans hlf⟩
 rcases List.mem_append.1 hp with hp | hp
 · exact hw2.pr p hp
 · simp at hp
   subst hp
   have hsy : ∀ x ∈ s.right, SyW q.1.toks.length (q.1.lefts.length + q.1.inner) x := fun x hx => by
    rw [h1.lf, h1.nn]; exact (hrt x hx).wide h1.tk (Int.le_refl _)
   refine ⟨⟨?_, ?_⟩, hsy, ⟨h2, by show q.2 < (q.1.toks.length : Nat); simpa using h3⟩, hsy⟩
   · show 0 ≤ 1 + m.left ln
     rcases m.left_ge ln with e | ⟨k, e, hk⟩ <;> omega
   · show 1 + m.left ln ≤ (q.1.lefts.length : Int) + q.1.inner
     have := hw2.nn
     rw [h1.lf, hlf]
     rcases m.left_ge ln with e | ⟨k, e, hk⟩ <;> omega
theorem MkW.altsTo {r : Rl} {m : Mk} (h : MkW m) : ∀ k, MkW (altsTo r m k) ∧ (altsTo r m k).lefts = m.lefts
 | 0 => ⟨h, rfl⟩
 | k + 1 => by
   obtain ⟨a1, a2, a3⟩ := (MkW.altsTo (r := r) h k).1.alt r.left (r.alts.getD k noAl)
   exact ⟨a1, a3.trans (MkW.altsTo (r := r) h k).2⟩
theorem MkW.rulTo {rs : List Rl} {m : Mk} (h : MkW m) : ∀ i, MkW (rulTo rs m i) ∧ (rulTo rs m i).lefts = m.lefts
 | 0 => ⟨h, rfl⟩
 | i + 1 => by
   obtain ⟨a1, a2⟩ := MkW.altsTo (r := rs.getD i noRl) (MkW.rulTo (rs := rs) h i).1 (rs.getD i noRl).alts.length
   exact ⟨a1, a2.trans (MkW.rulTo (rs := rs) h i).2⟩
theorem ofA_w (so : So) : MkW (ofA so) := by
 have h0 : 3 ≤ (ofD so).1.toks.length := (MkL.dclTo so.decls (mk0, ⟨#[]⟩) so.decls.length).tk
 have hi : (ofD so).1.inner = 0 := inner_dclTo so.decls (mk0, ⟨#[]⟩) so.decls.length
 obtain ⟨a1, a2, a3, a4, a5, a6, a7⟩ := ruTo_same so.rules (ofD so).1 so.rules.length
 obtain ⟨b1, b2, b3, b4, b5, b6, b7⟩ := tydTo_same so.decls (ofR so) so.decls.length
 have e1 : (ofT so).toks = (ofD so).1.toks := b1.trans a1
 have e2 : (ofT so).inner = 0 := (b7.trans a7).trans hi
 refine (MkW.rulTo (rs := so.rules) (m := ofF so) ⟨by show 3 ≤ (ofT so).toks.length; rw [e1]; exact h0, by show 0 ≤ (ofT so).inner; rw [e2]; exact Int.le_refl _, fun p hp => ?_⟩ so.rules.length).1
 have hp2 : p = ⟨0, [1001 + (ofT so).left (ofS so)], -1, ⟨#[]⟩, [], 0⟩ := by simpa [ofF] using hp
 subst hp2
 show PdW (ofT so).toks.length ((ofT so).lefts.length + (ofT so).inner) _
 rw [e2]
 refine ⟨⟨Int.le_refl _, by show (0 : Int) ≤ ((ofT so).lefts.length : Int) + 0; omega⟩, fun x hx => ?_, ⟨Int.le_refl _, by show (-1 : Int) < ((ofT so).toks.length : Nat); omega⟩, fun x hx => by simp at hx⟩
 simp at hx
 subst hx
 refine .inr ⟨?_, ?_⟩ <;> rcases (ofT so).left_ge (ofS so) with e | ⟨k, e, hk⟩ <;> omega
end
section
open Go.RowKit
def gAt (s : ByteArray) (j : Nat) : Int := ((s.data.toList.getD j 0).toNat : Int)
theorem gAt_lo (s : ByteArray) (j : Nat) : 0 ≤ gAt s j := Int.natCast_nonneg _
theorem gAt_hi (s : ByteArray) (j : Nat) : gAt s j ≤ 255 := by
 unfold gAt
 have := (s.data.toList.getD j 0).toNat_lt
 omega
theorem gAt_get (s : ByteArray) (j : Nat) (h : j < s.size) : ((s[j]'h).toNat : Int) = gAt s j := by
 unfold gAt
 rw [List.getD_eq_getElem?_getD, List.getElem?_eq_getElem (by simpa using h)]
 rfl
theorem toList_beq {a b : ByteArray} : (a.toList == b.toList) = decide (a.data.toList = b.data.toList) := by
 rw [Lib.toList_data, Lib.toList_data, Bool.eq_iff_iff]; simp
theorem u8_iff (x : UInt8) (n : Int) (h0 : 0 ≤ n) (h1 : n ≤ 255) : x = UInt8.ofNat n.toNat ↔ (x.toNat : Int) = n := by
 constructor
 · rintro rfl
   rw [UInt8.toNat_ofNat']
   omega
 · intro h
   apply UInt8.toNat_inj.1
   rw [UInt8.toNat_ofNat']
   omega
theorem extract_beq {s : ByteArray} {i : Nat} {l : List Int} (hl : i + l.length ≤ s.size) (hb : ∀ x ∈ l, 0 ≤ x ∧ x ≤ 255) :
  ((s.extract i (i + l.length)).toList == (bytesOf l).toList) = true ↔ ∀ j, j < l.length → gAt s (i + j) = l.getD j 0 := by
 rw [toList_beq, decide_eq_true_iff, Lib.extract_data]
 have hs : s.data.toList.length = s.size := rfl
 have e2 : (bytesOf l).data.toList = l.map (fun n => UInt8.ofNat n.toNat) := by simp [bytesOf]
 rw [e2]
 have e3 : i + l.length - i = l.length := by omega
 rw [e3]
 constructor
 · intro h j hj
   have h1 : ((s.data.toList.drop i).take l.length)[j]? = (l.map (fun n => UInt8.ofNat n.toNat))[j]? := by rw [h]
   rw [List.getElem?_take, if_pos hj, List.getElem?_drop, List.getElem?_map] at h1
   rw [List.getElem?_eq_getElem (by omega), List.getElem?_eq_getElem hj] at h1
   simp only [Option.map_some, Option.some.injEq] at h1
   have hm := hb l[j] (List.getElem_mem hj)
   rw [u8_iff _ _ hm.1 hm.2] at h1
   unfold gAt
   rw [List.getD_eq_getElem?_getD, List.getD_eq_getElem?_getD, List.getElem?_eq_getElem (by omega), List.getElem?_eq_getElem hj]
   exact h1
 · intro h
   apply List.ext_getElem
   · simp; omega
   · intro j h1 h2
     have hj : j < l.length := by simpa using h2
     have hm := hb l[j] (List.getElem_mem hj)
     have h3 := h j hj
     unfold gAt at h3
     rw [List.getD_eq_getElem?_getD, List.getD_eq_getElem?_getD, List.getElem?_eq_getElem (by omega), List.getElem?_eq_getElem hj] at h3
     rw [List.getElem_take, List.getElem_drop, List.getElem_map, u8_iff _ _ hm.1 hm.2]
     exact h3
theorem gAt_at (s : ByteArray) (j : Nat) (h : j < s.data.toList.length) : ((s.data.toList[j]'h).toNat : Int) = gAt s j := by
 unfold gAt
 rw [List.getD_eq_getElem?_getD, List.getElem?_eq_getElem h]; rfl
def findB (n : Nat) (g : Nat → Int) (c : Int) (i : Nat) : Int :=
 if i < n then if g i = c then (i : Int) else findB n g c (i + 1) else -1
 termination_by n - i
def findW (n : Nat) (g : Nat → Int) (a b : Int) (i : Nat) : Int :=
 if i + 1 < n then if g i = a ∧ g (i + 1) = b then (i : Int) else findW n g a b (i + 1) else -1
 termination_by n - i
theorem findB_bd (n : Nat) (g : Nat → Int) (c : Int) (i : Nat) : findB n g c i = -1 ∨ ((i : Int) ≤ findB n g c i ∧ findB n g c i < n) := by
 fun_induction findB n g c i with
 | case1 i h h2 => right; omega
 | case2 i h h2 ih => rcases ih with h | h <;> omega
 | case3 i h => left; rfl
theorem findW_bd (n : Nat) (g : Nat → Int) (a b : Int) (i : Nat) : findW n g a b i = -1 ∨ ((i : Int) ≤ findW n g a b i ∧ findW n g a b i + 1 < n) := by
 fun_induction findW n g a b i with
 | case1 i h h2 => right; omega
 | case2 i h h2 ih => rcases ih with h | h <;> omega
 | case3 i h => left; rfl
def quo (n : Nat) (g : Nat → Int) (q : Int) (i : Nat) : Int :=
 if i < n then
  if g i = q then (i : Int) + 1
  else if g i = 92 then (if i + 1 < n ∧ g (i + 1) = 10 then -1 else quo n g q (i + 2))
  else if g i = 10 then -1 else quo n g q (i + 1)
 else -1
 termination_by n - i
theorem quo_bd (n : Nat) (g : Nat → Int) (q : Int) (i : Nat) : quo n g q i = -1 ∨ ((i : Int) < quo n g q i ∧ quo n g q i ≤ n) := by
 fun_induction quo n g q i with
 | case1 i h h2 => right; omega
 | case2 i h h2 h3 h4 => left; rfl
 | case3 i h h2 h3 h4 ih => rcases ih with h | h <;> omega
 | case4 i h h2 h3 h4 => left; rfl
 | case5 i h h2 h3 h4 ih => rcases ih with h | h <;> omega
 | case6 i h => left; rfl
def overF (n : Nat) (g : Nat → Int) (i : Nat) : Int :=
 if g i = 34 ∨ g i = 39 then quo n g (g i) (i + 1)
 else if g i = 96 then (if findB n g 96 (i + 1) = -1 then -1 else findB n g 96 (i + 1) + 1)
 else if i + 1 < n ∧ g i = 47 ∧ g (i + 1) = 47 then (if findB n g 10 i = -1 then (n : Int) else findB n g 10 i)
 else if i + 1 < n ∧ g i = 47 ∧ g (i + 1) = 42 then (if findW n g 42 47 (i + 2) = -1 then -1 else findW n g 42 47 (i + 2) + 2)
 else (i : Int)
theorem overF_bd (n : Nat) (g : Nat → Int) (i : Nat) (hi : i < n) : overF n g i = -1 ∨ ((i : Int) ≤ overF n g i ∧ overF n g i ≤ n) := by
 unfold overF
 have h1 := quo_bd n g (g i) (i + 1)
 have h2 := findB_bd n g 96 (i + 1)
 have h3 := findB_bd n g 10 i
 have h4 := findW_bd n g 42 47 (i + 2)
 split
 · omega
 split
 · split <;> omega
 split
 · split <;> omega
 split
 · split <;> omega
 · omega
def deepF (g : Nat → Int) (i : Nat) (d : Int) : Int := if g i = 123 then d + 1 else if g i = 125 then d - 1 else d
def endF (n : Nat) (g : Nat → Int) (i : Nat) (d : Int) : Int :=
 if i < n then
  if overF n g i < 0 then -1
  else if (i : Int) < overF n g i then endF n g (overF n g i).toNat d
  else if deepF g i d = 0 then (i : Int) + 1 else endF n g (i + 1) (deepF g i d)
 else -1
 termination_by n - i
 decreasing_by all_goals omega
def endS (s : ByteArray) (i : Int) : Int :=
 if 0 ≤ i ∧ i < s.size ∧ gAt s i.toNat = 123 then endF s.size (gAt s) i.toNat 0 else -1
end
section
open Go.RowKit
def behB (n : Nat) (g : Nat → Int) (c : Int) (i : Nat) : Int := if findB n g c i = -1 then -1 else findB n g c i + 1
def behW (n : Nat) (g : Nat → Int) (a b : Int) (i : Nat) : Int := if findW n g a b i = -1 then -1 else findW n g a b i + 2
end
end Go.Proofs.Ytkgbifbbpmdpgaa
