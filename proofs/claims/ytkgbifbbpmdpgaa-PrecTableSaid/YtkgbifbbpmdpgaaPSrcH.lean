/- The source of a grammar by numbers has a grammar: its declarations, its rules' names. Of no program but for names. -/
import Derived.Test.YtkgbifbbpmdpgaaPGrQ
set_option linter.unusedVariables false
set_option linter.unusedSimpArgs false
namespace Go.Proofs.Ytkgbifbbpmdpgaa
section
def lix (x : Sm) : Nat := (byte0 x.name).toNat - 112
theorem lix_lit (k : Nat) : lix (litG k) = k % 4 := by
 unfold lix
 rw [show byte0 (litG k).name = 112 + ((k % 4 : Nat) : Int) from let_byte k]
 omega
theorem dSt_flat (l : List Int) : ∀ n, ∃ I : List Nat, (dSt l n).flatMap (·.2) = I.map litG ∧ I.Pairwise (· < ·) ∧ ∀ i ∈ I, i < n
 | 0 => ⟨[], rfl, List.Pairwise.nil, fun i h => by simp at h⟩
 | n + 1 => by
   obtain ⟨I, h1, h2, h3⟩ := dSt_flat l n
   have more : ∀ st : List (Int × List Sm), st.flatMap (·.2) = (dSt l n).flatMap (·.2) ++ [litG n] → ∃ I : List Nat, st.flatMap (·.2) = I.map litG ∧ I.Pairwise (· < ·) ∧ ∀ i ∈ I, i < n + 1 := fun st hst => by
    refine ⟨I ++ [n], by rw [hst, h1]; simp, ?_, fun i hi => ?_⟩
    · rw [List.pairwise_append]
      exact ⟨h2, by simp, fun a ha b hb => by simp at hb; subst hb; exact h3 a ha⟩
    · rcases List.mem_append.1 hi with hi | hi
      · have := h3 i hi; omega
      · simp at hi; omega
   show ∃ I : List Nat, (dStep (dSt l n) n (l.getD n 0 % 8).toNat).flatMap (·.2) = _ ∧ _
   unfold dStep
   split
   · exact ⟨I, h1, h2, fun i hi => by have := h3 i hi; omega⟩
   · split
     · rename_i hq
       apply more
       rcases List.eq_nil_or_concat (dSt l n) with e | ⟨st, p, e⟩
       · rw [e] at hq; simp at hq
       · rw [e]
         simp [List.set_append, List.flatMap_append]
     · apply more
       simp [List.flatMap_append]
theorem noDup_of_lt {I : List Nat} (h : I.Pairwise (· < ·)) : I.Nodup := List.Pairwise.imp (fun h => Nat.ne_of_lt h) h
section
variable {m : Mk} {L : List Nat}
theorem MI.symTo (h : MI m L) {d : Dc} {st : ByteArray} {J : List Nat} (hs : d.syms = J.map litG) (hb : ∀ j ∈ J, j < 4) (hn : (L ++ J).Nodup) (h5 : d.kind ≠ 5) (h6 : d.kind ≠ 6) (ht : d.tag.size = 0) :
  ∀ k, k ≤ J.length → MI (symTo d (m, st) k).1 (L ++ J.take k)
 | 0, _ => by
   rw [List.take_zero, List.append_nil]; exact h
 | k + 1, hk => by
   have ih := MI.symTo h (st := st) hs hb hn h5 h6 ht k (by omega)
   show MI (symStep d (d.syms.getD k noSm) (Go.Proofs.Ytkgbifbbpmdpgaa.symTo d (m, st) k)).1 _
   unfold symStep
   rw [if_neg h6]
   have hx : d.syms.getD k noSm = litG (J[k]'(by omega)) := by
    rw [hs, List.getD_eq_getElem?_getD, List.getElem?_map, List.getElem?_eq_getElem (by omega)]; rfl
   rw [hx]
   have h4 := hb (J[k]'(by omega)) (List.getElem_mem _)
   have e4 : (J[k]'(by omega)) % 4 = J[k]'(by omega) := Nat.mod_eq_of_lt h4
   have hm : (J[k]'(by omega)) % 4 ∉ L ++ J.take k := by
    rw [e4]
    have hsub : (L ++ J.take (k + 1)).Nodup := by
     refine List.Nodup.sublist ?_ hn
     exact List.Sublist.append (List.Sublist.refl _) (List.take_sublist _ _)
    rw [List.take_succ_eq_append_getElem (by omega), ← List.append_assoc, List.nodup_append] at hsub
    intro hh
    exact hsub.2.2 _ hh _ (by simp) rfl
   have := ih.declare hm h5 ht
   rw [e4] at this
   rw [List.take_succ_eq_append_getElem (by omega), ← List.append_assoc]
   exact this
theorem MI.levUp (h : MI m L) (d : Dc) : MI (levUp d m) L := by
 unfold Go.Proofs.Ytkgbifbbpmdpgaa.levUp
 split
 · exact ⟨h.e, h.b, h.nd, h.tk⟩
 · exact h
def decL (ds : List Dc) (i : Nat) : List Nat := ((ds.take i).flatMap (·.syms)).map lix
theorem MI.dclTo {ds : List Dc} {st : ByteArray} (h : MI m []) (hd : ∀ d ∈ ds, d.kind ≠ 5 ∧ d.kind ≠ 6 ∧ d.tag.size = 0 ∧ ∀ x ∈ d.syms, ∃ k, k < 4 ∧ x = litG k) (hn : (decL ds ds.length).Nodup) :
  ∀ i, i ≤ ds.length → MI (dclTo ds (m, st) i).1 (decL ds i)
 | 0, _ => h
 | i + 1, hi => by
   have ih := MI.dclTo (st := st) h hd hn i (by omega)
   have hdi := hd (ds[i]'(by omega)) (List.getElem_mem _)
   obtain ⟨h5, h6, ht, hx⟩ := hdi
   have hg : ds.getD i noDc = ds[i]'(by omega) := by rw [List.getD_eq_getElem?_getD, List.getElem?_eq_getElem (by omega)]; rfl
   have hs : (ds[i]'(by omega)).syms = ((ds[i]'(by omega)).syms.map lix).map litG := by
    rw [List.map_map]
    conv => lhs; rw [← List.map_id (ds[i]'(by omega)).syms]
    refine List.map_congr_left (fun x hx2 => ?_)
    obtain ⟨k, hk, rfl⟩ := hx x hx2
    show litG k = litG (lix (litG k))
    rw [lix_lit, Nat.mod_eq_of_lt hk]
   have hb : ∀ j ∈ (ds[i]'(by omega)).syms.map lix, j < 4 := fun j hj => by
    obtain ⟨x, hx2, rfl⟩ := List.mem_map.1 hj
    obtain ⟨k, hk, rfl⟩ := hx x hx2
    rw [lix_lit]; omega
   have e1 : decL ds (i + 1) = decL ds i ++ (ds[i]'(by omega)).syms.map lix := by
    unfold decL
    rw [List.take_succ_eq_append_getElem (by omega), List.flatMap_append, List.map_append]
    simp
   have hnd : (decL ds i ++ (ds[i]'(by omega)).syms.map lix).Nodup := by
    rw [← e1]
    refine List.Nodup.sublist ?_ hn
    unfold decL
    refine List.Sublist.map _ ?_
    rw [List.take_length]
    conv => rhs; rw [← List.take_append_drop (i + 1) ds, List.flatMap_append]
    exact List.sublist_append_left _ _
   have := (ih.levUp (ds[i]'(by omega))).symTo (st := (Go.Proofs.Ytkgbifbbpmdpgaa.dclTo ds (m, st) i).2) hs hb hnd h5 h6 ht ((ds[i]'(by omega)).syms.map lix).length (Nat.le_refl _)
   rw [List.take_length, ← e1, List.length_map] at this
   show MI (Go.Proofs.Ytkgbifbbpmdpgaa.symTo (ds.getD i noDc) (Go.Proofs.Ytkgbifbbpmdpgaa.levUp (ds.getD i noDc) (Go.Proofs.Ytkgbifbbpmdpgaa.dclTo ds (m, st) i).1, (Go.Proofs.Ytkgbifbbpmdpgaa.dclTo ds (m, st) i).2) (ds.getD i noDc).syms.length).1 _
   rw [hg]
   exact this
end
theorem mi0 : MI mk0 [] := ⟨rfl, fun i h => by simp at h, List.nodup_nil, rfl⟩
theorem dSt_kind (l : List Int) : ∀ n, ∀ p ∈ dSt l n, p.1 ≠ 5 ∧ p.1 ≠ 6 ∧ p.1 < 5
 | 0, p, h => by simp [dSt] at h
 | n + 1, p, h => by
   have ih := dSt_kind l n
   have h2 : p ∈ dStep (dSt l n) n (l.getD n 0 % 8).toNat := h
   unfold dStep at h2
   split at h2
   · exact ih p h2
   · split at h2
     · rcases List.mem_or_eq_of_mem_set h2 with h3 | rfl
       · exact ih p h3
       · rename_i hq
         show ((dSt l n).getD ((dSt l n).length - 1) (0, [])).1 ≠ 5 ∧ ((dSt l n).getD ((dSt l n).length - 1) (0, [])).1 ≠ 6 ∧ ((dSt l n).getD ((dSt l n).length - 1) (0, [])).1 < 5
         have hlt : (dSt l n).length - 1 < (dSt l n).length := by omega
         have hm : (dSt l n).getD ((dSt l n).length - 1) (0, []) ∈ dSt l n := by rw [List.getD_eq_getElem?_getD, List.getElem?_eq_getElem hlt]; exact List.getElem_mem _
         exact (ih _ hm : _)
     · rcases List.mem_append.1 h2 with h3 | h3
       · exact ih p h3
       · simp at h3
         subst h3
         simp only
         omega
theorem srcD (g : Gr) : ∃ L, MI (ofD (srcG g)).1 L ∧ ∀ d ∈ (srcG g).decls, d.kind < 5 := by
 obtain ⟨I, h1, h2, h3⟩ := dSt_flat g.levels (min g.levels.length 4)
 have hds : (srcG g).decls = (dSt g.levels (min g.levels.length 4)).map dcOf := rfl
 have hfl : (srcG g).decls.flatMap (·.syms) = I.map litG := by rw [hds, List.flatMap_map]; exact h1
 have hL : (decL (srcG g).decls (srcG g).decls.length).Nodup := by
  unfold decL
  rw [List.take_length, hfl, List.map_map]
  have : I.map (lix ∘ litG) = I := by
   conv => rhs; rw [← List.map_id I]
   refine List.map_congr_left (fun i hi => ?_)
   show lix (litG i) = i
   rw [lix_lit]
   have := h3 i hi
   omega
  rw [this]
  exact noDup_of_lt h2
 refine ⟨_, MI.dclTo (st := ⟨#[]⟩) mi0 (fun d hd => ?_) hL _ (Nat.le_refl _), fun d hd => ?_⟩
 · rw [hds] at hd
   obtain ⟨p, hp, rfl⟩ := List.mem_map.1 hd
   have hk := dSt_kind _ _ p hp
   refine ⟨hk.1, hk.2.1, rfl, fun x hx => ?_⟩
   have : x ∈ (dSt g.levels (min g.levels.length 4)).flatMap (·.2) := List.mem_flatMap.2 ⟨p, hp, hx⟩
   rw [h1] at this
   obtain ⟨i, hi, rfl⟩ := List.mem_map.1 this
   exact ⟨i, by have := h3 i hi; omega, rfl⟩
 · rw [hds] at hd
   obtain ⟨p, hp, rfl⟩ := List.mem_map.1 hd
   exact (dSt_kind _ _ p hp).2.2
end
section
theorem non_eq : ∀ a b : Fin 4, eqB (gNonB a.val) (gNonB b.val) = decide (a.val = b.val) := by decide +kernel
theorem non_err : ∀ a : Fin 4, eqB (gNonB a.val) gErrB = false := by decide +kernel
theorem left_more {m : Mk} {x n : ByteArray} (h : 0 ≤ m.left n) : 0 ≤ (m.addLeft x).left n := by
 rcases m.left_ge n with e | ⟨k, e, hk⟩
 · omega
 · unfold Mk.left at e h ⊢
   rcases firstN_lt (lftP m.lefts n) m.lefts.length 0 with e2 | ⟨j, e2, h1, h2, h3⟩
   · omega
   · refine firstN_some (j := j) (Nat.zero_le _) (by show j < (m.lefts ++ [x]).length; simp; omega) ?_
     unfold lftP at h3 ⊢
     show eqB ((m.lefts ++ [x]).getD j ⟨#[]⟩) n = true
     rw [List.getD_eq_getElem?_getD, List.getElem?_append_left h2, ← List.getD_eq_getElem?_getD]
     exact h3
theorem left_new (m : Mk) (x : ByteArray) (hx : eqB x x = true) : 0 ≤ (m.addLeft x).left x := by
 refine firstN_some (j := m.lefts.length) (Nat.zero_le _) (by show m.lefts.length < (m.lefts ++ [x]).length; simp) ?_
 show eqB ((m.lefts ++ [x]).getD m.lefts.length ⟨#[]⟩) x = true
 rw [List.getD_eq_getElem?_getD, List.getElem?_append_right (Nat.le_refl _)]
 simpa using hx
structure MR (n : Nat) (m0 m : Mk) (L : List Nat) : Prop where
 mi : MI m L
 has : ∀ j, j < n → 0 ≤ m.left (gNonB j)
 only : ∀ x ∈ m.lefts, ∃ j, j < 4 ∧ x = gNonB j
theorem MR.err {n : Nat} {m0 m : Mk} {L : List Nat} (h : MR n m0 m L) : m.left gErrB < 0 := by
 rw [show m.left gErrB = -1 from firstN_none (fun j _ h2 => ?_)]
 · decide
 · have h2' : j < m.lefts.length := h2
   obtain ⟨i, hi, e⟩ := h.only (m.lefts.getD j ⟨#[]⟩) (by rw [List.getD_eq_getElem?_getD, List.getElem?_eq_getElem h2']; exact List.getElem_mem _)
   unfold lftP
   rw [e]
   exact non_err ⟨i, hi⟩
theorem MR.ru {rs : List Rl} {m : Mk} {L : List Nat} (h : MI m L) (hl : m.lefts = []) (hr : ∀ i, i < rs.length → i < 4 ∧ (rs.getD i noRl).left = gNonB i) : ∀ i, i ≤ rs.length → MR i m (ruTo rs m i) L
 | 0, _ => ⟨h, fun j hj => absurd hj (Nat.not_lt_zero _), fun x hx => by rw [show (ruTo rs m 0).lefts = [] from hl] at hx; simp at hx⟩
 | i + 1, hi => by
   have ih := MR.ru h hl hr i (by omega)
   obtain ⟨h4, hn⟩ := hr i (by omega)
   show MR (i + 1) m (ruB (rs.getD i noRl) (ruA (rs.getD i noRl) (ruTo rs m i))) L
   have hA : ruA (rs.getD i noRl) (ruTo rs m i) = ruTo rs m i := by
    unfold ruA
    rw [hn, ih.mi.non h4]
    rfl
   rw [hA]
   unfold ruB
   rw [hn]
   split
   · refine ⟨⟨ih.mi.e, ih.mi.b, ih.mi.nd, ih.mi.tk⟩, fun j hj => ?_, fun x hx => ?_⟩
     · by_cases e : j < i
       · exact left_more (ih.has j e)
       · obtain rfl : j = i := by omega
         exact left_new _ _ (by rw [non_eq ⟨j, h4⟩ ⟨j, h4⟩]; simp)
     · rcases List.mem_append.1 (show x ∈ (ruTo rs m i).lefts ++ [gNonB i] from hx) with hx | hx
       · exact ih.only x hx
       · simp at hx; exact ⟨i, h4, hx⟩
   · rename_i hl2
     refine ⟨ih.mi, fun j hj => ?_, ih.only⟩
     by_cases e : j < i
     · exact ih.has j e
     · obtain rfl : j = i := by omega
       omega
theorem tyd_same {ds : List Dc} {m : Mk} (h : ∀ d ∈ ds, d.kind < 5) : ∀ i, tydTo ds m i = m
 | 0 => rfl
 | i + 1 => by
   show tysTo (ds.getD i noDc) (tydTo ds m i) _ = m
   rw [tyd_same h i]
   have hk : (ds.getD i noDc).kind < 5 := by
    rw [List.getD_eq_getElem?_getD]
    cases hi : ds[i]? with
    | none => decide
    | some d => exact h d (List.mem_of_getElem? hi)
   have hk2 : decide (5 ≤ (ds.getD i noDc).kind) = false := decide_eq_false (by omega)
   have : ∀ k, tysTo (ds.getD i noDc) m k = m := fun k => by
    induction k with
    | zero => rfl
    | succ k ih =>
      show tySt _ _ (tysTo _ m k) = m
      rw [ih]
      unfold tySt
      rw [hk2]
      rfl
   exact this _
def SyG (n : Nat) (x : Sm) : Prop := (∃ j, j < n ∧ x = nameG (gNonB j)) ∨ x = nameG gErrB ∨ ∃ k, x = litG k
theorem MR.symbol {n : Nat} {m0 m : Mk} {L : List Nat} (h : MR n m0 m L) {x : Sm} (hx : SyG n x) : ∃ L', MR n m0 (m.symbol x).1 L' := by
 rcases hx with ⟨j, hj, rfl⟩ | rfl | ⟨k, rfl⟩
 · refine ⟨L, ?_⟩
   unfold Mk.symbol
   rw [if_neg (show ¬ ((nameG (gNonB j)).lit = true) from by show ¬ (false = true); decide), if_pos (show 0 ≤ m.left (nameG (gNonB j)).name from h.has j hj)]
   exact h
 · refine ⟨L, ?_⟩
   have he := h.err
   have ht := h.mi.err
   unfold Mk.symbol
   rw [if_neg (show ¬ ((nameG gErrB).lit = true) from by show ¬ (false = true); decide), if_neg (show ¬ 0 ≤ m.left (nameG gErrB).name from by show ¬ 0 ≤ m.left gErrB; omega), if_neg (by omega)]
   exact h
 · unfold Mk.symbol
   rw [if_pos (show (litG k).lit = true from rfl)]
   by_cases hk : k % 4 ∈ L
   · rw [h.mi.put_old hk]; exact ⟨L, h⟩
   · obtain ⟨e, hm⟩ := h.mi.put_new hk
     rw [e]
     exact ⟨_, hm, h.has, h.only⟩
def cntTo (a : Al) : Nat → Nat
 | 0 => 0
 | i + 1 => cntTo a i + (if (a.parts.getD i ⟨noSm, ⟨#[]⟩, 0⟩).code.size ≠ 0 ∧ i + 1 ≠ a.parts.length then 1 else 0)
structure AltG (n : Nat) (a : Al) : Prop where
 pc : a.prec.name.size = 0
 len : a.parts.length ≤ 6
 sy : ∀ i, i < a.parts.length → (a.parts.getD i ⟨noSm, ⟨#[]⟩, 0⟩).code.size = 0 → SyG n (a.parts.getD i ⟨noSm, ⟨#[]⟩, 0⟩).sym
 cnt : cntTo a a.parts.length ≤ 1
def R8 (m : Mk) : Prop := ∀ p ∈ m.prods, p.right.length ≤ 8
theorem au_good {n : Nat} {m0 m : Mk} {L : List Nat} (h : MR n m0 m L) (h8 : R8 m) {a : Al} (ha : AltG n a) : ∀ i, i ≤ a.parts.length →
  (∃ L', MR n m0 (auTo m a i).m L') ∧ (auTo m a i).right.length ≤ i ∧ (auTo m a i).m.lefts = m.lefts ∧ (auTo m a i).m.inner = m.inner + (cntTo a i : Nat) ∧ (auTo m a i).m.prods.length = m.prods.length + cntTo a i ∧ R8 (auTo m a i).m
 | 0, _ => ⟨⟨L, h⟩, Nat.le_refl _, rfl, by simp [auTo, cntTo], rfl, h8⟩
 | i + 1, hi => by
   obtain ⟨⟨L', h1⟩, h2, h3, h4, h5, h6⟩ := au_good h h8 ha i (by omega)
   have hs := ha.sy i (by omega)
   show (∃ L', MR n m0 (auStep a.parts.length i (a.parts.getD i ⟨noSm, ⟨#[]⟩, 0⟩) (auTo m a i)).m L') ∧ (auStep a.parts.length i (a.parts.getD i ⟨noSm, ⟨#[]⟩, 0⟩) (auTo m a i)).right.length ≤ i + 1 ∧ (auStep a.parts.length i (a.parts.getD i ⟨noSm, ⟨#[]⟩, 0⟩) (auTo m a i)).m.lefts = m.lefts ∧
    (auStep a.parts.length i (a.parts.getD i ⟨noSm, ⟨#[]⟩, 0⟩) (auTo m a i)).m.inner = m.inner + ((cntTo a i + (if (a.parts.getD i ⟨noSm, ⟨#[]⟩, 0⟩).code.size ≠ 0 ∧ i + 1 ≠ a.parts.length then 1 else 0) : Nat) : Int) ∧
    (auStep a.parts.length i (a.parts.getD i ⟨noSm, ⟨#[]⟩, 0⟩) (auTo m a i)).m.prods.length = m.prods.length + (cntTo a i + (if (a.parts.getD i ⟨noSm, ⟨#[]⟩, 0⟩).code.size ≠ 0 ∧ i + 1 ≠ a.parts.length then 1 else 0)) ∧ R8 (auStep a.parts.length i (a.parts.getD i ⟨noSm, ⟨#[]⟩, 0⟩) (auTo m a i)).m
   generalize a.parts.getD i ⟨noSm, ⟨#[]⟩, 0⟩ = w at hs ⊢
   unfold auStep
   by_cases hc : w.code.size = 0
   · rw [if_pos hc, if_neg (fun hh => hh.1 hc)]
     obtain ⟨s1, s2, s3, s4, s5⟩ := (auTo m a i).m.symbol_more w.sym
     refine ⟨h1.symbol (hs hc), by simp only [List.length_append, List.length_singleton]; omega, s2.trans h3, by simp only; rw [s4]; simpa using h4, by simp only; rw [s3]; simpa using h5, fun p hp => h6 p (by simp only at hp; rw [s3] at hp; exact hp)⟩
   · rw [if_neg hc]
     by_cases hl : i + 1 = a.parts.length
     · rw [if_pos hl, if_neg (fun hh => hh.2 hl)]
       exact ⟨⟨L', h1⟩, by simp only; omega, h3, by simpa using h4, by simpa using h5, h6⟩
     · rw [if_neg hl, if_pos ⟨hc, hl⟩]
       refine ⟨⟨L', ⟨⟨h1.mi.e, h1.mi.b, h1.mi.nd, h1.mi.tk⟩, h1.has, h1.only⟩⟩, by simp only [List.length_append, List.length_singleton]; omega, h3, ?_, ?_, fun p hp => ?_⟩
       · show (auTo m a i).m.inner + 1 = _
         rw [h4]; simp; omega
       · show ((auTo m a i).m.prods ++ [_]).length = _
         rw [List.length_append, h5]; simp; omega
       · rcases List.mem_append.1 (show p ∈ (auTo m a i).m.prods ++ [_] from hp) with hp | hp
         · exact h6 p hp
         · simp at hp; subst hp; simp
theorem alt_go {n : Nat} {m0 m : Mk} {L : List Nat} (h : MR n m0 m L) (h8 : R8 m) {a : Al} (ha : AltG n a) (ln : ByteArray) :
  (∃ L', MR n m0 (m.alt ln a) L') ∧ (m.alt ln a).lefts = m.lefts ∧ (m.alt ln a).inner ≤ m.inner + 1 ∧ (m.alt ln a).prods.length ≤ m.prods.length + 2 ∧ R8 (m.alt ln a) := by
 obtain ⟨⟨L', h1⟩, h2, h3, h4, h5, h6⟩ := au_good h h8 ha a.parts.length (Nat.le_refl _)
 have hc := ha.cnt
 have hl := ha.len
 have hE : m.alt ln a = ((auTo m a a.parts.length).m.altPrec a.prec (auTo m a a.parts.length).right).1.addProd ⟨1 + m.left ln, (auTo m a a.parts.length).right, ((auTo m a a.parts.length).m.altPrec a.prec (auTo m a a.parts.length).right).2, (auTo m a a.parts.length).code, (auTo m a a.parts.length).right, (auTo m a a.parts.length).pos⟩ := rfl
 rw [hE]
 generalize auTo m a a.parts.length = s at h1 h2 h3 h4 h5 h6 ⊢
 have hq : s.m.altPrec a.prec s.right = (s.m, precTo s.right s.right.length) := by unfold Mk.altPrec; rw [if_pos ha.pc]
 rw [hq]
 simp only
 refine ⟨⟨L', ⟨⟨h1.mi.e, h1.mi.b, h1.mi.nd, h1.mi.tk⟩, h1.has, h1.only⟩⟩, h3, ?_, ?_, fun p hp => ?_⟩
 · show s.m.inner ≤ _; omega
 · show (s.m.prods ++ [_]).length ≤ _
   rw [List.length_append]; simp; omega
 · rcases List.mem_append.1 (show p ∈ s.m.prods ++ [_] from hp) with hp | hp
   · exact h6 p hp
   · simp at hp; subst hp; simp only; omega
theorem alts_go {n : Nat} {m0 m : Mk} {L : List Nat} {r : Rl} (h : MR n m0 m L) (h8 : R8 m) (ha : ∀ a ∈ r.alts, AltG n a) : ∀ k, k ≤ r.alts.length →
  (∃ L', MR n m0 (altsTo r m k) L') ∧ (altsTo r m k).lefts = m.lefts ∧ (altsTo r m k).inner ≤ m.inner + k ∧ (altsTo r m k).prods.length ≤ m.prods.length + 2 * k ∧ R8 (altsTo r m k)
 | 0, _ => ⟨⟨L, h⟩, rfl, by simp [altsTo], by simp [altsTo], h8⟩
 | k + 1, hk => by
   obtain ⟨⟨L', h1⟩, h2, h3, h4, h5⟩ := alts_go h h8 ha k (by omega)
   have hg : r.alts.getD k noAl ∈ r.alts := by rw [List.getD_eq_getElem?_getD, List.getElem?_eq_getElem (by omega)]; exact List.getElem_mem _
   obtain ⟨q1, q2, q3, q4, q5⟩ := alt_go h1 h5 (ha _ hg) r.left
   exact ⟨q1, q2.trans h2, by show ((altsTo r m k).alt r.left (r.alts.getD k noAl)).inner ≤ _; omega, by show ((altsTo r m k).alt r.left (r.alts.getD k noAl)).prods.length ≤ _; omega, q5⟩
def sumTo (f : Nat → Nat) : Nat → Nat
 | 0 => 0
 | i + 1 => sumTo f i + f i
theorem rul_go {n : Nat} {m0 m : Mk} {L : List Nat} {rs : List Rl} (h : MR n m0 m L) (h8 : R8 m) (ha : ∀ r ∈ rs, ∀ a ∈ r.alts, AltG n a) : ∀ i, i ≤ rs.length →
  (∃ L', MR n m0 (rulTo rs m i) L') ∧ (rulTo rs m i).lefts = m.lefts ∧ (rulTo rs m i).inner ≤ m.inner + (sumTo (fun j => (rs.getD j noRl).alts.length) i : Nat) ∧ (rulTo rs m i).prods.length ≤ m.prods.length + 2 * sumTo (fun j => (rs.getD j noRl).alts.length) i ∧ R8 (rulTo rs m i)
 | 0, _ => ⟨⟨L, h⟩, rfl, by simp [rulTo, sumTo], by simp [rulTo, sumTo], h8⟩
 | i + 1, hi => by
   obtain ⟨⟨L', h1⟩, h2, h3, h4, h5⟩ := rul_go h h8 ha i (by omega)
   have hg : rs.getD i noRl ∈ rs := by rw [List.getD_eq_getElem?_getD, List.getElem?_eq_getElem (by omega)]; exact List.getElem_mem _
   obtain ⟨q1, q2, q3, q4, q5⟩ := alts_go (r := rs.getD i noRl) h1 h5 (ha _ hg) (rs.getD i noRl).alts.length (Nat.le_refl _)
   refine ⟨q1, q2.trans h2, ?_, ?_, q5⟩
   · show (altsTo (rs.getD i noRl) (rulTo rs m i) (rs.getD i noRl).alts.length).inner ≤ m.inner + ((sumTo _ i + (rs.getD i noRl).alts.length : Nat) : Int)
     omega
   · show (altsTo (rs.getD i noRl) (rulTo rs m i) (rs.getD i noRl).alts.length).prods.length ≤ m.prods.length + 2 * (sumTo _ i + (rs.getD i noRl).alts.length)
     omega
end
end Go.Proofs.Ytkgbifbbpmdpgaa
