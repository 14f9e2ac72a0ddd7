/- The words of a source's text, read: the source but for its places. Of no program. -/
import Derived.Test.YtnoppoifepbchaaDoorLRd9
import Derived.Test.YtnoppoifepbchaaDoorQMove2
import Derived.Test.YtnoppoifepbchaaDoorQLexLong2
import Derived.Lib.Strings
namespace Go.Proofs.YtnoppoifepbchaaDoor

set_option linter.unusedVariables false
set_option linter.unusedSimpArgs false
abbrev Ky := Int × ByteArray
def keyOf (w : Wd) : Ky := (w.kind, w.text)
def symK (x : Sm) : Ky := if x.lit = true then (2, x.name) else (1, x.name)
def declSmK (x : Sm) : List Ky := symK x :: (if x.num = 0 then [] else [(3, numT x.num)])
def declK (d : Dc) : List Ky := (5, keyS d.kind) :: ((if d.tag.size = 0 then [] else [(4, d.tag)]) ++ d.syms.flatMap declSmK)
def ptK (p : Pt) : Ky := if p.code.size = 0 then symK p.sym else (8, p.code)
def precK : Ky := (5, ⟨#[37, 112, 114, 101, 99]⟩)
def barK : Ky := (6, ⟨#[124]⟩)
def altK (a : Al) : List Ky := a.parts.map ptK ++ (if noneB a.prec = true then [] else [precK, symK a.prec])
def altsK : List Al → List Ky
 | [] => []
 | a :: l => altK a ++ l.flatMap (fun b => barK :: altK b)
def ruleK (r : Rl) : List Ky := (1, r.left) :: (6, ⟨#[58]⟩) :: (altsK r.alts ++ [(6, ⟨#[59]⟩)])
def soK (s : So) : List Ky := (if s.pro.size = 0 then [] else [(9, s.pro)]) ++ (s.decls.flatMap declK ++ ((7, ⟨#[37, 37]⟩) :: (s.rules.flatMap ruleK ++ [(10, s.tail)])))

def Sm.bare (x : Sm) : Sm := ⟨x.name, x.lit, x.num, 0⟩
def Pt.bare (p : Pt) : Pt := ⟨p.sym.bare, p.code, 0⟩
def Al.bare (a : Al) : Al := ⟨a.parts.map Pt.bare, a.prec.bare, 0⟩
def Rl.bare (r : Rl) : Rl := ⟨r.left, r.alts.map Al.bare, 0⟩
def Dc.bare (d : Dc) : Dc := ⟨d.kind, d.tag, d.syms.map Sm.bare, 0⟩
def So.bare (s : So) : So := ⟨s.pro, s.decls.map Dc.bare, s.rules.map Rl.bare, s.tail⟩

theorem hd_key {l : Wds} {y : Ky} {R : List Ky} (h : l.map keyOf = y :: R) : ∃ w l', l = w :: l' ∧ keyOf w = y ∧ l'.map keyOf = R := by
 match l, h with
 | w :: l', h =>
   rw [List.map_cons] at h
   injection h with h1 h2
   exact ⟨w, l', rfl, h1, h2⟩
theorem hdW_cons (w : Wd) (l : Wds) : hdW (w :: l) = w := rfl
theorem kind_of {w : Wd} {k : Int} {t : ByteArray} (h : keyOf w = (k, t)) : w.kind = k ∧ w.text = t := by
 unfold keyOf at h
 injection h with h1 h2
 exact ⟨h1, h2⟩
theorem symK_kind {w : Wd} {x : Sm} (h : keyOf w = symK x) : (w.kind = 1 ∨ w.kind = 2) ∧ (w.kind = 2 ↔ x.lit = true) ∧ w.text = x.name := by
 unfold symK at h
 cases hl : x.lit with
 | true =>
   rw [hl, if_pos rfl] at h
   obtain ⟨h1, h2⟩ := kind_of h
   exact ⟨.inr h1, by simp [h1], h2⟩
 | false =>
   rw [hl, if_neg (by decide)] at h
   obtain ⟨h1, h2⟩ := kind_of h
   exact ⟨.inl h1, by simp [h1], h2⟩
theorem smOf_bare {w : Wd} {x : Sm} {n : Int} (h : keyOf w = symK x) (hn : n = x.num) : (smOf w n).bare = x.bare := by
 obtain ⟨_, h1, h2⟩ := symK_kind h
 subst hn
 unfold smOf Sm.bare
 simp only [h2, Sm.mk.injEq, and_true, true_and]
 cases hl : x.lit with
 | true => simp [h1.2 hl]
 | false =>
   have : ¬ w.kind = 2 := fun e => by have := h1.1 e; rw [hl] at this; cases this
   simp [this]

/-- the words' kinds with which the symbols of a declaration stop -/
def Stops (R : List Ky) : Prop := ∀ y R', R = y :: R' → y.1 ≠ 1 ∧ y.1 ≠ 2 ∧ y.1 ≠ 3
theorem hd_kind {l : Wds} {R : List Ky} (h : l.map keyOf = R) : (hdW l).kind = (R.head?.map (·.1)).getD 0 := by
 subst h
 cases l <;> rfl
theorem sym_first (xs : List Sm) (R : List Ky) (hR : Stops R) : ((xs.flatMap declSmK ++ R).head?.map (·.1)).getD 0 ≠ 3 := by
 cases xs with
 | nil =>
   simp only [List.flatMap_nil, List.nil_append]
   cases R with
   | nil => simp
   | cons y R' => exact (hR y R' rfl).2.2
 | cons x xs =>
   simp only [List.flatMap_cons, declSmK, List.cons_append, List.head?_cons, Option.map_some, Option.getD_some]
   unfold symK
   split <;> simp

theorem syms_back (k : Int) (hk : k ≠ 6) (hnum : ∀ n : Int, 1 ≤ n → n ≤ 50000 → ((rdNum (numT n) : Nat) : Int) = n) : ∀ (xs : List Sm) (l : Wds) (R : List Ky), l.map keyOf = xs.flatMap declSmK ++ R →
  (∀ x ∈ xs, symB (k == 1) (decide (k < 5)) x = true) → (k = 5 ∨ k < 5) → Stops R → (rdSyms k l).2.map keyOf = R ∧ (rdSyms k l).1.map Sm.bare = xs.map Sm.bare := by
 intro xs
 induction xs with
 | nil =>
   intro l R h hx hk5 hR
   simp only [List.flatMap_nil, List.nil_append] at h
   cases l with
   | nil => rw [rdSyms]; exact ⟨h, rfl⟩
   | cons w l =>
     have := hR (keyOf w) (l.map keyOf) h.symm
     have h1 : declaresB k w = false := by
      unfold declaresB
      rw [decide_eq_false_iff_not]
      unfold keyOf at this
      simp only at this
      intro hc
      rcases hc with hc | hc
      · exact this.1 hc
      · exact this.2.1 hc.1
     rw [rdSyms, if_neg (by rw [h1]; decide)]
     exact ⟨h, rfl⟩
 | cons x xs ih =>
   intro l R h hx hk5 hR
   have hb := hx x (List.mem_cons_self ..)
   simp only [List.flatMap_cons, declSmK, List.cons_append, List.append_assoc] at h
   obtain ⟨w, l1, rfl, hw, h1⟩ := hd_key h
   obtain ⟨k1, k2, k3⟩ := symK_kind hw
   have hd : declaresB k w = true := by
    unfold declaresB
    rw [decide_eq_true_iff]
    rcases k1 with k1 | k1
    · exact .inl k1
    · refine .inr ⟨k1, ?_, hk⟩
      have := k2.1 k1
      unfold symB at hb
      rw [this, if_pos rfl, decide_eq_true_iff] at hb
      have h5 : k < 5 := by simpa using hb.1
      omega
   by_cases hn : x.num = 0
   · rw [if_pos hn, List.nil_append] at h1
     have h3 : (hdW l1).kind ≠ 3 := by rw [hd_kind h1]; exact sym_first xs R hR
     have hnb : numbered k w l1 = false := by
      unfold numbered
      rw [decide_eq_false_iff_not]
      exact fun hc => h3 hc.2.2
     obtain ⟨e1, e2⟩ := ih l1 R h1 (fun y hy => hx y (List.mem_cons_of_mem _ hy)) hk5 hR
     rw [rdSyms, if_pos hd, if_neg hk, if_neg (by rw [hnb]; decide)]
     exact ⟨e1, by rw [List.map_cons, List.map_cons, e2, smOf_bare hw hn.symm]⟩
   · rw [if_neg hn, List.cons_append, List.nil_append] at h1
     obtain ⟨w2, l2, rfl, hw2, h2⟩ := hd_key h1
     obtain ⟨n1, n2⟩ := kind_of hw2
     have hlit : x.lit = false ∧ k = 1 ∧ 1 ≤ x.num ∧ x.num ≤ 50000 := by
      unfold symB at hb
      split at hb
      · rw [decide_eq_true_iff] at hb; exact absurd hb.2.2.1 hn
      · rename_i hl
        rw [decide_eq_true_iff] at hb
        rcases hb.2 with h | h
        · exact absurd h hn
        · exact ⟨by simpa using hl, by simpa using h.1, h.2.1, h.2.2⟩
     have hnb : numbered k w (w2 :: l2) = true := by
      unfold numbered
      rw [decide_eq_true_iff]
      refine ⟨hlit.2.1, ?_, n1⟩
      rcases k1 with k1 | k1
      · exact k1
      · have := k2.1 k1; rw [hlit.1] at this; cases this
     obtain ⟨e1, e2⟩ := ih l2 R h2 (fun y hy => hx y (List.mem_cons_of_mem _ hy)) hk5 hR
     rw [rdSyms, if_pos hd, if_neg hk, if_pos hnb]
     refine ⟨e1, ?_⟩
     rw [List.map_cons, List.map_cons, List.tail_cons, e2, hdW_cons, n2, hnum _ hlit.2.2.1 hlit.2.2.2, smOf_bare hw rfl]

theorem decl_back (hnum : ∀ n : Int, 1 ≤ n → n ≤ 50000 → ((rdNum (numT n) : Nat) : Int) = n) (d : Dc) (w : Wd) (l : Wds) (R : List Ky) (hd : mayDc d = true)
  (h : l.map keyOf = (if d.tag.size = 0 then [] else [(4, d.tag)]) ++ d.syms.flatMap declSmK ++ R) (hR : Stops R) (hR4 : ∀ y R', R = y :: R' → y.1 ≠ 4) :
  ∃ x r, declS d.kind w l = .ok x r ∧ r.map keyOf = R ∧ x.bare = d.bare := by
 unfold mayDc dcB at hd
 rw [Bool.and_eq_true, decide_eq_true_iff, List.all_eq_true] at hd
 obtain ⟨⟨hk1, hk6, hlen, h6, h5, htag⟩, hsy⟩ := hd
 have hne : d.syms ≠ [] := fun e => hlen (by rw [e]; rfl)
 -- the tag
 have ht : (tagS d.kind l).1 = d.tag ∧ (tagS d.kind l).2.map keyOf = d.syms.flatMap declSmK ++ R ∧ (d.kind = 5 → (hdW l).kind = 4) := by
  by_cases h0 : d.tag.size = 0
  · rw [if_pos h0, List.nil_append] at h
    have hk4 : (hdW l).kind ≠ 4 := by
     rw [hd_kind h]
     cases hs : d.syms with
     | nil => exact absurd hs hne
     | cons x xs =>
       simp only [List.flatMap_cons, declSmK, List.cons_append, List.head?_cons, Option.map_some, Option.getD_some]
       unfold symK
       split <;> simp
    unfold tagS
    rw [if_neg (fun hc => hk4 hc.2)]
    refine ⟨?_, h, fun e => absurd h0 (h5 e)⟩
    exact (ByteArray.ext (Array.eq_empty_of_size_eq_zero h0)).symm
  · rw [if_neg h0, List.cons_append, List.cons_append, List.nil_append] at h
    obtain ⟨w1, l1, rfl, hw1, h1⟩ := hd_key h
    obtain ⟨n1, n2⟩ := kind_of hw1
    have hk : d.kind ≠ 6 := fun e => h0 (h6 e).2
    unfold tagS
    rw [if_pos ⟨hk, n1⟩]
    exact ⟨n2, h1, fun _ => n1⟩
 obtain ⟨t1, t2, t3⟩ := ht
 have hs : (rdSyms d.kind (tagS d.kind l).2).2.map keyOf = R ∧ (rdSyms d.kind (tagS d.kind l).2).1.map Sm.bare = d.syms.map Sm.bare := by
  by_cases hk : d.kind = 6
  · obtain ⟨x, hx⟩ : ∃ x, d.syms = [x] := List.length_eq_one_iff.1 (h6 hk).1
    rw [hx] at t2 hsy ⊢
    have hb := hsy x (List.mem_cons_self ..)
    have hlit : x.lit = false ∧ x.num = 0 := by
     unfold symB at hb
     rw [hk] at hb
     split at hb
     · rw [decide_eq_true_iff] at hb; exact absurd hb.1 (by decide)
     · rename_i hl
       rw [decide_eq_true_iff] at hb
       exact ⟨by simpa using hl, hb.2.elim id (fun h => absurd h.1 (by decide))⟩
    simp only [List.flatMap_cons, List.flatMap_nil, declSmK, List.append_nil, List.cons_append, hlit.2, if_pos, List.nil_append] at t2
    obtain ⟨w1, l1, e, hw1, h1⟩ := hd_key t2
    obtain ⟨k1, k2, k3⟩ := symK_kind hw1
    rw [e, hk, rdSyms, if_pos (by
     unfold declaresB
     rw [decide_eq_true_iff]
     refine k1.elim .inl (fun k1 => ?_)
     have := k2.1 k1; rw [hlit.1] at this; cases this), if_pos rfl]
    exact ⟨h1, by rw [List.map_cons, List.map_nil, List.map_cons, List.map_nil, smOf_bare hw1 hlit.2.symm]⟩
  · exact syms_back d.kind hk hnum d.syms _ R t2 (fun x hx => hsy x hx) (by omega) hR
 refine ⟨⟨d.kind, (tagS d.kind l).1, (rdSyms d.kind (tagS d.kind l).2).1, w.place⟩, _, ?_, hs.1, ?_⟩
 · unfold declS
   rw [if_neg (fun hc => hc.2 (t3 hc.1)), if_neg (fun e => by
    have := hs.2
    rw [e] at this
    exact hne (List.map_eq_nil_iff.1 this.symm))]
 · unfold Dc.bare
   simp only [t1, hs.2]
theorem keyN_keyS {k : Int} (h1 : 1 ≤ k) (h6 : k ≤ 6) : keyN (keyS k) = k := by
 obtain rfl | rfl | rfl | rfl | rfl | rfl : k = 1 ∨ k = 2 ∨ k = 3 ∨ k = 4 ∨ k = 5 ∨ k = 6 := by omega
 all_goals decide +kernel
theorem decls_first (ds : List Dc) (R : List Ky) : Stops (ds.flatMap declK ++ ((7, ⟨#[37, 37]⟩) :: R)) ∧ ∀ y R', ds.flatMap declK ++ ((7, ⟨#[37, 37]⟩) :: R) = y :: R' → y.1 ≠ 4 := by
 cases ds with
 | nil => refine ⟨fun y R' h => ?_, fun y R' h => ?_⟩ <;> (simp only [List.flatMap_nil, List.nil_append] at h; injection h with h1 h2; subst h1; simp)
 | cons d ds => refine ⟨fun y R' h => ?_, fun y R' h => ?_⟩ <;> (simp only [List.flatMap_cons, declK, List.cons_append] at h; injection h with h1 h2; subst h1; simp)
theorem decls_back (hnum : ∀ n : Int, 1 ≤ n → n ≤ 50000 → ((rdNum (numT n) : Nat) : Int) = n) (P : ByteArray) (b : Bool) : ∀ (ds : List Dc) (xs : List Dc) (l : Wds) (R : List Ky), (∀ d ∈ ds, mayDc d = true) → l.map keyOf = ds.flatMap declK ++ ((7, ⟨#[37, 37]⟩) :: R) →
  ∃ ys r, declsS P b xs l = .ok (P, xs ++ ys) r ∧ r.map keyOf = R ∧ ys.map Dc.bare = ds.map Dc.bare := by
 intro ds
 induction ds with
 | nil =>
   intro xs l R _ h
   simp only [List.flatMap_nil, List.nil_append] at h
   obtain ⟨w, l1, rfl, hw, h1⟩ := hd_key h
   refine ⟨[], l1, ?_, h1, rfl⟩
   rw [declsS, if_pos (kind_of hw).1, List.append_nil]
 | cons d ds ih =>
   intro xs l R hm h
   have hd := hm d (List.mem_cons_self ..)
   have hk : 1 ≤ d.kind ∧ d.kind ≤ 6 := by
    unfold mayDc dcB at hd
    rw [Bool.and_eq_true, decide_eq_true_iff] at hd
    exact ⟨hd.1.1, hd.1.2.1⟩
   simp only [List.flatMap_cons, declK, List.cons_append, List.append_assoc] at h
   obtain ⟨w, l1, rfl, hw, h1⟩ := hd_key h
   obtain ⟨n1, n2⟩ := kind_of hw
   obtain ⟨f1, f2⟩ := decls_first ds R
   obtain ⟨x, r, e1, e2, e3⟩ := decl_back hnum d w l1 _ hd (by rw [h1, List.append_assoc]) f1 f2
   obtain ⟨ys, r2, g1, g2, g3⟩ := ih (xs ++ [x]) r R (fun y hy => hm y (List.mem_cons_of_mem _ hy)) e2
   refine ⟨x :: ys, r2, ?_, g2, by rw [List.map_cons, List.map_cons, e3, g3]⟩
   have hkn : keyN w.text = d.kind := by rw [n2, keyN_keyS hk.1 hk.2]
   rw [declsS, if_neg (by rw [n1]; decide), if_neg (by rw [n1]; exact fun h => absurd h.1 (by decide)), if_pos ⟨n1, by rw [hkn]; omega⟩]
   split
   · rename_i d' r' he
     rw [hkn, e1] at he
     injection he with a1 a2
     subst a1; subst a2
     rw [g1, List.append_assoc]; rfl
   · rename_i r' he
     rw [hkn, e1] at he
     cases he

theorem pt_first {p : Pt} {w : Wd} (hw : keyOf w = ptK p) (hm : mayPt p = true) : (ptOf w).bare = p.bare ∧ (w.kind = 8 ∨ symB2 w = true) := by
 unfold ptK at hw
 unfold mayPt at hm
 split at hw
 · rename_i h0
   obtain ⟨k1, k2, k3⟩ := symK_kind hw
   rw [if_pos h0] at hm
   have hn : p.sym.num = 0 := by
    unfold symB at hm
    split at hm
    · rw [decide_eq_true_iff] at hm; exact hm.2.2.1
    · rw [decide_eq_true_iff] at hm; exact hm.2.elim id (fun h => absurd h.1 (by decide))
   unfold ptOf
   rw [if_neg (by omega)]
   refine ⟨?_, .inr (by unfold symB2; rw [decide_eq_true_iff]; exact k1)⟩
   unfold Pt.bare
   rw [smOf_bare hw hn.symm]
   have : p.code = ByteArray.empty := ByteArray.ext (Array.eq_empty_of_size_eq_zero h0)
   rw [this]
 · rename_i h0
   obtain ⟨n1, n2⟩ := kind_of hw
   rw [if_neg h0, Bool.and_eq_true] at hm
   unfold ptOf
   rw [if_pos n1]
   refine ⟨?_, .inl n1⟩
   unfold Pt.bare
   obtain ⟨a1, a2, a3⟩ := of_decide_eq_true hm.1
   have e : p.sym.bare = noSm.bare := by
    unfold Sm.bare noSm
    rw [a2, a3, show p.sym.name = ByteArray.empty from ByteArray.ext (Array.eq_empty_of_size_eq_zero a1)]
   rw [e, n2]
/-- the keys with which the parts of an alternative stop -/
def Ends5 (R : List Ky) : Prop := ∀ y R', R = y :: R' → (y.1 = 5 ∨ y.1 = 6) ∧ y ≠ (6, ⟨#[58]⟩)
theorem parts_back : ∀ (ps : List Pt) (l : Wds) (R : List Ky), (∀ p ∈ ps, mayPt p = true) → l.map keyOf = ps.map ptK ++ R → Ends5 R →
  (rdParts l).2.map keyOf = R ∧ (rdParts l).1.map Pt.bare = ps.map Pt.bare := by
 intro ps
 induction ps with
 | nil =>
   intro l R _ h hR
   simp only [List.map_nil, List.nil_append] at h
   cases l with
   | nil => rw [rdParts]; exact ⟨h, rfl⟩
   | cons w l =>
     have := (hR (keyOf w) (l.map keyOf) h.symm).1
     unfold keyOf at this
     simp only at this
     rw [rdParts, if_neg (by unfold symB2; simp; omega)]
     exact ⟨h, rfl⟩
 | cons p ps ih =>
   intro l R hm h hR
   rw [List.map_cons, List.cons_append] at h
   obtain ⟨w, l1, rfl, hw, h1⟩ := hd_key h
   obtain ⟨e1, e2⟩ := pt_first hw (hm p (List.mem_cons_self ..))
   obtain ⟨g1, g2⟩ := ih l1 R (fun y hy => hm y (List.mem_cons_of_mem _ hy)) h1 hR
   have hnb : beginsB (w :: l1) = false := by
    unfold beginsB
    rw [decide_eq_false_iff_not]
    rintro ⟨_, c1, c2⟩
    rw [List.tail_cons] at c1 c2
    cases ps with
    | nil =>
      rw [List.map_nil, List.nil_append] at h1
      cases l1 with
      | nil => exact absurd c1 (by decide)
      | cons w2 l2 =>
        have := (hR (keyOf w2) (l2.map keyOf) h1.symm).2
        rw [hdW_cons] at c1 c2
        apply this
        unfold keyOf
        rw [c1]
        congr 1
        apply ByteArray.ext
        have : w2.text.toList = (⟨#[58]⟩ : ByteArray).toList := by rw [c2]; decide +kernel
        rw [ByteArray.toList_eq, ByteArray.toList_eq] at this
        exact Array.toList_inj.1 this
    | cons q qs =>
      rw [List.map_cons, List.cons_append] at h1
      obtain ⟨w2, l2, rfl, hw2, h2⟩ := hd_key h1
      rw [hdW_cons] at c1
      unfold ptK at hw2
      split at hw2
      · have := (symK_kind hw2).1; omega
      · have := (kind_of hw2).1; omega
   rw [rdParts, if_pos (by rw [hnb]; rcases e2 with e | e <;> simp [e])]
   exact ⟨g1, by rw [List.map_cons, List.map_cons, e1, g2]⟩

theorem bar_list : (⟨#[124]⟩ : ByteArray).toList = [124] := by decide +kernel
theorem semi_list : (⟨#[59]⟩ : ByteArray).toList = [59] := by decide +kernel
theorem colon_list : (⟨#[58]⟩ : ByteArray).toList = [58] := by decide +kernel
theorem prec_list : (⟨#[37, 112, 114, 101, 99]⟩ : ByteArray).toList = [37, 112, 114, 101, 99] := by decide +kernel
/-- the keys that stand behind an alternative -/
def BarSemi (R : List Ky) : Prop := ∃ R', R = barK :: R' ∨ R = (6, ⟨#[59]⟩) :: R'
theorem barSemi_ends {R : List Ky} (h : BarSemi R) : Ends5 R := by
 intro y R' e
 obtain ⟨R2, h | h⟩ := h
 · rw [h] at e; injection e with e1 e2; subst e1
   exact ⟨.inr rfl, by unfold barK; simp⟩
 · rw [h] at e; injection e with e1 e2; subst e1
   exact ⟨.inr rfl, by simp⟩
theorem none_bare {x : Sm} (h : noneB x = true) : noSm.bare = x.bare := by
 obtain ⟨a1, a2, a3⟩ := of_decide_eq_true h
 unfold Sm.bare noSm
 rw [a2, a3, show x.name = ByteArray.empty from ByteArray.ext (Array.eq_empty_of_size_eq_zero a1)]
theorem alt_back (a : Al) (l : Wds) (R : List Ky) (hm : mayAl a = true) (h : l.map keyOf = altK a ++ R) (hR : BarSemi R) :
  ∃ x r, altS l = .ok x r ∧ r.map keyOf = R ∧ x.bare = a.bare := by
 unfold mayAl at hm
 rw [Bool.and_eq_true, List.all_eq_true] at hm
 unfold altK at h
 rw [List.append_assoc] at h
 have hE : Ends5 ((if noneB a.prec = true then [] else [precK, symK a.prec]) ++ R) := by
  split
  · exact barSemi_ends hR
  · intro y R' e
    simp only [List.cons_append] at e
    injection e with e1 e2
    subst e1
    exact ⟨.inl rfl, by unfold precK; simp⟩
 obtain ⟨e1, e2⟩ := parts_back a.parts l _ hm.1 h hE
 unfold altS altEnd
 cases hn : noneB a.prec with
 | true =>
   rw [hn, if_pos rfl, List.nil_append] at e1
   have hp : precB (hdW (rdParts l).2) = false := by
    unfold precB
    rw [decide_eq_false_iff_not]
    rintro ⟨c, _⟩
    rw [hd_kind e1] at c
    obtain ⟨R2, h | h⟩ := hR
    · rw [h] at c; unfold barK at c; simp at c
    · rw [h] at c; simp at c
   rw [hp, if_neg (by decide)]
   refine ⟨_, _, rfl, e1, ?_⟩
   unfold Al.bare
   simp only [e2, none_bare hn]
 | false =>
   rw [hn, if_neg (by decide), List.cons_append, List.cons_append, List.nil_append] at e1
   obtain ⟨w1, l1, q1, hw1, h1⟩ := hd_key e1
   obtain ⟨w2, l2, q2, hw2, h2⟩ := hd_key h1
   subst q2
   rw [q1]
   obtain ⟨n1, n2⟩ := kind_of hw1
   have hp : precB (hdW (w1 :: w2 :: l2)) = true := by
    unfold precB
    rw [decide_eq_true_iff, hdW_cons, n2]
    exact ⟨n1, prec_list⟩
   obtain ⟨k1, k2, k3⟩ := symK_kind hw2
   have hs : symB2 (hdW (w1 :: w2 :: l2).tail) = true := by
    rw [List.tail_cons, hdW_cons]
    unfold symB2
    rw [decide_eq_true_iff]; exact k1
   have h8 : (hdW (w1 :: w2 :: l2).tail.tail).kind ≠ 8 := by
    rw [List.tail_cons, List.tail_cons, hd_kind h2]
    obtain ⟨R2, h | h⟩ := hR
    · rw [h]; unfold barK; simp
    · rw [h]; simp
   have hnum : a.prec.num = 0 := by
    have := hm.2
    rw [hn, Bool.false_or] at this
    unfold symB at this
    split at this
    · rw [decide_eq_true_iff] at this; exact this.2.2.1
    · rw [decide_eq_true_iff] at this; exact this.2.elim id (fun h => absurd h.1 (by decide))
   rw [if_pos hp, if_pos hs, if_neg h8]
   refine ⟨_, _, rfl, h2, ?_⟩
   unfold Al.bare
   simp only [e2, List.tail_cons, hdW_cons, smOf_bare hw2 hnum.symm]
theorem alts_back : ∀ (as1 : List Al) (a : Al) (xs : List Al) (l : Wds) (R : List Ky), (∀ b ∈ a :: as1, mayAl b = true) → l.map keyOf = altK a ++ (as1.flatMap (fun b => barK :: altK b) ++ ((6, ⟨#[59]⟩) :: R)) →
  ∃ ys r, altsS xs l = .ok (xs ++ ys) r ∧ r.map keyOf = (6, ⟨#[59]⟩) :: R ∧ ys.map Al.bare = (a :: as1).map Al.bare := by
 intro as1
 induction as1 with
 | nil =>
   intro a xs l R hm h
   obtain ⟨x, r, e1, e2, e3⟩ := alt_back a l _ (hm a (List.mem_cons_self ..)) h ⟨R, .inr rfl⟩
   refine ⟨[x], r, ?_, e2, by rw [List.map_cons, List.map_cons, e3]⟩
   rw [altsS]
   split
   · rename_i r' he; rw [e1] at he; cases he
   · rename_i x' r' he
     rw [e1] at he
     injection he with c1 c2
     subst c1; subst c2
     have : signB 124 (hdW r) = false := by
      obtain ⟨w, l1, rfl, hw, _⟩ := hd_key e2
      unfold signB
      rw [decide_eq_false_iff_not, hdW_cons, (kind_of hw).2, semi_list]
      exact fun h => absurd h.2 (by decide)
     rw [dif_neg (by rw [this]; simp)]
 | cons b as1 ih =>
   intro a xs l R hm h
   simp only [List.flatMap_cons, List.cons_append, List.append_assoc] at h
   obtain ⟨x, r, e1, e2, e3⟩ := alt_back a l _ (hm a (List.mem_cons_self ..)) h ⟨_, .inl rfl⟩
   obtain ⟨w, r1, rfl, hw, h1⟩ := hd_key e2
   obtain ⟨ys, r2, g1, g2, g3⟩ := ih b (xs ++ [x]) r1 R (fun c hc => hm c (List.mem_cons_of_mem _ hc)) h1
   refine ⟨x :: ys, r2, ?_, g2, by rw [List.map_cons, List.map_cons, e3, g3]⟩
   rw [altsS]
   split
   · rename_i r' he; rw [e1] at he; cases he
   · rename_i x' r' he
     rw [e1] at he
     injection he with c1 c2
     subst c1; subst c2
     have : signB 124 (hdW (w :: r1)) = true := by
      unfold signB
      rw [decide_eq_true_iff, hdW_cons, (kind_of hw).2]
      exact ⟨(kind_of hw).1, bar_list⟩
     rw [dif_pos ⟨by simp, this⟩, List.tail_cons, g1, List.append_assoc]; rfl
theorem rule_back (x : Rl) (l : Wds) (R : List Ky) (hm : mayRl x = true) (h : l.map keyOf = ruleK x ++ R) :
  ∃ y r, ruleS l = .ok y r ∧ r.map keyOf = R ∧ y.bare = x.bare := by
 unfold mayRl at hm
 rw [Bool.and_eq_true, Bool.and_eq_true, List.all_eq_true, decide_eq_true_iff] at hm
 unfold ruleK at h
 simp only [List.cons_append, List.append_assoc, List.nil_append] at h
 obtain ⟨w1, l1, rfl, hw1, h1⟩ := hd_key h
 obtain ⟨w2, l2, rfl, hw2, h2⟩ := hd_key h1
 obtain ⟨n1, n2⟩ := kind_of hw1
 obtain ⟨m1, m2⟩ := kind_of hw2
 cases ha : x.alts with
 | nil => exact absurd (by rw [ha]; rfl) hm.2.1
 | cons a as1 =>
   rw [ha] at h2
   simp only [altsK, List.append_assoc] at h2
   obtain ⟨ys, r, g1, g2, g3⟩ := alts_back as1 a [] l2 R (fun b hb => hm.2.2 b (by rw [ha]; exact hb)) h2
   obtain ⟨w3, r1, rfl, hw3, h3⟩ := hd_key g2
   unfold ruleS
   have hc : signB 58 (hdW (w1 :: w2 :: l2).tail) = true := by
    unfold signB
    rw [decide_eq_true_iff, List.tail_cons, hdW_cons, m2]
    exact ⟨m1, colon_list⟩
   rw [if_neg (by rw [hdW_cons, n1]; decide), if_neg (by rw [hc]; decide)]
   simp only [List.tail_cons, g1, List.nil_append]
   refine ⟨_, _, rfl, ?_, ?_⟩
   · unfold semiS
     have : signB 59 (hdW (w3 :: r1)) = true := by
      unfold signB
      rw [decide_eq_true_iff, hdW_cons, (kind_of hw3).2]
      exact ⟨(kind_of hw3).1, semi_list⟩
     rw [if_pos this, List.tail_cons, h3]
   · unfold Rl.bare
     simp only [hdW_cons, n2, g3, ha]
theorem rules_back : ∀ (xs : List Rl) (x : Rl) (as1 : List Rl) (l : Wds) (t : ByteArray), (∀ b ∈ x :: xs, mayRl b = true) → l.map keyOf = ruleK x ++ (xs.flatMap ruleK ++ [(10, t)]) →
  ∃ ys r, rulesS as1 l = .ok (as1 ++ ys) r ∧ r.map keyOf = [(10, t)] ∧ ys.map Rl.bare = (x :: xs).map Rl.bare := by
 intro xs
 induction xs with
 | nil =>
   intro x as1 l t hm h
   obtain ⟨y, r, e1, e2, e3⟩ := rule_back x l _ (hm x (List.mem_cons_self ..)) h
   refine ⟨[y], r, ?_, e2, by rw [List.map_cons, List.map_cons, e3]⟩
   rw [rulesS]
   split
   · rename_i r' he; rw [e1] at he; cases he
   · rename_i x' r' he
     rw [e1] at he
     injection he with c1 c2
     subst c1; subst c2
     rw [if_pos (by rw [hd_kind e2]; rfl)]
 | cons z xs ih =>
   intro x as1 l t hm h
   simp only [List.flatMap_cons, List.append_assoc] at h
   obtain ⟨y, r, e1, e2, e3⟩ := rule_back x l _ (hm x (List.mem_cons_self ..)) h
   obtain ⟨ys, r2, g1, g2, g3⟩ := ih z (as1 ++ [y]) r t (fun c hc => hm c (List.mem_cons_of_mem _ hc)) e2
   refine ⟨y :: ys, r2, ?_, g2, by rw [List.map_cons, List.map_cons, e3, g3]⟩
   rw [rulesS]
   split
   · rename_i r' he; rw [e1] at he; cases he
   · rename_i x' r' he
     rw [e1] at he
     injection he with c1 c2
     subst c1; subst c2
     rw [if_neg (by rw [hd_kind e2]; unfold ruleK; simp), g1, List.append_assoc]; rfl
/-- **what the words of a source's text are read as1: the source, but for places** -/
theorem so_back (hnum : ∀ n : Int, 1 ≤ n → n ≤ 50000 → ((rdNum (numT n) : Nat) : Int) = n) (s : So) (l : Wds) (hm : maySo s = true) (h : l.map keyOf = soK s) :
  ∃ x r, soS l = .ok x r ∧ x.bare = s.bare := by
 unfold maySo at hm
 rw [Bool.and_eq_true, Bool.and_eq_true, Bool.and_eq_true, List.all_eq_true, List.all_eq_true, decide_eq_true_iff] at hm
 obtain ⟨_, hd, hr, hn⟩ := hm
 unfold soK at h
 have h1 : ∃ b l1, declsS ByteArray.empty false [] l = declsS s.pro b [] l1 ∧ l1.map keyOf = s.decls.flatMap declK ++ ((7, ⟨#[37, 37]⟩) :: (s.rules.flatMap ruleK ++ [(10, s.tail)])) := by
  by_cases h0 : s.pro.size = 0
  · rw [if_pos h0, List.nil_append] at h
    exact ⟨false, l, by rw [show s.pro = ByteArray.empty from ByteArray.ext (Array.eq_empty_of_size_eq_zero h0)], h⟩
  · rw [if_neg h0, List.cons_append, List.nil_append] at h
    obtain ⟨w, l1, rfl, hw, h1⟩ := hd_key h
    obtain ⟨n1, n2⟩ := kind_of hw
    refine ⟨true, l1, ?_, h1⟩
    rw [declsS, if_neg (by rw [n1]; decide), if_pos ⟨n1, rfl⟩, n2]
 obtain ⟨b, l1, e0, h1⟩ := h1
 obtain ⟨ys, r, e1, e2, e3⟩ := decls_back hnum s.pro b s.decls [] l1 _ hd h1
 cases hrs : s.rules with
 | nil => exact absurd (by rw [hrs]; rfl) hn
 | cons x xs =>
   rw [hrs, List.flatMap_cons, List.append_assoc] at e2
   obtain ⟨zs, r2, g1, g2, g3⟩ := rules_back xs x [] r s.tail (fun c hc => hr c (by rw [hrs]; exact hc)) e2
   unfold soS
   rw [e0, e1]
   simp only [g1]
   refine ⟨_, _, rfl, ?_⟩
   obtain ⟨w, r3, rfl, hw, _⟩ := hd_key g2
   unfold So.bare
   simp only [List.nil_append, e3, g3, hrs, hdW_cons, (kind_of hw).2]
end Go.Proofs.YtnoppoifepbchaaDoor
