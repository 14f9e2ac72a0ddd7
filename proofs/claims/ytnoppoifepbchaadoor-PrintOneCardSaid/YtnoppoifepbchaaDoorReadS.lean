/- What is read out of words: the source, or the words that begin with the first one that cannot stand there. Of no program. -/
import Derived.Test.YtnoppoifepbchaaDoorSrc
import Derived.Test.YtnoppoifepbchaaDoorWd
import Derived.Test.YtnoppoifepbchaaDoorLLexWakes
import Derived.Test.YtnoppoifepbchaaDoorLLex3
import Derived.Test.YtnoppoifepbchaaDoorLAtoi
import Derived.Test.YtnoppoifepbchaaDoorLLex8
namespace Go.Proofs.YtnoppoifepbchaaDoor
section
set_option linter.unusedVariables false

abbrev Wds := List Wd
def hdW (l : Wds) : Wd := l.headD ⟨0, ByteArray.empty, 0⟩
/-- digits, azs a number -/
def rdNum (t : ByteArray) : Nat := t.data.toList.foldl (fun a c => a * 10 + (c.toNat - 48)) 0
def declaresB (k : Int) (w : Wd) : Bool := decide (w.kind = 1 ∨ (w.kind = 2 ∧ k ≠ 5 ∧ k ≠ 6))
/-- a name of %token with a number behind it -/
def numbered (k : Int) (w : Wd) (l : Wds) : Bool := decide (k = 1 ∧ w.kind = 1 ∧ (hdW l).kind = 3)
def smOf (w : Wd) (n : Int) : Sm := ⟨w.text, decide (w.kind = 2), n, w.place⟩
def rdSyms (k : Int) : Wds → List Sm × Wds
 | [] => ([], [])
 | w :: l =>
   if declaresB k w = true then
    if k = 6 then ([smOf w 0], l)
    else if numbered k w l = true then (smOf w (rdNum (hdW l).text : Nat) :: (rdSyms k l.tail).1, (rdSyms k l.tail).2)
    else (smOf w 0 :: (rdSyms k l).1, (rdSyms k l).2)
   else ([], w :: l)
 termination_by l => l.length
 decreasing_by all_goals (simp [List.length_tail]; try omega)

/-- a part of the source and what stands behind it; or the words with which none goes on -/
inductive Rd (α : Type)
 | ok (x : α) (l : Wds)
 | bad (l : Wds)

def tagS (k : Int) (l : Wds) : ByteArray × Wds := if k ≠ 6 ∧ (hdW l).kind = 4 then ((hdW l).text, l.tail) else (ByteArray.empty, l)
/-- behind its key word w -/
def declS (k : Int) (w : Wd) (l : Wds) : Rd Dc :=
 if k = 5 ∧ (hdW l).kind ≠ 4 then .bad l
 else if (rdSyms k (tagS k l).2).1 = [] then .bad (rdSyms k (tagS k l).2).2
 else .ok ⟨k, (tagS k l).1, (rdSyms k (tagS k l).2).1, w.place⟩ (rdSyms k (tagS k l).2).2

def keyN (t : ByteArray) : Int :=
 if t.toList = [37, 116, 111, 107, 101, 110] then 1 else if t.toList = [37, 108, 101, 102, 116] then 2 else if t.toList = [37, 114, 105, 103, 104, 116] then 3
 else if t.toList = [37, 110, 111, 110, 97, 115, 115, 111, 99] then 4 else if t.toList = [37, 116, 121, 112, 101] then 5 else if t.toList = [37, 115, 116, 97, 114, 116] then 6 else 0

theorem symsS_le (k : Int) : ∀ n (l : Wds), l.length ≤ n → (rdSyms k l).2.length ≤ l.length := by
 intro n
 induction n with
 | zero =>
   intro l hl
   obtain rfl := List.eq_nil_of_length_eq_zero (Nat.le_zero.1 hl)
   rw [rdSyms]; simp
 | succ n ih =>
   intro l hl
   match l with
   | [] => rw [rdSyms]; simp
   | w :: l =>
     simp only [List.length_cons] at hl
     rw [rdSyms]
     split
     · split
       · simp
       · split
         · have := ih l.tail (by rw [List.length_tail]; omega)
           rw [List.length_tail] at this
           simp; omega
         · have := ih l (by omega)
           simp; omega
     · simp
theorem tagS_le (k : Int) (l : Wds) : (tagS k l).2.length ≤ l.length := by
 unfold tagS
 split
 · simp
 · simp
theorem declS_le {k : Int} {w : Wd} {l r : Wds} {d : Dc} (h : declS k w l = .ok d r) : r.length ≤ l.length := by
 unfold declS at h
 split at h
 · cases h
 · split at h
   · cases h
   · cases h
     exact Nat.le_trans (symsS_le k _ _ (Nat.le_refl _)) (tagS_le k l)

/-- declarations, up to the mark: what stands ahead of them, whether that was there, the declarations -/
def declsS (P : ByteArray) (b : Bool) (ds : List Dc) : Wds → Rd (ByteArray × List Dc)
 | [] => .bad []
 | w :: l =>
   if w.kind = 7 then .ok (P, ds) l
   else if w.kind = 9 ∧ b = false then declsS w.text true ds l
   else if w.kind = 5 ∧ keyN w.text ≠ 0 then
    match h : declS (keyN w.text) w l with
    | .ok d r => declsS P b (ds ++ [d]) r
    | .bad r => .bad r
   else .bad (w :: l)
 termination_by l => l.length
 decreasing_by
  · simp
  · have := declS_le h; simp; omega

/-- does a rule begin there? -/
def beginsB (l : Wds) : Bool := decide ((hdW l).kind = 1 ∧ (hdW l.tail).kind = 6 ∧ (hdW l.tail).text.toList = [58])
def signB (c : UInt8) (w : Wd) : Bool := decide (w.kind = 6 ∧ w.text.toList = [c])
def symB2 (w : Wd) : Bool := decide (w.kind = 1 ∨ w.kind = 2)
def ptOf (w : Wd) : Pt := if w.kind = 8 then ⟨noSm, w.text, w.place⟩ else ⟨smOf w 0, ByteArray.empty, w.place⟩
def rdParts : Wds → List Pt × Wds
 | [] => ([], [])
 | w :: l => if (symB2 w && !beginsB (w :: l)) || decide (w.kind = 8) then (ptOf w :: (rdParts l).1, (rdParts l).2) else ([], w :: l)
theorem partsS_le : ∀ l : Wds, (rdParts l).2.length ≤ l.length
 | [] => by rw [rdParts]; simp
 | w :: l => by
   rw [rdParts]
   split
   · have := partsS_le l
     simp; omega
   · simp
def precB (w : Wd) : Bool := decide (w.kind = 5 ∧ w.text.toList = [37, 112, 114, 101, 99])
/-- behind the parts -/
def altEnd (ps : List Pt) (pos : Int) (l : Wds) : Rd Al :=
 if precB (hdW l) = true then
  if symB2 (hdW l.tail) = true then
   if (hdW l.tail.tail).kind = 8 then .ok ⟨ps ++ [ptOf (hdW l.tail.tail)], smOf (hdW l.tail) 0, pos⟩ l.tail.tail.tail
   else .ok ⟨ps, smOf (hdW l.tail) 0, pos⟩ l.tail.tail
  else .bad l.tail
 else .ok ⟨ps, noSm, pos⟩ l
def altS (l : Wds) : Rd Al := altEnd (rdParts l).1 (hdW l).place (rdParts l).2
theorem altS_le {l r : Wds} {a : Al} (h : altS l = .ok a r) : r.length ≤ l.length := by
 have h0 := partsS_le l
 unfold altS altEnd at h
 split at h
 · split at h
   · split at h <;> cases h <;> simp <;> omega
   · cases h
 · cases h; exact h0
def altsS (azs : List Al) (l : Wds) : Rd (List Al) :=
 match h : altS l with
 | .bad r => .bad r
 | .ok a r => if h2 : r ≠ [] ∧ signB 124 (hdW r) = true then altsS (azs ++ [a]) r.tail else .ok (azs ++ [a]) r
 termination_by l.length
 decreasing_by
  have := altS_le h
  have := List.length_pos_iff.2 h2.1
  rw [List.length_tail]; omega
theorem altsS_le : ∀ n (l : Wds), l.length ≤ n → ∀ azs x r, altsS azs l = .ok x r → r.length ≤ l.length := by
 intro n
 induction n with
 | zero =>
   intro l hl azs x r h
   rw [altsS] at h
   split at h
   · cases h
   · rename_i a r' he
     have h0 := altS_le he
     split at h
     · rename_i h2
       have := List.length_pos_iff.2 h2.1
       omega
     · cases h; exact h0
 | succ n ih =>
   intro l hl azs x r h
   rw [altsS] at h
   split at h
   · cases h
   · rename_i a r' he
     have h0 := altS_le he
     split at h
     · rename_i h2
       have h3 := List.length_pos_iff.2 h2.1
       have := ih r'.tail (by rw [List.length_tail]; omega) _ _ _ h
       rw [List.length_tail] at this
       omega
     · cases h; exact h0
def semiS (l : Wds) : Wds := if signB 59 (hdW l) = true then l.tail else l
theorem semiS_le (l : Wds) : (semiS l).length ≤ l.length := by unfold semiS; split <;> simp
def ruleS (l : Wds) : Rd Rl :=
 if (hdW l).kind ≠ 1 then .bad l
 else if signB 58 (hdW l.tail) = false then .bad l.tail
 else match altsS [] l.tail.tail with
  | .bad r => .bad r
  | .ok azs r => .ok ⟨(hdW l).text, azs, (hdW l).place⟩ (semiS r)
theorem hdW_nil {l : Wds} (h : (hdW l).kind ≠ 0) : 0 < l.length := by
 match l, h with
 | [], h => exact absurd rfl h
 | _ :: _, _ => simp
theorem ruleS_lt {l r : Wds} {x : Rl} (h : ruleS l = .ok x r) : r.length < l.length := by
 unfold ruleS at h
 split at h
 · cases h
 · rename_i h1
   split at h
   · cases h
   · split at h
     · cases h
     · rename_i azs r' he
       cases h
       have h2 := altsS_le _ _ (Nat.le_refl _) _ _ _ he
       have h3 := semiS_le r'
       have h4 := hdW_nil (l := l) (by omega)
       simp at h2
       omega
def rulesS (rs : List Rl) (l : Wds) : Rd (List Rl) :=
 match h : ruleS l with
 | .bad r => .bad r
 | .ok x r => if (hdW r).kind = 10 then .ok (rs ++ [x]) r else rulesS (rs ++ [x]) r
 termination_by l.length
 decreasing_by exact ruleS_lt h
/-- the words' source -/
def soS (l : Wds) : Rd So :=
 match declsS ByteArray.empty false [] l with
 | .bad r => .bad r
 | .ok x r => match rulesS [] r with
   | .bad r => .bad r
   | .ok rs r => .ok ⟨x.1, x.2, rs, (hdW r).text⟩ r
end
section
set_option linter.unusedVariables false

/-- words that end with the end, and have it nowhere else; what numbers are -/
structure LexOk (L : Wds) : Prop where
 ends : ∃ M t, L = M ++ [t] ∧ t.kind = 10 ∧ ∀ x ∈ M, x.kind ≠ 10
 num : ∀ x ∈ L, x.kind = 3 → x.text.size ≤ 5 ∧ 0 < x.text.size ∧ (∀ c ∈ x.text.data.toList, 48 ≤ c.toNat ∧ c.toNat ≤ 57) ∧ rdNum x.text ≤ 50000
 len : L.length ≤ 100000
 text : ∀ x ∈ L, x.text.size ≤ 100000
 place : ∀ x ∈ L, 0 ≤ x.place ∧ x.place ≤ 100000
 kinds : ∀ x ∈ L, 0 ≤ x.kind ∧ x.kind ≤ 10

def wAt (L : Wds) (n : Nat) : Wd := hdW (L.drop n)
theorem wAt_some {L : Wds} {n : Nat} (h : n < L.length) : L[n]? = some (wAt L n) := by
 unfold wAt hdW
 rw [List.headD_eq_head?_getD, List.head?_drop, List.getElem?_eq_getElem h]; rfl
theorem wAt_mem {L : Wds} {n : Nat} (h : n < L.length) : wAt L n ∈ L := List.mem_of_getElem? (wAt_some h)
theorem drop_eq {L : Wds} {n : Nat} (h : n < L.length) : L.drop n = wAt L n :: L.drop (n + 1) := by
 have h1 := wAt_some h
 rw [List.drop_eq_getElem_cons h]
 rw [List.getElem?_eq_getElem h] at h1
 rw [Option.some.inj h1]
theorem drop_tail (L : Wds) (n : Nat) : (L.drop n).tail = L.drop (n + 1) := List.tail_drop
theorem drop_ne {L : Wds} {n : Nat} (h : n < L.length) : L.drop n ≠ [] := by
 intro e
 have := List.length_drop (i := n) (l := L)
 rw [e] at this
 simp at this; omega
theorem LexOk.next {L : Wds} (h : LexOk L) {n : Nat} (hn : n < L.length) (hk : (wAt L n).kind ≠ 10) : n + 1 < L.length := by
 obtain ⟨M, t, rfl, ht, hM⟩ := h.ends
 have h1 := wAt_some hn
 rw [List.length_append, List.length_singleton] at hn ⊢
 rcases Nat.lt_or_ge n M.length with h2 | h2
 · omega
 · have : n = M.length := by omega
   subst this
   rw [List.getElem?_append_right (Nat.le_refl _)] at h1
   simp at h1
   rw [← h1] at hk
   exact absurd ht hk
theorem LexOk.pos {L : Wds} (h : LexOk L) : 0 < L.length := by
 obtain ⟨M, t, rfl, ht, hM⟩ := h.ends
 simp

section
variable {L : Wds} {n : Nat} {k : Int}
/-! the symbols of a declaration -/
theorem syms_stop (hn : n < L.length) (h : declaresB k (wAt L n) = false) : rdSyms k (L.drop n) = ([], L.drop n) := by
 rw [drop_eq hn, rdSyms, if_neg (by rw [h]; decide)]
theorem syms_start (hn : n < L.length) (h : declaresB 6 (wAt L n) = true) : rdSyms 6 (L.drop n) = ([smOf (wAt L n) 0], L.drop (n + 1)) := by
 rw [drop_eq hn, rdSyms, if_pos h, if_pos rfl]
theorem syms_num (hn : n < L.length) (hk : k ≠ 6) (h : declaresB k (wAt L n) = true) (h2 : numbered k (wAt L n) (L.drop (n + 1)) = true) :
  rdSyms k (L.drop n) = (smOf (wAt L n) (rdNum (wAt L (n + 1)).text : Nat) :: (rdSyms k (L.drop (n + 2))).1, (rdSyms k (L.drop (n + 2))).2) := by
 rw [drop_eq hn, rdSyms, if_pos h, if_neg hk, if_pos h2, drop_tail]; rfl
theorem syms_plain (hn : n < L.length) (hk : k ≠ 6) (h : declaresB k (wAt L n) = true) (h2 : numbered k (wAt L n) (L.drop (n + 1)) = false) :
  rdSyms k (L.drop n) = (smOf (wAt L n) 0 :: (rdSyms k (L.drop (n + 1))).1, (rdSyms k (L.drop (n + 1))).2) := by
 rw [drop_eq hn, rdSyms, if_pos h, if_neg hk, if_neg (by rw [h2]; decide)]
/-- so far these symbols; the rest from place n on -/
def SymsTo (k : Int) (L : Wds) (n0 : Nat) (xs : List Sm) (n : Nat) : Prop := rdSyms k (L.drop n0) = (xs ++ (rdSyms k (L.drop n)).1, (rdSyms k (L.drop n)).2)
theorem SymsTo.none (k : Int) (L : Wds) (n : Nat) : SymsTo k L n [] n := rfl
theorem SymsTo.step {n0 m : Nat} {xs : List Sm} {x : Sm} (h : SymsTo k L n0 xs n) (e : rdSyms k (L.drop n) = (x :: (rdSyms k (L.drop m)).1, (rdSyms k (L.drop m)).2)) : SymsTo k L n0 (xs ++ [x]) m := by
 unfold SymsTo at *
 rw [h, e]; simp
theorem SymsTo.stop {n0 : Nat} {xs : List Sm} (h : SymsTo k L n0 xs n) (e : rdSyms k (L.drop n) = ([], L.drop n)) : rdSyms k (L.drop n0) = (xs, L.drop n) := by
 unfold SymsTo at h
 rw [h, e]; simp
/-- one symbol of %start -/
theorem SymsTo.start {n0 : Nat} {xs : List Sm} (h : SymsTo 6 L n0 xs n) (hn : n < L.length) (e : declaresB 6 (wAt L n) = true) : rdSyms 6 (L.drop n0) = (xs ++ [smOf (wAt L n) 0], L.drop (n + 1)) := by
 unfold SymsTo at h
 rw [h, syms_start hn e]

/-! the parts of an alternative -/
def goesB2 (L : Wds) (n : Nat) : Bool := (symB2 (wAt L n) && !beginsB (L.drop n)) || decide ((wAt L n).kind = 8)
theorem parts_stop (hn : n < L.length) (h : goesB2 L n = false) : rdParts (L.drop n) = ([], L.drop n) := by
 unfold goesB2 at h
 rw [drop_eq hn] at h ⊢
 rw [rdParts, if_neg (by rw [h]; decide)]
theorem parts_next (hn : n < L.length) (h : goesB2 L n = true) : rdParts (L.drop n) = (ptOf (wAt L n) :: (rdParts (L.drop (n + 1))).1, (rdParts (L.drop (n + 1))).2) := by
 unfold goesB2 at h
 rw [drop_eq hn] at h ⊢
 rw [rdParts, if_pos h]
def PartsTo (L : Wds) (n0 : Nat) (xs : List Pt) (n : Nat) : Prop := rdParts (L.drop n0) = (xs ++ (rdParts (L.drop n)).1, (rdParts (L.drop n)).2)
theorem PartsTo.none (L : Wds) (n : Nat) : PartsTo L n [] n := rfl
theorem PartsTo.next {n0 : Nat} {xs : List Pt} (h : PartsTo L n0 xs n) (hn : n < L.length) (e : goesB2 L n = true) : PartsTo L n0 (xs ++ [ptOf (wAt L n)]) (n + 1) := by
 unfold PartsTo at *
 rw [h, parts_next hn e]; simp
theorem PartsTo.stop {n0 : Nat} {xs : List Pt} (h : PartsTo L n0 xs n) (hn : n < L.length) (e : goesB2 L n = false) : rdParts (L.drop n0) = (xs, L.drop n) := by
 unfold PartsTo at h
 rw [h, parts_stop hn e]; simp
end
end
section
open Go.RowKit
set_option linter.unusedVariables false

/-- a word that stands in a text -/
def WdOk (x : Wd) : Prop := 1 ≤ x.kind ∧ x.kind ≤ 9 ∧ 0 ≤ x.place ∧ x.place ≤ 100000 ∧ x.text.size ≤ 100000 ∧
 (x.kind = 3 → x.text.size ≤ 5 ∧ 0 < x.text.size ∧ (∀ c ∈ x.text.data.toList, 48 ≤ c.toNat ∧ c.toNat ≤ 57) ∧ rdNum x.text ≤ 50000)
theorem ext_small (s : ByteArray) (a b : Nat) (h : s.size ≤ 90000) : (s.extract a b).size ≤ 100000 := by rw [ByteArray.size_extract]; omega
theorem wdOk_plain {k : Int} {t : ByteArray} {i : Nat} (h1 : 1 ≤ k) (h9 : k ≤ 9) (h3 : k ≠ 3) (ht : t.size ≤ 100000) (hi : i ≤ 90000) : WdOk ⟨k, t, i⟩ :=
 ⟨h1, h9, by simp only; omega, by simp only; omega, ht, fun h => absurd h h3⟩
theorem digWd_ok (s : ByteArray) (i : Nat) (hi : i < s.size) (hd : digB (gAt s i) = true) (hs : s.size ≤ 90000) (hk : (digWd s i).1.kind ≠ 0) : WdOk (digWd s i).1 := by
 have hb := digF_bd s.size (gAt s) i (by omega)
 have hlt : i < digF s.size (gAt s) i := by
  rw [digF, if_pos ⟨hi, hd⟩]
  have := digF_bd s.size (gAt s) (i + 1) (by omega)
  omega
 have hds := digL_digs s i (by omega)
 have hlen : (digL s i).length = digF s.size (gAt s) i - i := extract_len s hb.2
 have h0 := extract_getD s (x := i) (m := 0) hb.2 (by omega)
 unfold digWd at hk ⊢
 split
 · rename_i h; rw [if_pos h] at hk; exact absurd rfl hk
 rename_i h; rw [if_neg h] at hk
 split
 · rename_i h2; rw [if_pos h2] at hk; exact absurd rfl hk
 rename_i h2
 have h48 : gAt s i ≠ 48 := fun e => h2 (.inl e)
 have h5 : horA 0 (digL s i) ≤ 50000 := Nat.le_of_not_lt (fun e => h2 (.inr e))
 have hsz : (s.extract i (digF s.size (gAt s) i)).size = (digL s i).length := rfl
 refine ⟨by show (1 : Int) ≤ 3; decide, by show (3 : Int) ≤ 9; decide, by show (0 : Int) ≤ (i : Int); omega, by show (i : Int) ≤ 100000; omega, ext_small _ _ _ hs, fun _ => ⟨?_, ?_, hds, h5⟩⟩
 · show (s.extract i (digF s.size (gAt s) i)).size ≤ 5
   rw [hsz]
   have hl0 : (digL s i).getD 0 0 = (s.extract i (digF s.size (gAt s) i)).data.toList.getD 0 0 := rfl
   rw [← hl0, Nat.add_zero] at h0
   cases hl : digL s i with
   | nil => simp
   | cons c r =>
     rw [hl] at h0 h5 hds
     have hc := hds c (List.mem_cons_self ..)
     have e0 : (c.toNat : Int) = gAt s i := h0
     rw [horA_cons] at h5
     have hg := horA_ge r (0 * 10 + (c.toNat - 48))
     have hc1 : 1 ≤ 0 * 10 + (c.toNat - 48) := by omega
     rcases Nat.lt_or_ge 4 r.length with h6 | h6
     · exfalso
       have h7 : 10 ^ 5 ≤ 10 ^ r.length := Nat.pow_le_pow_right (by decide) h6
       have h8 : 1 * 10 ^ r.length ≤ (0 * 10 + (c.toNat - 48)) * 10 ^ r.length := Nat.mul_le_mul_right _ hc1
       omega
     · simp only [List.length_cons]; omega
 · show 0 < (s.extract i (digF s.size (gAt s) i)).size
   rw [hsz]; omega
theorem wordWd_ok (s : ByteArray) (i : Nat) (hi : i < s.size) (hs : s.size ≤ 90000) (hk : (wordWd s i).1.kind ≠ 0) : WdOk (wordWd s i).1 := by
 unfold wordWd at hk ⊢
 split
 · rename_i h; rw [if_pos h] at hk
   unfold nameWd at hk ⊢
   split
   · exact wdOk_plain (by decide) (by decide) (by decide) (ext_small _ _ _ hs) (by omega)
   · rename_i h2; rw [if_neg h2] at hk; exact absurd rfl hk
 rename_i h; rw [if_neg h] at hk; clear h
 split
 · rename_i h; rw [if_pos h] at hk; exact digWd_ok s i hi h hs hk
 rename_i h; rw [if_neg h] at hk; clear h
 split
 · rename_i h; rw [if_pos h] at hk
   split
   · exact wdOk_plain (by decide) (by decide) (by decide) (by show 1 ≤ 100000; decide) (by omega)
   · rename_i h2; rw [if_neg h2] at hk; exact absurd rfl hk
 rename_i h; rw [if_neg h] at hk; clear h
 split
 · rename_i h; rw [if_pos h] at hk
   split
   · exact wdOk_plain (by decide) (by decide) (by decide) (ext_small _ _ _ hs) (by omega)
   · rename_i h2; rw [if_neg h2] at hk; exact absurd rfl hk
 rename_i h; rw [if_neg h] at hk; clear h
 split
 · exact wdOk_plain (by decide) (by decide) (by decide) (ext_small _ _ _ hs) (by omega)
 rename_i h; rw [if_neg h] at hk; clear h
 split
 · rename_i h; rw [if_pos h] at hk
   split
   · exact wdOk_plain (by decide) (by decide) (by decide) (ext_small _ _ _ hs) (by omega)
   · rename_i h2; rw [if_neg h2] at hk; exact absurd rfl hk
 rename_i h; rw [if_neg h] at hk; clear h
 split
 · rename_i h; rw [if_pos h] at hk
   unfold pctWd at hk ⊢
   split
   · rename_i h2; rw [if_pos h2] at hk; exact absurd rfl hk
   rename_i h2; rw [if_neg h2] at hk
   split
   · exact wdOk_plain (by decide) (by decide) (by decide) (ext_small _ _ _ hs) (by omega)
   rename_i h3; rw [if_neg h3] at hk
   split
   · rename_i h4; rw [if_pos h4] at hk
     split
     · rename_i h5; rw [if_pos h5] at hk; exact absurd rfl hk
     · exact wdOk_plain (by decide) (by decide) (by decide) (ext_small _ _ _ hs) (by omega)
   rename_i h4; rw [if_neg h4] at hk
   split
   · exact wdOk_plain (by decide) (by decide) (by decide) (ext_small _ _ _ hs) (by omega)
   · rename_i h5; rw [if_neg h5] at hk; exact absurd rfl hk
 · rename_i h; rw [if_neg h] at hk; exact absurd rfl hk
/-- words with the end behind them -/
theorem lexOk_end {L : List Wd} {t : ByteArray} {p : Int} (hL : ∀ x ∈ L, WdOk x) (hl : L.length ≤ 90000) (ht : t.size ≤ 100000) (h0 : 0 ≤ p) (h1 : p ≤ 100000) : LexOk (L ++ [⟨10, t, p⟩]) := by
 have key : ∀ (P : Wd → Prop), (∀ x, WdOk x → P x) → P ⟨10, t, p⟩ → ∀ x ∈ L ++ [⟨10, t, p⟩], P x := fun P h2 h3 x hx => by
  rcases List.mem_append.1 hx with h | h
  · exact h2 x (hL x h)
  · rw [List.mem_singleton.1 h]; exact h3
 exact {
  ends := ⟨L, _, rfl, rfl, fun x hx => by have := (hL x hx).2.1; omega⟩
  num := key (fun x => x.kind = 3 → _) (fun x hx => hx.2.2.2.2.2) (fun h => absurd h (show ¬ (10 : Int) = 3 by decide))
  len := by simp; omega
  text := key (fun x => x.text.size ≤ 100000) (fun x hx => hx.2.2.2.2.1) ht
  place := key (fun x => 0 ≤ x.place ∧ x.place ≤ 100000) (fun x hx => ⟨hx.2.2.1, hx.2.2.2.1⟩) ⟨h0, h1⟩
  kinds := key (fun x => 0 ≤ x.kind ∧ x.kind ≤ 10) (fun x hx => ⟨by have := hx.1; omega, by have := hx.2.1; omega⟩) ⟨show (0 : Int) ≤ 10 by decide, show (10 : Int) ≤ 10 by decide⟩ }
theorem wordsF_ok (s : ByteArray) (hs : s.size ≤ 90000) : ∀ (i m : Nat) (L : List Wd), i ≤ s.size → L.length ≤ i → (∀ x ∈ L, WdOk x) →
  ((wordsF s i m L).2.1 = 0 ∧ LexOk (wordsF s i m L).1) ∨ ((wordsF s i m L).2.1 = 2 ∧ (wordsF s i m L).1 = [] ∧ 0 ≤ (wordsF s i m L).2.2 ∧ (wordsF s i m L).2.2 ≤ 100000) := by
 intro i m L
 fun_induction wordsF s i m L with
 | case1 i m L h ih =>
   intro hi hl hL
   have h1 := betF_bd s.size (gAt s) _ i rfl hi
   have h2 := wordWd_bd s _ h.2.2.1 h.2.2.2.1
   refine ih (by omega) (by rw [List.length_append, List.length_singleton]; omega) (fun x hx => ?_)
   rcases List.mem_append.1 hx with h3 | h3
   · exact hL x h3
   · rw [List.mem_singleton.1 h3]; exact wordWd_ok s _ h.2.2.1 hs h.2.2.2.1
 | case2 i m L h =>
   intro hi hl hL
   have h1 := betF_bd s.size (gAt s) _ i rfl hi
   unfold stopF
   split
   · right; exact ⟨rfl, rfl, by simp only; omega, by simp only; omega⟩
   · split
     · split
       · right; exact ⟨rfl, rfl, by simp only; omega, by simp only; omega⟩
       · rename_i h3 h4
         have h2 := wordWd_bd s _ h3 h4
         left; exact ⟨rfl, lexOk_end hL (by omega) (ext_small _ _ _ hs) (by omega) (by omega)⟩
     · left; exact ⟨rfl, lexOk_end hL (by omega) (by show 0 ≤ 100000; decide) (by omega) (by omega)⟩
theorem wordsS_ok (s : ByteArray) : ((wordsS s).2.1 = 0 ∧ LexOk (wordsS s).1) ∨ (((wordsS s).2.1 = 2 ∨ (wordsS s).2.1 = 4) ∧ (wordsS s).1 = [] ∧ 0 ≤ (wordsS s).2.2 ∧ (wordsS s).2.2 ≤ 100000) := by
 unfold wordsS
 split
 · right; exact ⟨.inr rfl, rfl, by decide, by decide⟩
 · rcases wordsF_ok s (by omega) 0 0 [] (Nat.zero_le _) (Nat.zero_le _) (fun x hx => by cases hx) with h | h
   · exact .inl h
   · exact .inr ⟨.inl h.1, h.2⟩
theorem words_bounds (s : ByteArray) : (-9223372036854775808 ≤ (wordsS s).2.1 ∧ (wordsS s).2.1 ≤ 9223372036854775807) ∧ ((wordsS s).2.1 = 0 → LexOk (wordsS s).1) := by
 rcases wordsS_ok s with h | ⟨h | h, h2⟩
 · exact ⟨by rw [h.1]; decide, fun _ => h.2⟩
 · exact ⟨by rw [h]; decide, fun e => by rw [h] at e; exact absurd e (by decide)⟩
 · exact ⟨by rw [h]; decide, fun e => by rw [h] at e; exact absurd e (by decide)⟩
end
section
open Go.RowKit
set_option linter.unusedVariables false
set_option linter.unusedSimpArgs false
theorem lwords_any (s : ByteArray) (w : World) (hs : s.size ≤ 1000000) (hE : LexEnv w) :
  Calls Tryd.prog 25 #[.string s] w (LWordsTells (wordsS s) w) := by
 unfold wordsS
 by_cases h : 4000 < s.size
 · rw [if_pos h]; exact lwords_long s w hs h
 · rw [if_neg h]; exact lwords_in s w _ (by omega) hE (Lib.hid rfl)
end
end Go.Proofs.YtnoppoifepbchaaDoor
