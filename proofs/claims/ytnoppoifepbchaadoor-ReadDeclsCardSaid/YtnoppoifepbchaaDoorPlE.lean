/- How many, how long the parts are of what was read. -/
import Derived.Test.YtnoppoifepbchaaDoorPlC
import Derived.Test.YtnoppoifepbchaaDoorTxt1
namespace Go.Proofs.YtnoppoifepbchaaDoor
section
open Go.RowKit
section
set_option linter.unusedVariables false
set_option linter.unusedSimpArgs false
theorem tail_len {l : Wds} (h : (hdW l).kind ≠ 0) : l.tail.length + 1 = l.length := by
 cases l with
 | nil => exact absurd rfl h
 | cons w l => rfl
theorem syms_len (k : Int) : ∀ n (l : Wds), l.length ≤ n → (rdSyms k l).1.length + (rdSyms k l).2.length ≤ l.length := by
 intro n
 induction n with
 | zero =>
   intro l hl
   obtain rfl := List.eq_nil_of_length_eq_zero (Nat.le_zero.1 hl)
   rw [rdSyms]; simp
 | succ n ih =>
   intro l hl
   match l with
   | [] => rw [rdSyms]; simp
   | w :: l =>
     simp only [List.length_cons] at hl
     rw [rdSyms]
     split
     · split
       · simp; omega
       · split
         · have := ih l.tail (by rw [List.length_tail]; omega)
           rw [List.length_tail] at this
           simp; omega
         · have := ih l (by omega)
           simp; omega
     · simp
theorem decl_len {k : Int} {w : Wd} {l r : Wds} {d : Dc} (h : declS k w l = .ok d r) : d.syms.length ≤ l.length := by
 unfold declS at h
 split at h
 · cases h
 · split at h
   · cases h
   · cases h
     have h1 := syms_len k _ (tagS k l).2 (Nat.le_refl _)
     have h2 := tagS_le k l
     simp only; omega
theorem decls_len : ∀ n (l : Wds), l.length ≤ n → ∀ (P : ByteArray) (b : Bool) (ds : List Dc) x r, declsS P b ds l = .ok x r → x.2.length ≤ ds.length + l.length ∧ (∀ d ∈ x.2, d ∈ ds ∨ d.syms.length ≤ l.length) ∧ r.length ≤ l.length := by
 intro n
 induction n with
 | zero =>
   intro l hl P b ds x r h
   obtain rfl := List.eq_nil_of_length_eq_zero (Nat.le_zero.1 hl)
   rw [declsS] at h; cases h
 | succ n ih =>
   intro l hl P b ds x r h
   match l with
   | [] => rw [declsS] at h; cases h
   | w :: l =>
     simp only [List.length_cons] at hl
     rw [declsS] at h
     split at h
     · cases h; exact ⟨by simp, fun d hd => .inl hd, by simp⟩
     · split at h
       · obtain ⟨h1, h2, h3⟩ := ih l (by omega) _ _ _ _ _ h
         refine ⟨by simp; omega, fun d hd => ?_, by simp; omega⟩
         rcases h2 d hd with h4 | h4
         · exact .inl h4
         · exact .inr (by simp; omega)
       · split at h
         · split at h
           · rename_i d r' he
             have h5 := declS_le he
             have h6 := decl_len he
             obtain ⟨h1, h2, h3⟩ := ih r' (by omega) _ _ _ _ _ h
             simp only [List.length_append, List.length_singleton] at h1
             refine ⟨by simp; omega, fun c hc => ?_, by simp; omega⟩
             rcases h2 c hc with h4 | h4
             · rcases List.mem_append.1 h4 with h4 | h4
               · exact .inl h4
               · rw [List.mem_singleton.1 h4]; exact .inr (by simp; omega)
             · exact .inr (by simp; omega)
           · cases h
         · cases h
theorem parts_len : ∀ l : Wds, (rdParts l).1.length + (rdParts l).2.length ≤ l.length
 | [] => by rw [rdParts]; simp
 | w :: l => by
   have := parts_len l
   rw [rdParts]
   split
   · simp; omega
   · simp
theorem alt_len {l r : Wds} {a : Al} (h : altS l = .ok a r) : a.parts.length ≤ l.length := by
 have h0 := parts_len l
 unfold altS altEnd at h
 split at h
 · rename_i hp
   split at h
   · split at h
     · rename_i h8
       cases h
       have := hdW_nil (l := (rdParts l).2.tail.tail) (by omega)
       simp at this ⊢; omega
     · cases h; simp only; omega
   · cases h
 · cases h; simp only; omega
theorem alts_len : ∀ n (l : Wds), l.length ≤ n → ∀ zs x r, altsS zs l = .ok x r → x.length ≤ zs.length + l.length + 1 ∧ ∀ a ∈ x, a ∈ zs ∨ a.parts.length ≤ l.length := by
 intro n
 induction n with
 | zero =>
   intro l hl zs x r h
   rw [altsS] at h
   split at h
   · cases h
   · rename_i a r' he
     have h0 := altS_le he
     have h9 := alt_len he
     split at h
     · rename_i h2
       have := List.length_pos_iff.2 h2.1
       omega
     · cases h
       refine ⟨by simp only [List.length_append, List.length_singleton]; omega, fun c hc => ?_⟩
       rcases List.mem_append.1 hc with hc | hc
       · exact .inl hc
       · rw [List.mem_singleton.1 hc]; exact .inr h9
 | succ n ih =>
   intro l hl zs x r h
   rw [altsS] at h
   split at h
   · cases h
   · rename_i a r' he
     have h0 := altS_le he
     have h9 := alt_len he
     split at h
     · rename_i h2
       have h3 := List.length_pos_iff.2 h2.1
       obtain ⟨i1, i2⟩ := ih r'.tail (by rw [List.length_tail]; omega) _ _ _ h
       simp only [List.length_append, List.length_singleton, List.length_tail] at i1 i2
       refine ⟨by omega, fun c hc => ?_⟩
       rcases i2 c hc with h4 | h4
       · rcases List.mem_append.1 h4 with h4 | h4
         · exact .inl h4
         · rw [List.mem_singleton.1 h4]; exact .inr h9
       · exact .inr (by omega)
     · cases h
       refine ⟨by simp only [List.length_append, List.length_singleton]; omega, fun c hc => ?_⟩
       rcases List.mem_append.1 hc with hc | hc
       · exact .inl hc
       · rw [List.mem_singleton.1 hc]; exact .inr h9
theorem rule_len {l r : Wds} {x : Rl} (h : ruleS l = .ok x r) : x.alts.length ≤ l.length ∧ ∀ a ∈ x.alts, a.parts.length ≤ l.length := by
 unfold ruleS at h
 split at h
 · cases h
 · rename_i h1
   split at h
   · cases h
   · rename_i h2
     split at h
     · cases h
     · rename_i zs r' he
       cases h
       obtain ⟨i1, i2⟩ := alts_len _ _ (Nat.le_refl _) _ _ _ he
       have h3 := tail_len (l := l) (by omega)
       have h5 : signB 58 (hdW l.tail) = true := by cases hb : signB 58 (hdW l.tail) with
        | true => rfl
        | false => exact absurd hb h2
       unfold signB at h5
       have h6 := tail_len (l := l.tail) (by have := (of_decide_eq_true h5).1; omega)
       simp only [List.length_nil] at i1
       refine ⟨by simp only; omega, fun a ha => ?_⟩
       rcases i2 a ha with h7 | h7
       · cases h7
       · omega
theorem rules_len : ∀ n (l : Wds), l.length ≤ n → ∀ rs x r, rulesS rs l = .ok x r → x.length ≤ rs.length + l.length ∧ ∀ a ∈ x, a ∈ rs ∨ (a.alts.length ≤ l.length ∧ ∀ c ∈ a.alts, c.parts.length ≤ l.length) := by
 intro n
 induction n with
 | zero =>
   intro l hl rs x r h
   rw [rulesS] at h
   split at h
   · cases h
   · rename_i y r' he
     have := ruleS_lt he
     omega
 | succ n ih =>
   intro l hl rs x r h
   rw [rulesS] at h
   split at h
   · cases h
   · rename_i y r' he
     have hlt := ruleS_lt he
     have h9 := rule_len he
     split at h
     · cases h
       refine ⟨by simp only [List.length_append, List.length_singleton]; omega, fun c hc => ?_⟩
       rcases List.mem_append.1 hc with hc | hc
       · exact .inl hc
       · rw [List.mem_singleton.1 hc]; exact .inr h9
     · obtain ⟨i1, i2⟩ := ih r' (by omega) _ _ _ h
       simp only [List.length_append, List.length_singleton] at i1
       refine ⟨by omega, fun c hc => ?_⟩
       rcases i2 c hc with h4 | h4
       · rcases List.mem_append.1 h4 with h4 | h4
         · exact .inl h4
         · rw [List.mem_singleton.1 h4]; exact .inr h9
       · exact .inr ⟨by omega, fun e he2 => by have := h4.2 e he2; omega⟩
/-- how many parts a source has that was read of so many words -/
theorem so_few {l r : Wds} {x : So} (h : soS l = .ok x r) : x.decls.length ≤ l.length ∧ x.rules.length ≤ l.length ∧ (∀ d ∈ x.decls, d.syms.length ≤ l.length) ∧ ∀ r ∈ x.rules, r.alts.length ≤ l.length ∧ ∀ a ∈ r.alts, a.parts.length ≤ l.length := by
 unfold soS at h
 split at h
 · cases h
 · rename_i y r1 he
   obtain ⟨d1, d2, d3⟩ := decls_len _ _ (Nat.le_refl _) _ _ _ _ _ he
   split at h
   · cases h
   · rename_i rs r2 he2
     obtain ⟨g1, g2⟩ := rules_len _ _ (Nat.le_refl _) _ _ _ he2
     cases h
     simp only [List.length_nil] at d1 g1
     refine ⟨by simp only; omega, by simp only; omega, fun d hd => ?_, fun a ha => ?_⟩
     · rcases d2 d hd with h4 | h4
       · cases h4
       · exact h4
     · rcases g2 a ha with h4 | h4
       · cases h4
       · exact ⟨by omega, fun c hc => by have := h4.2 c hc; omega⟩
theorem wordsF_many (s : ByteArray) : ∀ (i m : Nat) (L : List Wd), i ≤ s.size → (wordsF s i m L).1.length ≤ L.length + (s.size - i) + 1 := by
 intro i m L
 fun_induction wordsF s i m L with
 | case1 i m L h ih =>
   intro hi
   have h1 := betF_bd s.size (gAt s) _ i rfl hi
   have h2 := wordWd_bd s _ h.2.2.1 h.2.2.2.1
   refine Nat.le_trans (ih (by omega)) ?_
   simp only [List.length_append, List.length_singleton]
   omega
 | case2 i m L h =>
   intro hi
   unfold stopF
   split
   · simp
   · split
     · split
       · simp
       · simp only [List.length_append, List.length_singleton]; omega
     · simp only [List.length_append, List.length_singleton]; omega
theorem wordsS_many (s : ByteArray) : (wordsS s).1.length ≤ s.size + 1 := by
 unfold wordsS
 split
 · simp
 · have := wordsF_many s 0 0 [] (Nat.zero_le _)
   simpa using this
end
section
set_option linter.unusedVariables false
set_option linter.unusedSimpArgs false
abbrev AllSz (B : Nat) (l : Wds) : Prop := ∀ w ∈ l, w.text.size ≤ B
theorem AllSz.tail {B : Nat} {l : Wds} (h : AllSz B l) : AllSz B l.tail := fun w hw => h w (List.mem_of_mem_tail hw)
theorem AllSz.hd {B : Nat} {l : Wds} (h : AllSz B l) : (hdW l).text.size ≤ B := by
 cases l with
 | nil => exact Nat.zero_le _
 | cons w l => exact h w (by simp)
theorem syms_sz (B : Nat) (k : Int) : ∀ n (l : Wds), l.length ≤ n → AllSz B l → AllSz B (rdSyms k l).2 := by
 intro n
 induction n with
 | zero =>
   intro l hl h
   obtain rfl := List.eq_nil_of_length_eq_zero (Nat.le_zero.1 hl)
   rw [rdSyms]; exact h
 | succ n ih =>
   intro l hl h
   match l with
   | [] => rw [rdSyms]; exact h
   | w :: l =>
     simp only [List.length_cons] at hl
     have hl' : AllSz B l := fun v hv => h v (by simp [hv])
     rw [rdSyms]
     split
     · split
       · exact hl'
       · split
         · exact ih l.tail (by rw [List.length_tail]; omega) hl'.tail
         · exact ih l (by omega) hl'
     · exact h
theorem decl_sz {B : Nat} {k : Int} {w : Wd} {l r : Wds} {d : Dc} (hl : AllSz B l) (h : declS k w l = .ok d r) : AllSz B r := by
 have h1 : AllSz B (tagS k l).2 := by
  unfold tagS
  split
  · exact hl.tail
  · exact hl
 unfold declS at h
 split at h
 · cases h
 · split at h
   · cases h
   · cases h; exact syms_sz B k _ _ (Nat.le_refl _) h1
theorem decls_sz (B : Nat) : ∀ n (l : Wds), l.length ≤ n → ∀ (P : ByteArray) (b : Bool) (ds : List Dc), AllSz B l → P.size ≤ B → ∀ x r, declsS P b ds l = .ok x r → x.1.size ≤ B ∧ AllSz B r := by
 intro n
 induction n with
 | zero =>
   intro l hl P b ds hm hp x r h
   obtain rfl := List.eq_nil_of_length_eq_zero (Nat.le_zero.1 hl)
   rw [declsS] at h; cases h
 | succ n ih =>
   intro l hl P b ds hm hp x r h
   match l with
   | [] => rw [declsS] at h; cases h
   | w :: l =>
     simp only [List.length_cons] at hl
     have hl' : AllSz B l := fun v hv => hm v (by simp [hv])
     rw [declsS] at h
     split at h
     · cases h; exact ⟨hp, hl'⟩
     · split at h
       · exact ih l (by omega) _ _ _ hl' (hm w (by simp)) _ _ h
       · split at h
         · split at h
           · rename_i d r' he
             have := declS_le he
             exact ih r' (by omega) _ _ _ (decl_sz hl' he) hp _ _ h
           · cases h
         · cases h
theorem pt_sz {B : Nat} {w : Wd} (hw : w.text.size ≤ B) : (ptOf w).code.size ≤ B := by
 unfold ptOf
 split
 · exact hw
 · exact Nat.zero_le _
theorem parts_sz {B : Nat} : ∀ l : Wds, AllSz B l → (∀ p ∈ (rdParts l).1, p.code.size ≤ B) ∧ AllSz B (rdParts l).2
 | [], h => by rw [rdParts]; exact ⟨(fun x hx => by cases hx), h⟩
 | w :: l, h => by
   have hl' : AllSz B l := fun v hv => h v (by simp [hv])
   obtain ⟨h1, h2⟩ := parts_sz l hl'
   rw [rdParts]
   split
   · refine ⟨fun p hp => ?_, h2⟩
     rcases List.mem_cons.1 hp with rfl | hp
     · exact pt_sz (h w (by simp))
     · exact h1 p hp
   · exact ⟨(fun x hx => by cases hx), h⟩
theorem alt_sz {B : Nat} {l r : Wds} {a : Al} (hl : AllSz B l) (h : altS l = .ok a r) : (∀ p ∈ a.parts, p.code.size ≤ B) ∧ AllSz B r := by
 obtain ⟨h1, h2⟩ := parts_sz l hl
 unfold altS altEnd at h
 split at h
 · split at h
   · split at h
     · cases h
       refine ⟨fun p hp => ?_, h2.tail.tail.tail⟩
       rcases List.mem_append.1 hp with hp | hp
       · exact h1 p hp
       · rw [List.mem_singleton.1 hp]; exact pt_sz h2.tail.tail.hd
     · cases h; exact ⟨h1, h2.tail.tail⟩
   · cases h
 · cases h; exact ⟨h1, h2⟩
theorem alts_sz {B : Nat} : ∀ n (l : Wds), l.length ≤ n → ∀ zs x r, AllSz B l → (∀ a ∈ zs, ∀ p ∈ a.parts, p.code.size ≤ B) → altsS zs l = .ok x r → (∀ a ∈ x, ∀ p ∈ a.parts, p.code.size ≤ B) ∧ AllSz B r := by
 intro n
 induction n with
 | zero =>
   intro l hl zs x r hm ha h
   rw [altsS] at h
   split at h
   · cases h
   · rename_i a r' he
     have h0 := altS_le he
     obtain ⟨a1, a2⟩ := alt_sz hm he
     split at h
     · rename_i h2
       have := List.length_pos_iff.2 h2.1
       omega
     · cases h
       refine ⟨fun c hc => ?_, a2⟩
       rcases List.mem_append.1 hc with hc | hc
       · exact ha c hc
       · rw [List.mem_singleton.1 hc]; exact a1
 | succ n ih =>
   intro l hl zs x r hm ha h
   rw [altsS] at h
   split at h
   · cases h
   · rename_i a r' he
     have h0 := altS_le he
     obtain ⟨a1, a2⟩ := alt_sz hm he
     have ha' : ∀ c ∈ zs ++ [a], ∀ p ∈ c.parts, p.code.size ≤ B := fun c hc => by
      rcases List.mem_append.1 hc with hc | hc
      · exact ha c hc
      · rw [List.mem_singleton.1 hc]; exact a1
     split at h
     · rename_i h2
       have h3 := List.length_pos_iff.2 h2.1
       exact ih r'.tail (by rw [List.length_tail]; omega) _ _ _ a2.tail ha' h
     · cases h
       exact ⟨ha', a2⟩
theorem rule_sz {B : Nat} {l r : Wds} {x : Rl} (hl : AllSz B l) (h : ruleS l = .ok x r) : (∀ a ∈ x.alts, ∀ p ∈ a.parts, p.code.size ≤ B) ∧ AllSz B r := by
 unfold ruleS at h
 split at h
 · cases h
 · split at h
   · cases h
   · split at h
     · cases h
     · rename_i zs r' he
       cases h
       obtain ⟨a2, a3⟩ := alts_sz _ _ (Nat.le_refl _) _ _ _ hl.tail.tail (fun c hc => by cases hc) he
       refine ⟨a2, ?_⟩
       unfold semiS
       split
       · exact a3.tail
       · exact a3
theorem rules_sz {B : Nat} : ∀ n (l : Wds), l.length ≤ n → ∀ rs x r, AllSz B l → (∀ a ∈ rs, ∀ c ∈ a.alts, ∀ p ∈ c.parts, p.code.size ≤ B) → rulesS rs l = .ok x r → (∀ a ∈ x, ∀ c ∈ a.alts, ∀ p ∈ c.parts, p.code.size ≤ B) ∧ AllSz B r := by
 intro n
 induction n with
 | zero =>
   intro l hl rs x r hm ha h
   rw [rulesS] at h
   split at h
   · cases h
   · rename_i y r' he
     have := ruleS_lt he
     omega
 | succ n ih =>
   intro l hl rs x r hm ha h
   rw [rulesS] at h
   split at h
   · cases h
   · rename_i y r' he
     have hlt := ruleS_lt he
     obtain ⟨a1, a2⟩ := rule_sz hm he
     have ha' : ∀ c ∈ rs ++ [y], ∀ e ∈ c.alts, ∀ p ∈ e.parts, p.code.size ≤ B := fun c hc => by
      rcases List.mem_append.1 hc with hc | hc
      · exact ha c hc
      · rw [List.mem_singleton.1 hc]; exact a1
     split at h
     · cases h
       exact ⟨ha', a2⟩
     · exact ih r' (by omega) _ _ _ a2 ha' h
/-- how long the texts of a source are that was read of such words -/
theorem so_sz {B : Nat} {l r : Wds} {x : So} (hl : AllSz B l) (h : soS l = .ok x r) : x.pro.size ≤ B ∧ x.tail.size ≤ B ∧ ∀ a ∈ x.rules, ∀ c ∈ a.alts, ∀ p ∈ c.parts, p.code.size ≤ B := by
 unfold soS at h
 split at h
 · cases h
 · rename_i y r1 he
   obtain ⟨d1, d3⟩ := decls_sz B _ _ (Nat.le_refl _) _ _ _ hl (Nat.zero_le _) _ _ he
   split at h
   · cases h
   · rename_i rs r2 he2
     obtain ⟨g2, g3⟩ := rules_sz _ _ (Nat.le_refl _) _ _ _ d3 (fun c hc => by cases hc) he2
     cases h
     exact ⟨d1, g3.hd, g2⟩
/-- names and texts of a source that may be, of texts so long -/
theorem sym_sz {num lit : Bool} {x : Sm} (h : symB num lit x = true) : x.name.size ≤ 20 := by
 unfold symB isNameB at h
 split at h
 · have := of_decide_eq_true h; omega
 · have h1 := (of_decide_eq_true h).1
   have := of_decide_eq_true h1
   omega
theorem none_sz {x : Sm} (h : noneB x = true) : x.name.size ≤ 20 := by
 unfold noneB at h
 have := of_decide_eq_true h
 omega

theorem so_small {x : So} (hm : maySo x = true) (h1 : x.pro.size ≤ 1000000) (h2 : x.tail.size ≤ 1000000) (h3 : ∀ a ∈ x.rules, ∀ c ∈ a.alts, ∀ p ∈ c.parts, p.code.size ≤ 1000000) : SoSmall x := by
 unfold maySo at hm
 rw [Bool.and_eq_true, Bool.and_eq_true, Bool.and_eq_true, List.all_eq_true, List.all_eq_true] at hm
 obtain ⟨_, hd, hr, _⟩ := hm
 refine ⟨h1, h2, fun d hdm => ?_, fun r hrm => ?_⟩
 · have := hd d hdm
   unfold mayDc dcB at this
   rw [Bool.and_eq_true, List.all_eq_true, decide_eq_true_iff] at this
   obtain ⟨⟨_, _, _, _, _, h4⟩, h5⟩ := this
   refine ⟨?_, fun y hy => Nat.le_trans (sym_sz (h5 y hy)) (by decide)⟩
   rcases h4 with h4 | h4
   · omega
   · unfold isNameB at h4
     have := of_decide_eq_true h4
     omega
 · have := hr r hrm
   unfold mayRl at this
   rw [Bool.and_eq_true, Bool.and_eq_true, List.all_eq_true] at this
   obtain ⟨h4, _, h5⟩ := this
   unfold isNameB at h4
   have h6 := of_decide_eq_true h4
   refine ⟨by omega, fun a ha => ?_⟩
   have h7 := h5 a ha
   unfold mayAl at h7
   rw [Bool.and_eq_true, List.all_eq_true, Bool.or_eq_true] at h7
   refine ⟨fun p hp => ⟨?_, h3 r hrm a ha p hp⟩, ?_⟩
   · have h8 := h7.1 p hp
     unfold mayPt at h8
     split at h8
     · exact Nat.le_trans (sym_sz h8) (by decide)
     · rw [Bool.and_eq_true] at h8
       exact Nat.le_trans (none_sz h8.1) (by decide)
   · rcases h7.2 with h8 | h8
     · exact Nat.le_trans (none_sz h8) (by decide)
     · exact Nat.le_trans (sym_sz h8) (by decide)
end
end
section
open Go.RowKit
set_option linter.unusedVariables false
set_option linter.unusedSimpArgs false
/-- the last word of a text, at its very end -/
theorem run_end {t τ : ByteArray} {y : Ky} {i m : Nat} (hτ : Tok τ y) (h : Hd t i τ.data.toList) (h7 : y.1 ≠ 7) (L : List Wd) : ∃ L', wordsF t i m L = (L ++ L', 0, 0) ∧ L'.map keyOf = [y, (10, ByteArray.empty)] := by
 have hl : τ.data.toList.length = τ.size := rfl
 have hS := Hd.same (R := []) (by rw [List.append_nil]; exact h)
 have hlen := congrArg List.length h.2
 rw [List.length_drop] at hlen
 have hz0 : t.data.toList.length = t.size := rfl
 have hend : i + τ.size = t.size := by have := h.1; omega
 have hz : (wordWd τ 0).2 = τ.size := by rw [hτ.2.1]
 have hw := word_move (s := τ) (t := t) (x := 0) (y := i) hτ.1 (by rw [hτ.2.1]; exact hτ.2.2) (by rw [hz]; exact hS) (by rw [hz]; exact .inr (by rw [Nat.sub_zero, hend, oAt_end (Nat.lt_irrefl _)]; decide))
 rw [hτ.2.1] at hw
 simp only [Nat.sub_zero] at hw
 have hit : i < t.size := by have := hτ.1; omega
 have hk : (wordWd t i).1.kind ≠ 0 := by rw [hw]; exact hτ.2.2
 obtain ⟨f1, f2⟩ := word_first hit hk
 rw [words_on (bet_none hit f1 f2) (Nat.le_refl _) hit hk (by rw [hw]; exact fun hc => h7 hc.1), hw]
 simp only [hend]
 rw [words_out (by rw [betF, dif_neg (Nat.lt_irrefl _)])]
 exact ⟨[⟨y.1, y.2, i⟩, ⟨10, ByteArray.empty, t.size⟩], by simp, rfl⟩
def emptyRl : Rl := ⟨⟨#[97]⟩, [⟨[], noSm, 0⟩], 0⟩
def declsT (ds : List Dc) : List UInt8 := ds.flatMap (fun d => declT d ++ [10]) ++ [37, 37, 32, 97, 32, 58, 32, 59]
def declsSo (ds : List Dc) : So := ⟨ByteArray.empty, ds, [emptyRl], ByteArray.empty⟩
theorem decls_words {ds : List Dc} (hd : ∀ d ∈ ds, mayDc d = true) : ∃ L, wordsF ⟨(declsT ds).toArray⟩ 0 0 [] = (L, 0, 0) ∧ L.map keyOf = soK (declsSo ds) := by
 generalize ht : (⟨(declsT ds).toArray⟩ : ByteArray) = t
 have h : Hd t 0 (ds.flatMap (fun d => declT d ++ [10]) ++ [37, 37, 32, 97, 32, 58, 32, 59]) := by
  refine ⟨Nat.zero_le _, ?_⟩
  rw [← ht]; rfl
 obtain ⟨i2, r2, h2⟩ := run_flat (m := 0) (g := declK) ds 0 (fun d hd' i R hh => run_decl (hd d hd') hh) h
 obtain ⟨r3, h3⟩ := run_tok (m := 0) tok_mark (show Hd t i2 ((⟨#[37, 37]⟩ : ByteArray).data.toList ++ 32 :: [97, 32, 58, 32, 59]) from h2) (.inl rfl) (fun hc => absurd hc.2 (by decide))
 rw [if_pos rfl] at r3
 generalize i2 + (⟨#[37, 37]⟩ : ByteArray).size + 1 = i3 at r3 h3
 obtain ⟨r4, h4⟩ := run_tok (m := 1) (tok_fix ⟨#[97]⟩ 1 (by decide +kernel)) (show Hd t i3 ((⟨#[97]⟩ : ByteArray).data.toList ++ 32 :: [58, 32, 59]) from h3) (.inl rfl) (fun hc => absurd hc.1 (by decide))
 rw [if_neg (by decide)] at r4
 generalize i3 + (⟨#[97]⟩ : ByteArray).size + 1 = i4 at r4 h4
 obtain ⟨r5, h5⟩ := run_tok (m := 1) tok_colon (show Hd t i4 ((⟨#[58]⟩ : ByteArray).data.toList ++ 32 :: [59]) from h4) (.inl rfl) (fun hc => absurd hc.1 (by decide))
 rw [if_neg (by decide)] at r5
 generalize i4 + (⟨#[58]⟩ : ByteArray).size + 1 = i5 at r5 h5
 obtain ⟨L, e, hL⟩ := (r2.trans (r3.trans (r4.trans r5))) []
 obtain ⟨L2, e2, hL2⟩ := run_end (m := 1) tok_semi (show Hd t i5 (⟨#[59]⟩ : ByteArray).data.toList from h5) (by decide) ([] ++ L)
 rw [e, e2]
 refine ⟨_, rfl, ?_⟩
 rw [List.nil_append, List.map_append, hL, hL2]
 show _ = [] ++ (ds.flatMap declK ++ ((7, ⟨#[37, 37]⟩) :: ([emptyRl].flatMap ruleK ++ [(10, ByteArray.empty)])))
 have e3 : [emptyRl].flatMap ruleK = [(1, ⟨#[97]⟩), (6, ⟨#[58]⟩), (6, ⟨#[59]⟩)] := rfl
 rw [e3]
 simp
theorem dcs_may {ds : List Dc} (hd : ∀ d ∈ ds, mayDc d = true) : maySo (declsSo ds) = true := by
 unfold maySo declsSo
 rw [Bool.and_eq_true, Bool.and_eq_true, Bool.and_eq_true, List.all_eq_true, List.all_eq_true]
 refine ⟨(by decide +kernel : (!pctB ByteArray.empty) = true), hd, fun r hr => ?_, (rfl : decide ([emptyRl].length ≠ 0) = true)⟩
 rw [List.mem_singleton.1 hr]
 decide +kernel
theorem dcs_back {ds : List Dc} (hd : ∀ d ∈ ds, mayDc d = true) (hs : (⟨(declsT ds).toArray⟩ : ByteArray).size ≤ 4000) : ∃ y, readT ⟨(declsT ds).toArray⟩ = (y, 0, 0) ∧ y.same (declsSo ds) = true := by
 obtain ⟨L, e, hL⟩ := decls_words hd
 obtain ⟨x, r, h1, h2⟩ := so_back num_back (declsSo ds) L (dcs_may hd) hL
 refine ⟨x, ?_, same_bare h2⟩
 have e9 : wordsS ⟨(declsT ds).toArray⟩ = (L, 0, 0) := by unfold wordsS; rw [if_neg (by omega), e]
 unfold readT readS
 rw [e9]
 simp only [h1]
 rfl
/-- a declaration of law ReadDecls, and its text -/
def plusB : ByteArray := ⟨#[43]⟩
def nmB (j : Nat) : ByteArray := ⟨#[110]⟩ ++ numT (j : Int)
def mkSm (q i j : Nat) : Sm := if j = 1 ∧ q < 4 then ⟨plusB, true, 0, 0⟩ else ⟨nmB j, false, if j = 2 ∧ q = 0 then 300 + (i : Int) else 0, 0⟩
def tgB (tg : Bool) : ByteArray := if tg then ⟨#[116]⟩ else ByteArray.empty
def mkDc (q i : Nat) (tg : Bool) (m : Nat) : Dc := ⟨1 + (q : Int), tgB tg, (List.range m).map (mkSm q i), 0⟩
def smTx (q i j : Nat) : ByteArray := if j = 1 ∧ q < 4 then ⟨#[32, 39, 43, 39]⟩ else if j = 2 ∧ q = 0 then ⟨#[32]⟩ ++ nmB j ++ ⟨#[32]⟩ ++ numT (300 + (i : Int)) else ⟨#[32]⟩ ++ nmB j
def dTx (q i : Nat) (tg : Bool) : Nat → ByteArray
 | 0 => if tg then keyS (1 + (q : Int)) ++ ⟨#[32, 60, 116, 62]⟩ else keyS (1 + (q : Int))
 | m + 1 => dTx q i tg m ++ smTx q i m
def okQ (q : Nat) (tg : Bool) (m : Nat) : Bool := decide (1 ≤ m) && decide (m ≤ 3) && decide (q < 6) && (!(q == 4) || tg) && (!(q == 5) || (!tg && m == 1))
theorem dc_all : ∀ q : Fin 6, ∀ i : Fin 8, ∀ tg : Bool, ∀ m : Fin 4, okQ q.val tg m.val = true → (mayDc (mkDc q.val i.val tg m.val) && ((dTx q.val i.val tg m.val).data.toList == declT (mkDc q.val i.val tg m.val))) = true := by decide +kernel
theorem dTx_small : ∀ q : Fin 6, ∀ i : Fin 8, ∀ tg : Bool, ∀ m : Fin 4, (dTx q.val i.val tg m.val).size ≤ 40 := by decide +kernel
theorem smTx_small : ∀ q : Fin 6, ∀ i : Fin 8, ∀ m : Fin 4, (smTx q.val i.val m.val).size ≤ 40 := by decide +kernel
theorem num_small : ∀ i : Fin 8, (numT (300 + (i.val : Int))).size = 3 := by decide +kernel
theorem nm_small : ∀ i : Fin 4, (nmB i.val).size = 2 ∧ (numT (i.val : Int)).size = 1 := by decide +kernel
end
end Go.Proofs.YtnoppoifepbchaaDoor
