/- The grammar of tokens with numbers of their own. Of no program but for names. -/
import Derived.Test.YtkgbifbbpmdpgaaNNmC
import Derived.Test.YtkgbifbbpmdpgaaNOf16
import Derived.Outline
set_option linter.unusedVariables false
set_option linter.unusedSimpArgs false
namespace Go.Proofs.Ytkgbifbbpmdpgaa
theorem Mk.put_name {m : Mk} {x : Sm} (h : ¬ 0 ≤ m.tok x) (hl : x.lit = false) : m.put x = (m.push ⟨x.name, false, 0, 0, 0, ⟨#[]⟩⟩ false, (m.toks.length : Int)) := by
 unfold Mk.put; rw [if_neg h, if_neg (by rw [hl]; decide)]
section
open Go.RowKit
theorem has_snoc {l : List Int} {x : Int} {k : Nat} (h : ∀ j, j < k → l.getD j 0 ≠ x) (hk : l.length ≤ k) : decide (x ∈ l) = false := by
 rw [decide_eq_false_iff_not]
 intro hc
 obtain ⟨i, hi, rfl⟩ := List.getElem_of_mem hc
 exact h i (by omega) (by rw [List.getD_eq_getElem?_getD, List.getElem?_eq_getElem hi]; rfl)
theorem has_here {l : List Int} {x : Int} {k : Nat} (hk : k < l.length) (h : l.getD k 0 = x) : decide (x ∈ l) = true := by
 rw [decide_eq_true_iff, ← h, List.getD_eq_getElem?_getD, List.getElem?_eq_getElem hk]
 exact List.getElem_mem hk
theorem zhas_any (v : Value) (l : List Int) (x : Int) (w : World) (h : IntsV w v l) :
  Calls Try.prog 27 #[v, .int .i64 x] w fun e w' => e = .returned (.bool (decide (x ∈ l))) ∧ w = w' := by
 obtain ⟨a, n, c, rfl, hn, hnc, hc, hx⟩ := h.open
 clear h
 go_enter Try.func27, Try.ntmps27
 go_wp2
 go_loop [5] (fun i => ∃ k : Nat, k ≤ n ∧ i = .int .i64 k ∧ Hid (∀ j, j < k → l.getD j 0 ≠ x)) (fun i => n - (intOf i).toNat)
 case atStart => exact ⟨0, Nat.zero_le _, rfl, Lib.hid (fun j hj => absurd hj (Nat.not_lt_zero _))⟩
 case round =>
  obtain ⟨k, hk, rfl, hp⟩ := hrel
  by_cases hlt : k < n
  · obtain ⟨b, o, rfl, c1⟩ := hx.out k hlt
    by_cases he : l.getD k 0 = x
    · have HE := Lib.hid (has_here (by have := hn.out; omega) he)
      have h1 : (l.getD k 0 == x) = true := by rw [beq_iff_eq]; exact he
      clear he
      generalize l.getD k 0 = y at c1 h1
      go_wp2
      go_ret
      exact ⟨ret_bool HE.out.symm, rfl⟩
    · have HE := Lib.hid he
      have h1 : (l.getD k 0 == x) = false := by rw [beq_eq_false_iff_ne]; exact he
      clear he
      generalize hy : l.getD k 0 = y at c1 h1 HE
      have HY := Lib.hid hy
      clear hy
      go_wp2
      go_round
      case rel => exact ⟨k + 1, by omega, by go_num, Lib.hid (fun j hj => by
       by_cases e : j = k
       · subst e; rw [HY.out]; exact HE.out
       · exact hp.out j (by omega))⟩
      case measure => simp [intOf]; omega
  · go_wp2
    go_ret
    exact ⟨ret_bool (has_snoc hp.out (by have := hn.out; omega)).symm, rfl⟩
end
def tN (k : Nat) : ByteArray := ⟨#[116]⟩ ++ digS k
def sB : ByteArray := ⟨#[115]⟩
theorem tN_eq : ∀ a b : Fin 31, eqB (tN a.val) (tN b.val) = decide (a.val = b.val) := by decide +kernel
theorem tN_base : ∀ a : Fin 31, ∀ v ∈ baseV, eqB v.1 (tN a.val) = false := by decide +kernel
theorem tN_s : ∀ a : Fin 31, eqB (tN a.val) sB = false := by decide +kernel
theorem sB_base : ∀ v ∈ baseV, eqB v.1 sB = false := by decide +kernel
theorem tN_name : ∀ a : Fin 31, 1 ≤ a.val → isNameB (tN a.val) = true := by decide +kernel
theorem tN_size : ∀ a : Fin 31, (digS a.val).size ≤ 2 := by decide +kernel
def nSm (k : Int) : Sm := ⟨tN k.toNat, false, k, 0⟩
def nTk (k : Int) : Tk := ⟨tN k.toNat, false, k, 0, 0, ⟨#[]⟩⟩
def ownTo (l : List Int) : Nat → List Int
 | 0 => []
 | i + 1 => if 1 + l.getD i 0 % 30 ∈ ownTo l i then ownTo l i else ownTo l i ++ [1 + l.getD i 0 % 30]
structure OwnOk (ow : List Int) : Prop where
 nd : ow.Nodup
 bd : ∀ k ∈ ow, 1 ≤ k ∧ k ≤ 30
 ln : ow.length ≤ 20
theorem ownTo_ok (l : List Int) : ∀ i, i ≤ 20 → (ownTo l i).Nodup ∧ (∀ k ∈ ownTo l i, 1 ≤ k ∧ k ≤ 30) ∧ (ownTo l i).length ≤ i
 | 0, _ => ⟨List.nodup_nil, fun k h => (by cases h), Nat.le_refl _⟩
 | i + 1, hi => by
   obtain ⟨h1, h2, h3⟩ := ownTo_ok l i (by omega)
   unfold ownTo
   split
   · exact ⟨h1, h2, by omega⟩
   · rename_i hn
     refine ⟨?_, fun k hk => ?_, by rw [List.length_append, List.length_singleton]; omega⟩
     · rw [List.nodup_append]
       refine ⟨h1, List.nodup_cons.2 ⟨by simp, List.nodup_nil⟩, fun a ha b hb e => ?_⟩
       rw [List.mem_singleton] at hb
       subst e; subst hb
       exact hn ha
     · rcases List.mem_append.1 hk with h | h
       · exact h2 k h
       · rw [List.mem_singleton] at h
         omega
def noneD (ow : List Int) : Dc := ⟨1, ⟨#[]⟩, ow.map nSm, 0⟩
def noneS (ow : List Int) : So := ⟨⟨#[]⟩, if ow.length = 0 then [] else [noneD ow], [⟨sB, [noAl], 0⟩], ⟨#[]⟩⟩
def toksN (ow : List Int) (j : Nat) : List Tk := [tkEnd, tkErr, tkUnk] ++ (ow.take j).map nTk
def givN (j : Nat) : List Bool := [false, false, false] ++ List.replicate j true
structure NnI (ow : List Int) (j : Nat) (m : Mk) : Prop where
 tk : m.toks = toksN ow j
 gv : m.given = givN j
 e : m.e = 0
 lf : m.lefts = []
 nn : m.inner = 0
 pd : m.prods = []
theorem toksN_len {ow : List Int} {j : Nat} (h : j ≤ ow.length) : (toksN ow j).length = 3 + j := by simp [toksN]; omega
theorem toksN_at {ow : List Int} {i j : Nat} (h : i < j) (hj : j ≤ ow.length) : (toksN ow j).getD (3 + i) noTk = nTk (ow.getD i 0) := by
 unfold toksN
 rw [List.getD_eq_getElem?_getD, List.getElem?_append_right (by simp)]
 have : 3 + i - [tkEnd, tkErr, tkUnk].length = i := by simp
 rw [this, List.getElem?_map, List.getElem?_take, if_pos h, List.getElem?_eq_getElem (by omega), List.getD_eq_getElem?_getD, List.getElem?_eq_getElem (by omega)]
 rfl
theorem toksN_low {ow : List Int} {i j : Nat} (h : i < 3) : tokV ((toksN ow j).getD i noTk) ∈ baseV := by
 unfold toksN
 rw [List.getD_eq_getElem?_getD, List.getElem?_append_left (by simpa using h)]
 match i, h with
 | 0, _ => exact List.mem_cons_self
 | 1, _ => exact List.mem_cons_of_mem _ List.mem_cons_self
 | 2, _ => exact List.mem_cons_of_mem _ (List.mem_cons_of_mem _ List.mem_cons_self)
theorem own_at {ow : List Int} (h : OwnOk ow) {i : Nat} (hi : i < ow.length) : 1 ≤ ow.getD i 0 ∧ ow.getD i 0 ≤ 30 := by
 rw [List.getD_eq_getElem?_getD, List.getElem?_eq_getElem hi]; exact h.bd _ (List.getElem_mem _)
theorem own_ne {ow : List Int} (h : OwnOk ow) {i j : Nat} (hij : i < j) (hj : j < ow.length) : ow.getD i 0 ≠ ow.getD j 0 := by
 rw [List.getD_eq_getElem?_getD, List.getElem?_eq_getElem (by omega), List.getD_eq_getElem?_getD, List.getElem?_eq_getElem hj]
 exact List.pairwise_iff_getElem.1 h.nd i j (by omega) hj hij
theorem tokN_new {ow : List Int} (h : OwnOk ow) {j : Nat} (hj : j < ow.length) {m : Mk} (hm : m.toks = toksN ow j) : m.tok (nSm (ow.getD j 0)) = -1 := by
 refine firstN_none (fun i h1 h2 => ?_)
 unfold tokP
 rw [hm] at h2 ⊢
 rw [toksN_len (by omega)] at h2
 obtain ⟨a1, a2⟩ := own_at h hj
 by_cases hi : i < 3
 · have := tN_base ⟨(ow.getD j 0).toNat, by omega⟩ _ (toksN_low (ow := ow) (j := j) hi)
   rw [show eqB ((toksN ow j).getD i noTk).name (nSm (ow.getD j 0)).name = false from this]
   rfl
 · obtain ⟨k, rfl⟩ : ∃ k, i = 3 + k := ⟨i - 3, by omega⟩
   rw [toksN_at (by omega) (by omega)]
   obtain ⟨b1, b2⟩ := own_at h (show k < ow.length by omega)
   have hne := own_ne h (show k < j by omega) hj
   have := tN_eq ⟨(ow.getD k 0).toNat, by omega⟩ ⟨(ow.getD j 0).toNat, by omega⟩
   rw [show eqB (nTk (ow.getD k 0)).name (nSm (ow.getD j 0)).name = decide ((ow.getD k 0).toNat = (ow.getD j 0).toNat) from this]
   rw [decide_eq_false (by omega)]
   rfl
theorem tokS_none {ow : List Int} (h : OwnOk ow) {j : Nat} (hj : j ≤ ow.length) {m : Mk} (hm : m.toks = toksN ow j) : m.tok ⟨sB, false, 0, 0⟩ = -1 := by
 refine firstN_none (fun i h1 h2 => ?_)
 unfold tokP
 rw [hm] at h2 ⊢
 rw [toksN_len hj] at h2
 by_cases hi : i < 3
 · have := sB_base _ (toksN_low (ow := ow) (j := j) hi)
   rw [show eqB ((toksN ow j).getD i noTk).name (⟨sB, false, 0, 0⟩ : Sm).name = false from this]
   rfl
 · obtain ⟨k, rfl⟩ : ∃ k, i = 3 + k := ⟨i - 3, by omega⟩
   rw [toksN_at (by omega) hj]
   obtain ⟨b1, b2⟩ := own_at h (show k < ow.length by omega)
   have := tN_s ⟨(ow.getD k 0).toNat, by omega⟩
   rw [show eqB (nTk (ow.getD k 0)).name (⟨sB, false, 0, 0⟩ : Sm).name = false from this]
   rfl
theorem owner_new {ow : List Int} (h : OwnOk ow) {j : Nat} (hj : j < ow.length) {m : Mk} {tl : List Tk} (hm : m.toks = toksN ow j ++ [⟨tN (ow.getD j 0).toNat, false, 0, 0, 0, ⟨#[]⟩⟩]) : m.owner (ow.getD j 0) = -1 := by
 refine firstN_none (fun i h1 h2 => ?_)
 unfold ownP
 rw [hm] at h2 ⊢
 obtain ⟨a1, a2⟩ := own_at h hj
 rw [List.length_append, toksN_len (by omega), List.length_singleton] at h2
 rw [getT_push, toksN_len (by omega)]
 split
 · show ((0 : Int) == _) = false
   rw [beq_eq_false_iff_ne]; omega
 · obtain ⟨k, rfl⟩ : ∃ k, i = 3 + k := ⟨i - 3, by omega⟩
   rw [toksN_at (by omega) (by omega)]
   have hne := own_ne h (show k < j by omega) hj
   show (ow.getD k 0 == ow.getD j 0) = false
   rw [beq_eq_false_iff_ne]; exact hne
theorem nnI_step {ow : List Int} (h : OwnOk ow) {j : Nat} (hj : j < ow.length) {m : Mk} (hm : NnI ow j m) : NnI ow (j + 1) (m.declare (noneD ow) (nSm (ow.getD j 0))) := by
 obtain ⟨a1, a2⟩ := own_at h hj
 have ht : m.tok (nSm (ow.getD j 0)) = -1 := tokN_new h hj hm.tk
 unfold Mk.declare
 rw [if_neg (show ¬ (noneD ow).kind = 5 by show ¬ (1 : Int) = 5; decide)]
 have hput : m.put (nSm (ow.getD j 0)) = (m.push ⟨tN (ow.getD j 0).toNat, false, 0, 0, 0, ⟨#[]⟩⟩ false, (m.toks.length : Int)) := Mk.put_name (by rw [ht]; decide) rfl
 rw [hput]
 simp only
 have hl : (m.toks.length : Int).toNat = 3 + j := by rw [hm.tk, toksN_len (by omega)]; omega
 rw [hl]
 generalize hN : m.push ⟨tN (ow.getD j 0).toNat, false, 0, 0, 0, ⟨#[]⟩⟩ false = N
 have hNt : N.toks = toksN ow j ++ [⟨tN (ow.getD j 0).toNat, false, 0, 0, 0, ⟨#[]⟩⟩] := by rw [← hN]; show m.toks ++ _ = _; rw [hm.tk]
 have hNg : N.given = givN j ++ [false] := by rw [← hN]; show m.given ++ _ = _; rw [hm.gv]
 have hgl : (givN j).length = 3 + j := by simp [givN]; omega
 have ho : N.owner (ow.getD j 0) = -1 := owner_new (tl := []) h hj hNt
 unfold Mk.dTag
 rw [if_pos (show (noneD ow).tag.size = 0 from rfl)]
 unfold Mk.dLevel
 rw [if_pos (show (noneD ow).kind = 1 from rfl)]
 unfold Mk.dNum
 rw [if_pos (show 0 < (nSm (ow.getD j 0)).num by show 0 < ow.getD j 0; omega)]
 have hf : ((3 + j == 1) || (N.given.getD (3 + j) false || decide (0 ≤ N.owner (nSm (ow.getD j 0)).num))) = false := by
  rw [show (nSm (ow.getD j 0)).num = ow.getD j 0 from rfl, ho, hNg, getB_push, hgl, if_pos rfl]
  have : (3 + j == 1) = false := by rw [beq_eq_false_iff_ne]; omega
  rw [this]; rfl
 rw [hf]
 have hfi : N.failIf false (nSm (ow.getD j 0)).pos (nSm (ow.getD j 0)).name = N := rfl
 rw [hfi]
 have htake : ow.take (j + 1) = ow.take j ++ [ow.getD j 0] := by
  rw [List.take_add_one, List.getElem?_eq_getElem hj, List.getD_eq_getElem?_getD, List.getElem?_eq_getElem hj]; rfl
 refine ⟨?_, ?_, by rw [← hN]; exact hm.e, by rw [← hN]; exact hm.lf, by rw [← hN]; exact hm.nn, by rw [← hN]; exact hm.pd⟩
 · show N.toks.set (3 + j) _ = _
   have hg : N.toks.getD (3 + j) noTk = ⟨tN (ow.getD j 0).toNat, false, 0, 0, 0, ⟨#[]⟩⟩ := by rw [hNt, getT_push, toksN_len (by omega), if_pos rfl]
   rw [hg, hNt, List.set_append_right _ _ (by rw [toksN_len (by omega)]; exact Nat.le_refl _), toksN_len (by omega)]
   simp only [Nat.sub_self, List.set_cons_zero]
   unfold toksN
   rw [htake, List.map_append, List.append_assoc]
   rfl
 · show N.given.set (3 + j) true = _
   rw [hNg, List.set_append_right _ _ (by omega), hgl]
   simp only [Nat.sub_self, List.set_cons_zero]
   unfold givN
   rw [List.replicate_succ', List.append_assoc]
theorem nnI_all {ow : List Int} (h : OwnOk ow) {st : ByteArray} : ∀ j, j ≤ ow.length → NnI ow j (symTo (noneD ow) (mk0, st) j).1 ∧ (symTo (noneD ow) (mk0, st) j).2 = st
 | 0, _ => ⟨⟨rfl, rfl, rfl, rfl, rfl, rfl⟩, rfl⟩
 | j + 1, hj => by
   obtain ⟨ih, ih2⟩ := nnI_all h (st := st) j (by omega)
   have hg : (noneD ow).syms.getD j noSm = nSm (ow.getD j 0) := by
    show (ow.map nSm).getD j noSm = _
    rw [List.getD_eq_getElem?_getD, List.getElem?_map, List.getElem?_eq_getElem (by omega), List.getD_eq_getElem?_getD, List.getElem?_eq_getElem (by omega)]; rfl
   show NnI ow (j + 1) (symStep (noneD ow) ((noneD ow).syms.getD j noSm) (symTo (noneD ow) (mk0, st) j)).1 ∧ (symStep (noneD ow) ((noneD ow).syms.getD j noSm) (symTo (noneD ow) (mk0, st) j)).2 = st
   rw [hg]
   unfold symStep
   rw [if_neg (show ¬ (noneD ow).kind = 6 by show ¬ (1 : Int) = 6; decide)]
   exact ⟨nnI_step h (by omega) ih, ih2⟩
theorem none_D {ow : List Int} (h : OwnOk ow) : NnI ow ow.length (ofD (noneS ow)).1 ∧ (ofD (noneS ow)).2 = ⟨#[]⟩ := by
 unfold ofD
 by_cases h0 : ow.length = 0
 · have e : (noneS ow).decls = [] := by unfold noneS; simp only; rw [if_pos h0]
   rw [e]
   have : ow = [] := List.eq_nil_of_length_eq_zero h0
   subst this
   exact ⟨⟨rfl, rfl, rfl, rfl, rfl, rfl⟩, rfl⟩
 · have e : (noneS ow).decls = [noneD ow] := by unfold noneS; simp only; rw [if_neg h0]
   rw [e]
   have hl : (noneD ow).syms.length = ow.length := by show (ow.map nSm).length = _; rw [List.length_map]
   have := nnI_all h (st := ⟨#[]⟩) ow.length (Nat.le_refl _)
   rw [← hl] at this
   rw [hl] at this
   show NnI ow ow.length (symTo (noneD ow) (levUp (noneD ow) mk0, ⟨#[]⟩) (noneD ow).syms.length).1 ∧ (symTo (noneD ow) (levUp (noneD ow) mk0, ⟨#[]⟩) (noneD ow).syms.length).2 = _
   rw [hl]
   have hu : levUp (noneD ow) mk0 = mk0 := by unfold levUp; rw [if_neg (by show ¬ (2 ≤ (1 : Int) ∧ _); omega)]
   rw [hu]
   exact this
structure NnR (ow : List Int) (m : Mk) : Prop where
 tk : m.toks = toksN ow ow.length
 gv : m.given = givN ow.length
 e : m.e = 0
 lf : m.lefts = [sB]
 nn : m.inner = 0
theorem none_R {ow : List Int} (h : OwnOk ow) : NnR ow (ofR (noneS ow)) := by
 obtain ⟨hD, hS⟩ := none_D h
 show NnR ow (ruB ⟨sB, [noAl], 0⟩ (ruA ⟨sB, [noAl], 0⟩ (ofD (noneS ow)).1))
 generalize (ofD (noneS ow)).1 = m at hD
 have ht : m.tok ⟨sB, false, 0, 0⟩ = -1 := tokS_none h (Nat.le_refl _) hD.tk
 have hA : ruA ⟨sB, [noAl], 0⟩ m = m := by
  unfold ruA
  rw [show m.tok ⟨(⟨sB, [noAl], 0⟩ : Rl).left, false, 0, 0⟩ = -1 from ht]
  rfl
 rw [hA]
 have hl : m.left sB = -1 := by unfold Mk.left; rw [hD.lf]; rfl
 unfold ruB
 rw [if_pos (show m.left (⟨sB, [noAl], 0⟩ : Rl).left < 0 by show m.left sB < 0; rw [hl]; decide)]
 exact ⟨hD.tk, hD.gv, hD.e, by show m.lefts ++ _ = _; rw [hD.lf]; rfl, hD.nn⟩
theorem tys_same {d : Dc} (hd : d.kind = 1) (m : Mk) : ∀ k, tysTo d m k = m
 | 0 => rfl
 | k + 1 => by
   show tySt d (d.syms.getD k noSm) (tysTo d m k) = m
   rw [tys_same hd m k]
   unfold tySt
   rw [hd]
   rfl
theorem none_T {ow : List Int} (h : OwnOk ow) : NnR ow (ofT (noneS ow)) := by
 have hR := none_R h
 unfold ofT
 by_cases h0 : ow.length = 0
 · have e : (noneS ow).decls = [] := by unfold noneS; simp only; rw [if_pos h0]
   rw [e]; exact hR
 · have e : (noneS ow).decls = [noneD ow] := by unfold noneS; simp only; rw [if_neg h0]
   rw [e]
   show NnR ow (tysTo (noneD ow) (ofR (noneS ow)) (noneD ow).syms.length)
   rw [tys_same rfl]; exact hR
theorem none_A {ow : List Int} (h : OwnOk ow) : (ofA (noneS ow)).toks = toksN ow ow.length ∧ (ofA (noneS ow)).given = givN ow.length ∧ (ofA (noneS ow)).e = 0 ∧ (ofA (noneS ow)).lefts = [sB] ∧ (ofA (noneS ow)).inner = 0 ∧ (ofA (noneS ow)).prods.length = 2 ∧ ∀ p ∈ (ofA (noneS ow)).prods, p.right.length ≤ 8 := by
 have hT := none_T h
 have e : ofA (noneS ow) = (ofF (noneS ow)).addProd ⟨1 + (ofF (noneS ow)).left sB, [], -1, ⟨#[]⟩, [], 0⟩ := rfl
 rw [e]
 refine ⟨hT.tk, hT.gv, hT.e, hT.lf, hT.nn, rfl, fun p hp => ?_⟩
 have hp2 : p ∈ [(⟨0, [1001 + (ofT (noneS ow)).left (ofS (noneS ow))], -1, ⟨#[]⟩, [], 0⟩ : Pd)] ++ [⟨1 + (ofF (noneS ow)).left sB, [], -1, ⟨#[]⟩, [], 0⟩] := hp
 rcases List.mem_append.1 hp2 with h1 | h1
 · rw [List.mem_singleton] at h1
   subst h1
   show 1 ≤ 8
   decide
 · rw [List.mem_singleton] at h1
   subst h1
   show 0 ≤ 8
   decide
theorem none_may {ow : List Int} (h : OwnOk ow) : maySo (noneS ow) = true := by
 unfold maySo
 have h1 : pctB (noneS ow).pro = false := by show pctB ⟨#[]⟩ = false; decide +kernel
 have h2 : (noneS ow).rules.all mayRl = true := by show [(⟨sB, [noAl], 0⟩ : Rl)].all mayRl = true; decide +kernel
 have h3 : (noneS ow).decls.all mayDc = true := by
  show (if ow.length = 0 then [] else [noneD ow]).all mayDc = true
  split
  · rfl
  · rename_i h0
    simp only [List.all_cons, List.all_nil, Bool.and_true]
    unfold mayDc
    rw [Bool.and_eq_true, List.all_eq_true]
    refine ⟨?_, fun x hx => ?_⟩
    · unfold dcB
      have hl : (noneD ow).syms.length = ow.length := by show (ow.map nSm).length = _; rw [List.length_map]
      rw [decide_eq_true_iff]
      refine ⟨by show 1 ≤ (1 : Int); decide, by show (1 : Int) ≤ 6; decide, by rw [hl]; exact h0, fun e => absurd e (by show ¬ (1 : Int) = 6; decide), fun e => absurd e (by show ¬ (1 : Int) = 5; decide), .inl rfl⟩
    · obtain ⟨k, hk, rfl⟩ := List.mem_map.1 (show x ∈ ow.map nSm from hx)
      obtain ⟨b1, b2⟩ := h.bd k hk
      unfold symB
      rw [if_neg (show ¬ (nSm k).lit = true by show ¬ false = true; decide), decide_eq_true_iff]
      refine ⟨tN_name ⟨k.toNat, by omega⟩ (by show 1 ≤ k.toNat; omega), .inr ⟨rfl, b1, by show k ≤ 50000; omega⟩⟩
 rw [h1, h2, h3]
 rfl
theorem numTo_given {m : Mk} (nx : Int) : ∀ j, (∀ i, 3 ≤ i → i < 3 + j → m.given.getD i false = true) → numTo m nx j = (m, nx)
 | 0, _ => rfl
 | j + 1, h => by
   show numSt (3 + j) (numTo m nx j) = _
   rw [numTo_given nx j (fun i h1 h2 => h i h1 (by omega))]
   unfold numSt
   rw [if_pos (h (3 + j) (by omega) (by omega))]
theorem giv_at {n i : Nat} (h1 : 3 ≤ i) (h2 : i < 3 + n) : (givN n).getD i false = true := by
 unfold givN
 rw [List.getD_eq_getElem?_getD, List.getElem?_append_right (by simpa using h1), List.getElem?_replicate]
 rw [if_pos (by simp; omega)]; rfl
theorem none_long {m : Mk} (h : ∀ p ∈ m.prods, p.right.length ≤ 8) : ∀ n, n ≤ m.prods.length → longTo m false n = false
 | 0, _ => rfl
 | n + 1, hn => by
   show (longTo m false n || decide (8 < ((m.prods.getD n noPd).right.length : Int))) = false
   rw [none_long h n (by omega)]
   have := h (m.prods.getD n noPd) (by rw [List.getD_eq_getElem?_getD, List.getElem?_eq_getElem (by omega)]; exact List.getElem_mem _)
   have h2 : ¬ 8 < ((m.prods.getD n noPd).right.length : Int) := by omega
   rw [decide_eq_false h2]; rfl
theorem none_ok {ow : List Int} (h : OwnOk ow) : okOf (noneS ow) = true ∧ (gmOf (noneS ow)).toks = toksN ow ow.length := by
 obtain ⟨h1, h2, h3, h4, h5, h6, h7⟩ := none_A h
 have hl3 : (ofA (noneS ow)).toks.length = 3 + ow.length := by rw [h1, toksN_len (Nat.le_refl _)]
 have hK : ofK (noneS ow) = ofA (noneS ow) := by
  unfold ofK
  rw [numTo_given]
  intro i g1 g2
  rw [h2]
  exact giv_at g1 (by omega)
 have hn : (ofN (noneS ow)).length = 2 := by
  have : (ofN (noneS ow)).length = 1 + (ofA (noneS ow)).lefts.length + (ofA (noneS ow)).inner.toNat := by
   unfold ofN
   rw [innTo_len, nsTo_len]
   rfl
  rw [this, h4, h5]; rfl
 have hlen := h.ln
 have hl : ofLong (noneS ow) = false := by
  unfold ofLong
  rw [hK, show decide (40 < (ofA (noneS ow)).toks.length) = false by rw [hl3]; simp; omega, show decide (24 < (ofN (noneS ow)).length) = false by rw [hn]; decide, show decide (60 < (ofA (noneS ow)).prods.length) = false by rw [h6]; decide]
  exact none_long h7 _ (Nat.le_refl _)
 have hG : ofAll (noneS ow) = (⟨(ofK (noneS ow)).toks, ofN (noneS ow), (ofK (noneS ow)).prods, (noneS ow).pro, (noneS ow).tail⟩, 0, 0, ⟨#[]⟩) := by
  unfold ofAll
  rw [if_pos (none_may h)]
  unfold ofG
  rw [if_neg (fun hh => hh h3), hl]
  rfl
 unfold okOf gmOf
 rw [hG]
 exact ⟨rfl, by show (ofK (noneS ow)).toks = _; rw [hK, h1]⟩
theorem none_tok {ow : List Int} (h : OwnOk ow) : NumW (gmOf (noneS ow)).toks ∧ (gmOf (noneS ow)).toks.length = 3 + ow.length ∧
  (∀ n : Int, n ≤ 0 → tokN (gmOf (noneS ow)).toks n = 0) ∧ (∀ n : Int, 0 < n → n ∉ ow → tokN (gmOf (noneS ow)).toks n = 2) ∧
  ∀ n : Int, n ∈ ow → ∃ j : Nat, j < ow.length ∧ tokN (gmOf (noneS ow)).toks n = 3 + (j : Int) ∧ ((gmOf (noneS ow)).toks.getD (3 + j) noTk).name = tN n.toNat := by
 obtain ⟨hok, ht⟩ := none_ok h
 have hW := nums_ok hok
 have hat : ∀ j, j < ow.length → nmAt (gmOf (noneS ow)).toks (3 + j) = ow.getD j 0 := fun j hj => by
  unfold nmAt
  rw [ht, toksN_at hj (Nat.le_refl _)]; rfl
 have hlen : (gmOf (noneS ow)).toks.length = 3 + ow.length := by rw [ht, toksN_len (Nat.le_refl _)]
 refine ⟨hW, hlen, fun n hn => by unfold tokN; rw [if_pos hn], fun n hn hno => ?_, fun n hn => ?_⟩
 · unfold tokN
   rw [if_neg (by omega)]
   rcases firstN_lt (ownP (gmOf (noneS ow)).toks n) (gmOf (noneS ow)).toks.length 0 with e | ⟨k, e, g1, g2, g3⟩
   · rw [e, if_pos (by omega)]
   · exfalso
     have hk : nmAt (gmOf (noneS ow)).toks k = n := eq_of_beq g3
     have hk3 := hW.pos (i := k) (by omega)
     obtain ⟨j, rfl⟩ : ∃ j, k = 3 + j := ⟨k - 3, by omega⟩
     have hj : j < ow.length := by omega
     rw [hat j hj] at hk
     refine hno ?_
     rw [← hk, List.getD_eq_getElem?_getD, List.getElem?_eq_getElem hj]
     exact List.getElem_mem _
 · obtain ⟨j, hj, e⟩ := List.getElem_of_mem hn
   have e2 : ow.getD j 0 = n := by rw [List.getD_eq_getElem?_getD, List.getElem?_eq_getElem hj]; exact e
   refine ⟨j, hj, ?_, ?_⟩
   · have := tokN_own hW (i := 3 + j) (by omega) (by omega)
     rw [hat j hj, e2] at this
     rw [this]; omega
   · rw [ht, toksN_at hj (Nat.le_refl _), e2]; rfl
theorem noAl_small : AlSmall noAl := ⟨fun p hp => (by cases hp), by show (⟨#[]⟩ : ByteArray).size ≤ _; decide⟩
theorem none_small {ow : List Int} (h : OwnOk ow) : SoSmall (noneS ow) ∧ SoB (noneS ow) := by
 have hd : ∀ d ∈ (noneS ow).decls, d = noneD ow := fun d hd => by
  have hd2 : d ∈ (if ow.length = 0 then [] else [noneD ow]) := hd
  split at hd2
  · cases hd2
  · exact List.mem_singleton.1 hd2
 have hr : ∀ r ∈ (noneS ow).rules, r = ⟨sB, [noAl], 0⟩ := fun r hr => List.mem_singleton.1 hr
 refine ⟨⟨by show (⟨#[]⟩ : ByteArray).size ≤ _; decide, by show (⟨#[]⟩ : ByteArray).size ≤ _; decide, fun d h2 => ?_, fun r h2 => ?_⟩, ⟨?_, fun d h2 => ?_, by show 1 ≤ 300; decide, fun r h2 => ?_⟩⟩
 · rw [hd d h2]
   refine ⟨by show (⟨#[]⟩ : ByteArray).size ≤ _; decide, fun x hx => ?_⟩
   obtain ⟨k, hk, rfl⟩ := List.mem_map.1 (show x ∈ ow.map nSm from hx)
   obtain ⟨b1, b2⟩ := h.bd k hk
   have := tN_size ⟨k.toNat, by omega⟩
   show (⟨#[116]⟩ ++ digS k.toNat : ByteArray).size ≤ 1000000
   rw [ByteArray.size_append]
   have h3 : (⟨#[116]⟩ : ByteArray).size = 1 := rfl
   have h4 : (digS k.toNat).size ≤ 2 := this
   omega
 · rw [hr r h2]
   refine ⟨by show sB.size ≤ _; decide, fun a ha => ?_⟩
   have : a = noAl := List.mem_singleton.1 ha
   subst this; exact noAl_small
 · show (if ow.length = 0 then [] else [noneD ow]).length ≤ 300
   split
   · decide
   · show 1 ≤ 300; decide
 · rw [hd d h2]
   show (ow.map nSm).length ≤ 300
   rw [List.length_map]; have := h.ln; omega
 · rw [hr r h2]
   refine ⟨by decide, fun a ha => ?_⟩
   have : a = noAl := List.mem_singleton.1 ha
   subst this; decide
end Go.Proofs.Ytkgbifbbpmdpgaa
