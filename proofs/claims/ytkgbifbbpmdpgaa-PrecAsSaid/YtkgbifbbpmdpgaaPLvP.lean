/- The grammar of levels. -/
import Derived.Test.YtkgbifbbpmdpgaaPLv0
import Derived.Test.YtkgbifbbpmdpgaaPSrcJ
set_option linter.unusedVariables false
set_option linter.unusedSimpArgs false
namespace Go.Proofs.Ytkgbifbbpmdpgaa
theorem Mk.put_name {m : Mk} {x : Sm} (h : ¬ 0 ≤ m.tok x) (hl : x.lit = false) : m.put x = (m.push ⟨x.name, false, 0, 0, 0, ⟨#[]⟩⟩ false, (m.toks.length : Int)) := by
  unfold Mk.put; rw [if_neg h, if_neg (by rw [hl]; decide)]
theorem tB_eq : ∀ a b : Fin 9, eqB (tB a.val) (tB b.val) = decide (a.val = b.val) := by decide +kernel
theorem tB_base : ∀ a : Fin 9, ∀ v ∈ baseV, eqB v.1 (tB a.val) = false := by decide +kernel
theorem tB_e : ∀ a : Fin 9, eqB eB (tB a.val) = false ∧ eqB (tB a.val) eB = false := by decide +kernel
def tkL (kinds : List Int) (i : Nat) : Tk := ⟨tB i, false, 0, (i : Int) + 1, 1 + kinds.getD i 0 % 3, ⟨#[]⟩⟩
def toksL (kinds : List Int) (i : Nat) : List Tk := [tkEnd, tkErr, tkUnk] ++ (List.range i).map (tkL kinds)
structure LvI (kinds : List Int) (i : Nat) (m : Mk) : Prop where
 tk : m.toks = toksL kinds i
 e : m.e = 0
 lf : m.lefts = []
 lv : m.level = i
 nn : m.inner = 0
theorem toksL_len (kinds : List Int) (i : Nat) : (toksL kinds i).length = 3 + i := by simp [toksL]; omega
theorem toksL_at (kinds : List Int) {i j : Nat} (h : j < i) : (toksL kinds i).getD (3 + j) noTk = tkL kinds j := by
 unfold toksL
 rw [List.getD_eq_getElem?_getD, List.getElem?_append_right (by simp)]
 have : 3 + j - [tkEnd, tkErr, tkUnk].length = j := by simp
 rw [this, List.getElem?_map, List.getElem?_range h]
 rfl
theorem toksL_low (kinds : List Int) {i j : Nat} (h : j < 3) : tokV ((toksL kinds i).getD j noTk) ∈ baseV := by
 unfold toksL
 rw [List.getD_eq_getElem?_getD, List.getElem?_append_left (by simpa using h)]
 match j, h with
 | 0, _ => exact List.mem_cons_self
 | 1, _ => exact List.mem_cons_of_mem _ List.mem_cons_self
 | 2, _ => exact List.mem_cons_of_mem _ (List.mem_cons_of_mem _ List.mem_cons_self)
theorem tok_new {kinds : List Int} {i n : Nat} {m : Mk} (hm : m.toks = toksL kinds n) (hi : i < 9) (hn : n ≤ 9) (h : n ≤ i) : m.tok (nameG (tB i)) = -1 := by
 refine firstN_none (fun j h1 h2 => ?_)
 unfold tokP
 rw [hm] at h2 ⊢
 rw [toksL_len] at h2
 by_cases hj : j < 3
 · have := tB_base ⟨i, hi⟩ _ (toksL_low kinds (i := n) hj)
   show (eqB ((toksL kinds n).getD j noTk).name (tB i) && _) = false
   rw [show eqB ((toksL kinds n).getD j noTk).name (tB i) = false from this]
   rfl
 · obtain ⟨k, rfl⟩ : ∃ k, j = 3 + k := ⟨j - 3, by omega⟩
   rw [toksL_at kinds (by omega)]
   show (eqB (tB k) (tB i) && _) = false
   rw [tB_eq ⟨k, by omega⟩ ⟨i, hi⟩]
   have : ¬ k = i := by omega
   simp [this]
theorem tok_old {kinds : List Int} {i n : Nat} {m : Mk} {tl : List Tk} (hm : m.toks = toksL kinds n ++ tl) (hn : n ≤ 9) (h : i < n) : m.tok (nameG (tB i)) = 3 + i := by
 have hlen := toksL_len kinds n
 have hget : ∀ j, j < 3 + n → m.toks.getD j noTk = (toksL kinds n).getD j noTk := fun j hj => by
  rw [hm, List.getD_eq_getElem?_getD, List.getElem?_append_left (by omega), ← List.getD_eq_getElem?_getD]
 have hit : tokP m.toks (nameG (tB i)) (3 + i) = true := by
  unfold tokP
  rw [hget _ (by omega), toksL_at kinds h]
  show (eqB (tB i) (tB i) && (false == false && !(3 + i == 2))) = true
  rw [tB_eq ⟨i, by omega⟩ ⟨i, by omega⟩]
  have : (3 + i == 2) = false := by rw [beq_eq_false_iff_ne]; omega
  simp [this]
 have hml : 3 + i < m.toks.length := by rw [hm, List.length_append]; omega
 have key : ∀ k, 1 ≤ k → k ≤ 3 + i → firstN (tokP m.toks (nameG (tB i))) m.toks.length k = 3 + i := by
  intro k hk1 hk2
  obtain ⟨d, hd⟩ : ∃ d, d = 3 + i - k := ⟨_, rfl⟩
  induction d generalizing k with
  | zero =>
    obtain rfl : k = 3 + i := by omega
    rw [firstN_hit _ hml hit]; omega
  | succ d ih =>
    have hmiss : tokP m.toks (nameG (tB i)) k = false := by
     unfold tokP
     rw [hget _ (by omega)]
     by_cases hj : k < 3
     · have := tB_base ⟨i, by omega⟩ _ (toksL_low kinds (i := n) hj)
       rw [show eqB ((toksL kinds n).getD k noTk).name (nameG (tB i)).name = false from this]
       rfl
     · obtain ⟨q, rfl⟩ : ∃ q, k = 3 + q := ⟨k - 3, by omega⟩
       rw [toksL_at kinds (by omega)]
       show (eqB (tB q) (tB i) && _) = false
       rw [tB_eq ⟨q, by omega⟩ ⟨i, by omega⟩]
       have : ¬ q = i := by omega
       simp [this]
    rw [firstN_miss _ (by omega) hmiss]
    exact ih (k + 1) (by omega) (by omega) (by omega)
 exact key 1 (Nat.le_refl _) (by omega)
theorem lvI0 (kinds : List Int) : LvI kinds 0 mk0 := ⟨rfl, rfl, rfl, rfl, rfl⟩
theorem lvI_step {kinds : List Int} {i : Nat} {m : Mk} (h : LvI kinds i m) (hi : i < 9) : LvI kinds (i + 1) ((levUp (lvD kinds i) m).declare (lvD kinds i) (nameG (tB i))) := by
 have hk0 := Int.emod_nonneg (kinds.getD i 0) (show (3 : Int) ≠ 0 by decide)
 have hk3 := Int.emod_lt_of_pos (kinds.getD i 0) (show (0 : Int) < 3 by decide)
 have hkind : (lvD kinds i).kind = 2 + kinds.getD i 0 % 3 := rfl
 have hup : levUp (lvD kinds i) m = { m with level := m.level + 1 } := by
  unfold levUp
  rw [if_pos (by rw [hkind]; omega)]
 rw [hup]
 generalize hM : ({ m with level := m.level + 1 } : Mk) = M
 have hMt : M.toks = toksL kinds i := by rw [← hM]; exact h.tk
 have ht : M.tok (nameG (tB i)) = -1 := tok_new hMt hi (by omega) (Nat.le_refl _)
 unfold Mk.declare
 rw [if_neg (by rw [hkind]; omega)]
 have hput : M.put (nameG (tB i)) = (M.push ⟨tB i, false, 0, 0, 0, ⟨#[]⟩⟩ false, (M.toks.length : Int)) := Mk.put_name (by rw [ht]; decide) rfl
 rw [hput]
 simp only
 generalize hN : M.push ⟨tB i, false, 0, 0, 0, ⟨#[]⟩⟩ false = N
 have hNt : N.toks = toksL kinds i ++ [⟨tB i, false, 0, 0, 0, ⟨#[]⟩⟩] := by rw [← hN]; show M.toks ++ _ = _; rw [hMt]
 have hl : (M.toks.length : Int).toNat = (toksL kinds i).length := by rw [hMt]; simp
 rw [hl]
 have hg : N.toks.getD (toksL kinds i).length noTk = ⟨tB i, false, 0, 0, 0, ⟨#[]⟩⟩ := by
  rw [hNt, List.getD_eq_getElem?_getD, List.getElem?_append_right (Nat.le_refl _)]; simp
 unfold Mk.dTag
 rw [if_pos (show (lvD kinds i).tag.size = 0 from rfl)]
 unfold Mk.dNum
 rw [if_neg (show ¬ 0 < (nameG (tB i)).num from by show ¬ (0 : Int) < 0; decide)]
 unfold Mk.dLevel
 rw [if_neg (by rw [hkind]; omega)]
 rw [hg]
 have hf : N.failIf (decide (0 < (0 : Int))) (nameG (tB i)).pos (nameG (tB i)).name = N := rfl
 rw [hf]
 refine ⟨?_, by rw [← hN, ← hM] at *; exact h.e, by rw [← hN, ← hM] at *; exact h.lf, ?_, by rw [← hN, ← hM] at *; exact h.nn⟩
 · show N.toks.set (toksL kinds i).length _ = _
   rw [hg, hNt, List.set_append_right _ _ (Nat.le_refl _)]
   have e2 : toksL kinds (i + 1) = toksL kinds i ++ [tkL kinds i] := by
    unfold toksL
    rw [List.range_succ, List.map_append, List.append_assoc]
    rfl
   rw [e2]
   have hlv : N.level = (i : Int) + 1 := by rw [← hN, ← hM]; show m.level + 1 = _; rw [h.lv]
   simp only [Nat.sub_self, List.set_cons_zero]
   congr 2
   show (⟨tB i, false, 0, N.level, (lvD kinds i).kind - 1, ⟨#[]⟩⟩ : Tk) = _
   rw [hlv, hkind]
   unfold tkL
   congr 1
   omega
 · show N.level = _
   rw [← hN, ← hM]
   show m.level + 1 = _
   rw [h.lv]; omega
theorem lvI_all {kinds : List Int} {ds : List Dc} {st : ByteArray} {n : Nat} (hn : n ≤ 9) (hds : ds = (List.range n).map (lvD kinds)) : ∀ i, i ≤ n → LvI kinds i (dclTo ds (mk0, st) i).1
 | 0, _ => lvI0 kinds
 | i + 1, hi => by
   have ih := lvI_all (kinds := kinds) (st := st) hn hds i (by omega)
   have hg : ds.getD i noDc = lvD kinds i := by rw [hds, List.getD_eq_getElem?_getD, List.getElem?_map, List.getElem?_range (by omega)]; rfl
   show LvI kinds (i + 1) (symTo (ds.getD i noDc) (levUp (ds.getD i noDc) (dclTo ds (mk0, st) i).1, (dclTo ds (mk0, st) i).2) (ds.getD i noDc).syms.length).1
   rw [hg]
   have hk0 := Int.emod_nonneg (kinds.getD i 0) (show (3 : Int) ≠ 0 by decide)
   have hk3 := Int.emod_lt_of_pos (kinds.getD i 0) (show (0 : Int) < 3 by decide)
   show LvI kinds (i + 1) (symStep (lvD kinds i) (nameG (tB i)) (levUp (lvD kinds i) (dclTo ds (mk0, st) i).1, (dclTo ds (mk0, st) i).2)).1
   unfold symStep
   rw [if_neg (by show ¬ 2 + kinds.getD i 0 % 3 = 6; omega)]
   exact lvI_step ih (by omega)
end Go.Proofs.Ytkgbifbbpmdpgaa
namespace Go.Proofs.Ytkgbifbbpmdpgaa
def tkX : Tk := ⟨xB, true, 120, 0, 0, ⟨#[]⟩⟩
structure LvS (kinds : List Int) (n : Nat) (m : Mk) (tl : List Tk) (ps : List Pd) : Prop where
 tk : m.toks = toksL kinds n ++ tl
 e : m.e = 0
 lf : m.lefts = [eB]
 nn : m.inner = 0
 pd : m.prods = ps
section
variable {kinds : List Int} {n : Nat} {m : Mk} {tl : List Tk} {ps : List Pd}
theorem LvS.lefts (h : LvS kinds n m tl ps) : m.left eB = 0 ∧ ∀ i, i < 9 → m.left (tB i) = -1 := by
 constructor
 · unfold Mk.left
   rw [h.lf]
   decide +kernel
 · intro i hi
   refine firstN_none (fun j _ h2 => ?_)
   rw [h.lf] at h2 ⊢
   obtain rfl : j = 0 := by simpa using h2
   exact (tB_e ⟨i, hi⟩).1
theorem LvS.e_sym (h : LvS kinds n m tl ps) : m.symbol (nameG eB) = (m, 1001) := by
 unfold Mk.symbol
 rw [if_neg (show ¬ ((nameG eB).lit = true) from by show ¬ (false = true); decide), if_pos (show 0 ≤ m.left (nameG eB).name from by show 0 ≤ m.left eB; rw [h.lefts.1]; decide)]
 show (m, 1001 + m.left eB) = _
 rw [h.lefts.1]; rfl
theorem LvS.t_sym (h : LvS kinds n m tl ps) (hn : n ≤ 9) {i : Nat} (hi : i < n) : m.symbol (nameG (tB i)) = (m, 3 + (i : Int)) := by
 have ht := tok_old h.tk hn hi
 unfold Mk.symbol
 rw [if_neg (show ¬ ((nameG (tB i)).lit = true) from by show ¬ (false = true); decide), if_neg (show ¬ 0 ≤ m.left (nameG (tB i)).name from by show ¬ 0 ≤ m.left (tB i); rw [h.lefts.2 i (by omega)]; decide), if_neg (by rw [ht]; omega), ht]
theorem au_sym {m : Mk} {x : Sm} {v : Int} (h : m.symbol x = (m, v)) (k i : Nat) (r : List Int) (c : ByteArray) (p : Int) : auStep k i (ptS x) ⟨m, r, c, p⟩ = ⟨m, r ++ [v], c, p⟩ := by
 unfold auStep
 rw [if_pos (show (ptS x).code.size = 0 from rfl)]
 show (⟨(m.symbol x).1, r ++ [(m.symbol x).2], c, p⟩ : Au) = _
 rw [h]
def pdA (i : Nat) : Pd := ⟨1, [1001, 3 + (i : Int), 1001], 3 + (i : Int), ⟨#[]⟩, [1001, 3 + (i : Int), 1001], 0⟩
def pdX (n : Nat) : Pd := ⟨1, [3 + (n : Int)], 3 + (n : Int), ⟨#[]⟩, [3 + (n : Int)], 0⟩
def pdL (o s : Nat) : Pd := ⟨1, [3 + (o : Int), 1001], 3 + (s : Int), ⟨#[]⟩, [3 + (o : Int), 1001], 0⟩
theorem LvS.altA (h : LvS kinds n m tl ps) (hn : n ≤ 9) {i : Nat} (hi : i < n) : LvS kinds n (m.alt eB (lvA i)) tl (ps ++ [pdA i]) := by
 have he := h.e_sym
 have ht := h.t_sym hn hi
 have hau : auTo m (lvA i) 3 = ⟨m, [1001, 3 + (i : Int), 1001], ⟨#[]⟩, 0⟩ := by
  show auStep 3 2 (ptS (nameG eB)) (auStep 3 1 (ptS (nameG (tB i))) (auStep 3 0 (ptS (nameG eB)) ⟨m, [], ⟨#[]⟩, 0⟩)) = _
  rw [au_sym he, au_sym ht, au_sym he]; rfl
 have hE : m.alt eB (lvA i) = ((auTo m (lvA i) 3).m.altPrec (lvA i).prec (auTo m (lvA i) 3).right).1.addProd ⟨1 + m.left eB, (auTo m (lvA i) 3).right, ((auTo m (lvA i) 3).m.altPrec (lvA i).prec (auTo m (lvA i) 3).right).2, (auTo m (lvA i) 3).code, (auTo m (lvA i) 3).right, (auTo m (lvA i) 3).pos⟩ := rfl
 rw [hE, hau]
 have hq : m.altPrec (lvA i).prec [1001, 3 + (i : Int), 1001] = (m, 3 + (i : Int)) := by
  unfold Mk.altPrec
  rw [if_pos (show (lvA i).prec.name.size = 0 from rfl)]
  have : precTo [1001, 3 + (i : Int), 1001] 3 = 3 + (i : Int) := by
   show (if (1001 : Int) < 1000 then 1001 else (if 3 + (i : Int) < 1000 then 3 + (i : Int) else _)) = _
   rw [if_neg (by decide), if_pos (by omega)]
  show (m, precTo [1001, 3 + (i : Int), 1001] 3) = _
  rw [this]
 simp only [hq]
 refine ⟨h.tk, h.e, h.lf, h.nn, ?_⟩
 show m.prods ++ [_] = _
 rw [h.pd, h.lefts.1]
 rfl
theorem LvS.altX (h : LvS kinds n m [] ps) (hn : n ≤ 9) : LvS kinds n (m.alt eB lvX) [tkX] (ps ++ [pdX n]) := by
 have hlit : ∀ j, j < m.toks.length → (m.toks.getD j noTk).lit = false ∧ (m.toks.getD j noTk).num ≤ 0 := fun j hj => by
  have htk : m.toks = toksL kinds n := by rw [h.tk, List.append_nil]
  rw [htk] at hj ⊢
  rw [toksL_len] at hj
  by_cases h3 : j < 3
  · have h4 := toksL_low kinds (i := n) h3
    have k1 : ∀ v ∈ baseV, v.2.1 = false ∧ v.2.2 ≤ 0 := by decide
    exact k1 _ h4
  · obtain ⟨q, rfl⟩ : ∃ q, j = 3 + q := ⟨j - 3, by omega⟩
    rw [toksL_at kinds (by omega)]
    exact ⟨rfl, Int.le_refl _⟩
 have ht : m.tok ⟨xB, true, 0, 0⟩ = -1 := firstN_none (fun j _ h2 => by
  unfold tokP
  rw [(hlit j h2).1]
  show (_ && ((false == true) && _)) = false
  simp)
 have ho : m.owner (byte0 xB) = -1 := firstN_none (fun j _ h2 => by
  have h3 := (hlit j h2).2
  have h4 : byte0 xB = 120 := by decide
  unfold ownP
  rw [beq_eq_false_iff_ne, h4]
  omega)
 have hlen : (m.toks.length : Int) = 3 + (n : Int) := by rw [h.tk, List.append_nil, toksL_len]; omega
 have hput : m.put ⟨xB, true, 0, 0⟩ = (m.push tkX true, 3 + (n : Int)) := by
  rw [Mk.put_lit (by rw [ht]; decide) rfl]
  show ((m.failIf (decide (0 ≤ m.owner (byte0 xB))) 0 xB).push _ true, (m.toks.length : Int)) = _
  rw [ho, hlen]
  rfl
 have hsym : m.symbol ⟨xB, true, 0, 0⟩ = (m.push tkX true, 3 + (n : Int)) := by
  unfold Mk.symbol
  rw [if_pos rfl, hput]
 have hau : auTo m lvX 1 = ⟨m.push tkX true, [3 + (n : Int)], ⟨#[]⟩, 0⟩ := by
  show auStep 1 0 (ptS ⟨xB, true, 0, 0⟩) ⟨m, [], ⟨#[]⟩, 0⟩ = _
  unfold auStep
  rw [if_pos (show (ptS ⟨xB, true, 0, 0⟩).code.size = 0 from rfl)]
  show (⟨(m.symbol ⟨xB, true, 0, 0⟩).1, [] ++ [(m.symbol ⟨xB, true, 0, 0⟩).2], ⟨#[]⟩, 0⟩ : Au) = _
  rw [hsym]; rfl
 have hE : m.alt eB lvX = ((auTo m lvX 1).m.altPrec lvX.prec (auTo m lvX 1).right).1.addProd ⟨1 + m.left eB, (auTo m lvX 1).right, ((auTo m lvX 1).m.altPrec lvX.prec (auTo m lvX 1).right).2, (auTo m lvX 1).code, (auTo m lvX 1).right, (auTo m lvX 1).pos⟩ := rfl
 rw [hE, hau]
 have hq : (m.push tkX true).altPrec lvX.prec [3 + (n : Int)] = (m.push tkX true, 3 + (n : Int)) := by
  unfold Mk.altPrec
  rw [if_pos (show lvX.prec.name.size = 0 from rfl)]
  have : precTo [3 + (n : Int)] 1 = 3 + (n : Int) := by
   show (if 3 + (n : Int) < 1000 then 3 + (n : Int) else _) = _
   rw [if_pos (by omega)]
  show (_, precTo [3 + (n : Int)] 1) = _
  rw [this]
 simp only [hq]
 refine ⟨?_, h.e, h.lf, h.nn, ?_⟩
 · show m.toks ++ [tkX] = _
   rw [h.tk, List.append_nil]
 · show m.prods ++ [_] = _
   rw [h.pd, h.lefts.1]
   rfl
theorem LvS.altL (h : LvS kinds n m tl ps) (hn : n ≤ 9) {o s : Nat} (ho : o < n) (hs : s < n) : LvS kinds n (m.alt eB (lvL o s)) tl (ps ++ [pdL o s]) := by
 have he := h.e_sym
 have ht := h.t_sym hn ho
 have ht2 := h.t_sym hn hs
 have hau : auTo m (lvL o s) 2 = ⟨m, [3 + (o : Int), 1001], ⟨#[]⟩, 0⟩ := by
  show auStep 2 1 (ptS (nameG eB)) (auStep 2 0 (ptS (nameG (tB o))) ⟨m, [], ⟨#[]⟩, 0⟩) = _
  rw [au_sym ht, au_sym he]; rfl
 have hE : m.alt eB (lvL o s) = ((auTo m (lvL o s) 2).m.altPrec (lvL o s).prec (auTo m (lvL o s) 2).right).1.addProd ⟨1 + m.left eB, (auTo m (lvL o s) 2).right, ((auTo m (lvL o s) 2).m.altPrec (lvL o s).prec (auTo m (lvL o s) 2).right).2, (auTo m (lvL o s) 2).code, (auTo m (lvL o s) 2).right, (auTo m (lvL o s) 2).pos⟩ := rfl
 rw [hE, hau]
 have hsz : (tB s).size ≠ 0 := by unfold tB; rw [ByteArray.size_append]; have : (⟨#[116]⟩ : ByteArray).size = 1 := rfl; omega
 have hq : m.altPrec (lvL o s).prec [3 + (o : Int), 1001] = (m, 3 + (s : Int)) := by
  unfold Mk.altPrec
  rw [if_neg (show ¬ (lvL o s).prec.name.size = 0 from hsz), if_neg (show ¬ ((lvL o s).prec.lit = true) from by show ¬ (false = true); decide), if_pos (show m.left (lvL o s).prec.name < 0 from by show m.left (tB s) < 0; rw [h.lefts.2 s (by omega)]; decide)]
  exact ht2
 simp only [hq]
 refine ⟨h.tk, h.e, h.lf, h.nn, ?_⟩
 show m.prods ++ [_] = _
 rw [h.pd, h.lefts.1]
 rfl
end
end Go.Proofs.Ytkgbifbbpmdpgaa
namespace Go.Proofs.Ytkgbifbbpmdpgaa
theorem e_base : ∀ v ∈ baseV, eqB v.1 eB = false := by decide +kernel
theorem e_name : isNameB eB = true := by decide +kernel
theorem tB_name : ∀ a : Fin 9, isNameB (tB a.val) = true := by decide +kernel
theorem tok_e {kinds : List Int} {n : Nat} {m : Mk} (hm : m.toks = toksL kinds n) (hn : n ≤ 9) : m.tok ⟨eB, false, 0, 0⟩ = -1 := by
 refine firstN_none (fun j h1 h2 => ?_)
 unfold tokP
 rw [hm] at h2 ⊢
 rw [toksL_len] at h2
 by_cases hj : j < 3
 · have := e_base _ (toksL_low kinds (i := n) hj)
   show (eqB ((toksL kinds n).getD j noTk).name eB && _) = false
   rw [show eqB ((toksL kinds n).getD j noTk).name eB = false from this]
   rfl
 · obtain ⟨k, rfl⟩ : ∃ k, j = 3 + k := ⟨j - 3, by omega⟩
   rw [toksL_at kinds (by omega)]
   show (eqB (tB k) eB && _) = false
   rw [(tB_e ⟨k, by omega⟩).2]
   rfl
def LvH (kinds : List Int) (o s : Nat) : Prop := 0 < min kinds.length 9 → o < min kinds.length 9 ∧ s < min kinds.length 9
def lvR (kinds : List Int) (o s : Nat) : Rl := ⟨eB, (List.range (min kinds.length 9)).map lvA ++ [lvX] ++ (if 0 < min kinds.length 9 then [lvL o s] else []), 0⟩
section
variable {kinds : List Int} {o s : Nat}
theorem levS_D : LvI kinds (min kinds.length 9) (ofD (levS kinds o s)).1 := by
 have hl : (levS kinds o s).decls.length = min kinds.length 9 := by
  show ((List.range _).map _).length = _
  simp
 unfold ofD
 rw [hl]
 exact lvI_all (by omega) rfl _ (Nat.le_refl _)
theorem levS_R : LvS kinds (min kinds.length 9) (ofR (levS kinds o s)) [] (ofR (levS kinds o s)).prods := by
 have h := levS_D (kinds := kinds) (o := o) (s := s)
 have hE : ofR (levS kinds o s) = ruB (lvR kinds o s) (ruA (lvR kinds o s) (ofD (levS kinds o s)).1) := rfl
 rw [hE]
 generalize (ofD (levS kinds o s)).1 = m at h ⊢
 have hA : ruA (lvR kinds o s) m = m := by
  unfold ruA
  rw [show m.tok ⟨(lvR kinds o s).left, false, 0, 0⟩ = -1 from tok_e h.tk (by omega)]
  rfl
 rw [hA]
 have hl : m.left eB = -1 := firstN_none (fun j _ h2 => by rw [h.lf] at h2; exact absurd h2 (Nat.not_lt_zero _))
 unfold ruB
 rw [if_pos (show m.left (lvR kinds o s).left < 0 from by show m.left eB < 0; rw [hl]; decide)]
 refine ⟨?_, h.e, ?_, h.nn, rfl⟩
 · show m.toks = _
   rw [h.tk, List.append_nil]
 · show m.lefts ++ [eB] = _
   rw [h.lf]; rfl
theorem levS_kinds : ∀ d ∈ (levS kinds o s).decls, 2 ≤ d.kind ∧ d.kind < 5 ∧ ∃ i, i < 9 ∧ d = lvD kinds i := fun d hd => by
 have h2 : d ∈ (List.range (min kinds.length 9)).map (lvD kinds) := hd
 obtain ⟨i, hi, rfl⟩ := List.mem_map.1 h2
 have hi := List.mem_range.1 hi
 have hk0 := Int.emod_nonneg (kinds.getD i 0) (show (3 : Int) ≠ 0 by decide)
 have hk3 := Int.emod_lt_of_pos (kinds.getD i 0) (show (0 : Int) < 3 by decide)
 refine ⟨?_, ?_, i, by omega, rfl⟩
 · show 2 ≤ 2 + kinds.getD i 0 % 3; omega
 · show 2 + kinds.getD i 0 % 3 < 5; omega
def pdZ (so : So) : Pd := ⟨0, [1001 + (ofT so).left (ofS so)], -1, ⟨#[]⟩, [], 0⟩
theorem levS_F : LvS kinds (min kinds.length 9) (ofF (levS kinds o s)) [] [pdZ (levS kinds o s)] := by
 have h := levS_R (kinds := kinds) (o := o) (s := s)
 have hT : ofT (levS kinds o s) = ofR (levS kinds o s) := tyd_same (fun d hd => (levS_kinds d hd).2.1) _
 have hE : ofF (levS kinds o s) = { ofT (levS kinds o s) with prods := [pdZ (levS kinds o s)] } := rfl
 rw [hE, hT]
 exact ⟨h.tk, h.e, h.lf, h.nn, rfl⟩
def lvPs (z : Pd) (n o s : Nat) : List Pd := z :: ((List.range n).map pdA ++ [pdX n] ++ (if 0 < n then [pdL o s] else []))
theorem lvR_len : (lvR kinds o s).alts.length = min kinds.length 9 + 1 + (if 0 < min kinds.length 9 then 1 else 0) := by
 unfold lvR
 simp only [List.length_append, List.length_map, List.length_range, List.length_singleton]
 split <;> rfl
theorem lvR_at {i : Nat} (h : i < min kinds.length 9) : (lvR kinds o s).alts.getD i noAl = lvA i := by
 unfold lvR
 simp only
 rw [List.getD_eq_getElem?_getD, List.append_assoc, List.getElem?_append_left (by simp; omega), List.getElem?_map, List.getElem?_range h]
 rfl
theorem lvR_x : (lvR kinds o s).alts.getD (min kinds.length 9) noAl = lvX := by
 unfold lvR
 simp only
 rw [List.getD_eq_getElem?_getD, List.append_assoc, List.getElem?_append_right (by simp)]
 simp
theorem lvR_l (h : 0 < min kinds.length 9) : (lvR kinds o s).alts.getD (min kinds.length 9 + 1) noAl = lvL o s := by
 unfold lvR
 simp only
 rw [if_pos h, List.getD_eq_getElem?_getD, List.append_assoc, List.getElem?_append_right (by simp)]
 simp
theorem lvR_some {m : Mk} {z : Pd} (h : LvS kinds (min kinds.length 9) m [] [z]) : ∀ i, i ≤ min kinds.length 9 → LvS kinds (min kinds.length 9) (altsTo (lvR kinds o s) m i) [] (z :: (List.range i).map pdA)
 | 0, _ => h
 | i + 1, hi => by
   have ih := lvR_some h i (by omega)
   show LvS kinds _ ((altsTo (lvR kinds o s) m i).alt eB ((lvR kinds o s).alts.getD i noAl)) [] _
   rw [lvR_at (by omega)]
   have h2 := ih.altA (by omega) (i := i) (by omega)
   rw [List.range_succ, List.map_append]
   exact h2
theorem levS_A (hH : LvH kinds o s) : LvS kinds (min kinds.length 9) (ofA (levS kinds o s)) [tkX] (lvPs (pdZ (levS kinds o s)) (min kinds.length 9) o s) := by
 have h := levS_F (kinds := kinds) (o := o) (s := s)
 have hE : ofA (levS kinds o s) = altsTo (lvR kinds o s) (ofF (levS kinds o s)) (lvR kinds o s).alts.length := rfl
 rw [hE, lvR_len]
 generalize pdZ (levS kinds o s) = z at h ⊢
 generalize ofF (levS kinds o s) = m at h ⊢
 have h1 := lvR_some (o := o) (s := s) h _ (Nat.le_refl _)
 have h2 : LvS kinds (min kinds.length 9) (altsTo (lvR kinds o s) m (min kinds.length 9 + 1)) [tkX] (z :: ((List.range (min kinds.length 9)).map pdA ++ [pdX (min kinds.length 9)])) := by
  show LvS kinds _ ((altsTo (lvR kinds o s) m (min kinds.length 9)).alt eB ((lvR kinds o s).alts.getD (min kinds.length 9) noAl)) _ _
  rw [lvR_x]
  exact h1.altX (by omega)
 unfold lvPs
 by_cases hn : 0 < min kinds.length 9
 · rw [if_pos hn, if_pos hn]
   show LvS kinds _ ((altsTo (lvR kinds o s) m (min kinds.length 9 + 1)).alt eB ((lvR kinds o s).alts.getD (min kinds.length 9 + 1) noAl)) _ _
   rw [lvR_l hn]
   have h3 := h2.altL (by omega) (hH hn).1 (hH hn).2
   exact h3
 · rw [if_neg hn, if_neg hn, List.append_nil]
   exact h2
end
end Go.Proofs.Ytkgbifbbpmdpgaa
namespace Go.Proofs.Ytkgbifbbpmdpgaa
theorem sym_e (b c : Bool) : symB b c (nameG eB) = true := by
 unfold symB
 rw [if_neg (show ¬ ((nameG eB).lit = true) from by show ¬ (false = true); decide), decide_eq_true_iff]
 exact ⟨e_name, .inl rfl⟩
theorem sym_t (b c : Bool) {i : Nat} (h : i < 9) : symB b c (nameG (tB i)) = true := by
 unfold symB
 rw [if_neg (show ¬ ((nameG (tB i)).lit = true) from by show ¬ (false = true); decide), decide_eq_true_iff]
 exact ⟨tB_name ⟨i, h⟩, .inl rfl⟩
theorem pt_may {x : Sm} (h : symB false true x = true) : mayPt (ptS x) = true := by
 unfold mayPt
 rw [if_pos (show (ptS x).code.size = 0 from rfl)]
 exact h
theorem lvA_may {i : Nat} (h : i < 9) : mayAl (lvA i) = true := by
 unfold mayAl
 rw [Bool.and_eq_true, List.all_eq_true]
 refine ⟨fun p hp => ?_, (by decide +kernel : (noneB noSm || symB false true noSm) = true)⟩
 rcases List.mem_cons.1 hp with rfl | hp
 · exact pt_may (sym_e _ _)
 · rcases List.mem_cons.1 hp with rfl | hp
   · exact pt_may (sym_t _ _ h)
   · rcases List.mem_cons.1 hp with rfl | hp
     · exact pt_may (sym_e _ _)
     · cases hp
theorem lvX_may : mayAl lvX = true := by decide +kernel
theorem lvL_may {o s : Nat} (ho : o < 9) (hs : s < 9) : mayAl (lvL o s) = true := by
 unfold mayAl
 rw [Bool.and_eq_true, List.all_eq_true]
 refine ⟨fun p hp => ?_, ?_⟩
 · rcases List.mem_cons.1 hp with rfl | hp
   · exact pt_may (sym_t _ _ ho)
   · rcases List.mem_cons.1 hp with rfl | hp
     · exact pt_may (sym_e _ _)
     · cases hp
 · rw [Bool.or_eq_true]
   exact .inr (sym_t _ _ hs)
section
variable {kinds : List Int} {o s : Nat}
theorem levS_may (hH : LvH kinds o s) : maySo (levS kinds o s) = true := by
 unfold maySo
 rw [Bool.and_eq_true, Bool.and_eq_true, Bool.and_eq_true, List.all_eq_true, List.all_eq_true]
 refine ⟨(by decide +kernel : (!pctB ⟨#[]⟩) = true), fun d hd => ?_, fun r hr => ?_, (by rw [decide_eq_true_iff]; exact Nat.one_ne_zero)⟩
 · obtain ⟨h1, h2, i, hi, rfl⟩ := levS_kinds d hd
   unfold mayDc dcB
   rw [Bool.and_eq_true, decide_eq_true_iff, List.all_eq_true]
   refine ⟨⟨by omega, by omega, Nat.one_ne_zero, fun e => by omega, fun e => by omega, .inl rfl⟩, fun x hx => ?_⟩
   rcases List.mem_cons.1 (show x ∈ [nameG (tB i)] from hx) with rfl | hx
   · exact sym_t _ _ hi
   · cases hx
 · rcases List.mem_cons.1 (show r ∈ [lvR kinds o s] from hr) with rfl | hr
   · unfold mayRl
     rw [Bool.and_eq_true, Bool.and_eq_true, List.all_eq_true, decide_eq_true_iff]
     refine ⟨e_name, by rw [lvR_len]; omega, fun a ha => ?_⟩
     rcases List.mem_append.1 (show a ∈ (List.range (min kinds.length 9)).map lvA ++ [lvX] ++ (if 0 < min kinds.length 9 then [lvL o s] else []) from ha) with ha | ha
     · rcases List.mem_append.1 ha with ha | ha
       · obtain ⟨i, hi, rfl⟩ := List.mem_map.1 ha
         have hi := List.mem_range.1 hi
         exact lvA_may (by omega)
       · rcases List.mem_cons.1 ha with rfl | ha
         · exact lvX_may
         · cases ha
     · split at ha
       · rename_i hn
         have := hH hn
         rcases List.mem_cons.1 ha with rfl | ha
         · exact lvL_may (by omega) (by omega)
         · cases ha
       · cases ha
   · cases hr
theorem lvPs_len (z : Pd) (n : Nat) : (lvPs z n o s).length = n + 2 + (if 0 < n then 1 else 0) := by
 unfold lvPs
 simp only [List.length_cons, List.length_append, List.length_map, List.length_range, List.length_nil]
 split <;> simp <;> omega
theorem lvPs_short {z : Pd} {n : Nat} (hz : z.right.length ≤ 8) : ∀ p ∈ lvPs z n o s, p.right.length ≤ 8 := by
 intro p hp
 unfold lvPs at hp
 rcases List.mem_cons.1 hp with rfl | hp
 · exact hz
 · rcases List.mem_append.1 hp with hp | hp
   · rcases List.mem_append.1 hp with hp | hp
     · obtain ⟨i, hi, rfl⟩ := List.mem_map.1 hp
       show 3 ≤ 8; decide
     · rcases List.mem_cons.1 hp with rfl | hp
       · show 1 ≤ 8; decide
       · cases hp
   · split at hp
     · rcases List.mem_cons.1 hp with rfl | hp
       · show 2 ≤ 8; decide
       · cases hp
     · cases hp
theorem levS_ok (hH : LvH kinds o s) : okOf (levS kinds o s) = true ∧ (gmOf (levS kinds o s)).toks = (ofK (levS kinds o s)).toks ∧ (gmOf (levS kinds o s)).prods = lvPs (pdZ (levS kinds o s)) (min kinds.length 9) o s := by
 have h := levS_A hH
 have ht : (ofK (levS kinds o s)).toks.length = (ofA (levS kinds o s)).toks.length := (numTo_len (ofA (levS kinds o s)) 57346 ((ofA (levS kinds o s)).toks.length - 3)).1
 have hk : (ofK (levS kinds o s)).prods = (ofA (levS kinds o s)).prods := numTo_prods _ _ _
 have hn : (ofN (levS kinds o s)).length = 1 + (ofA (levS kinds o s)).lefts.length + (ofA (levS kinds o s)).inner.toNat := by
  unfold ofN
  rw [innTo_len, nsTo_len]
  rfl
 have htl : (ofA (levS kinds o s)).toks.length = 4 + min kinds.length 9 := by
  rw [h.tk, List.length_append, toksL_len]
  show 3 + min kinds.length 9 + 1 = _
  omega
 have hpl : (ofA (levS kinds o s)).prods.length ≤ min kinds.length 9 + 3 := by
  rw [h.pd, lvPs_len]
  split <;> omega
 have hnl : (ofN (levS kinds o s)).length = 2 := by
  rw [hn, h.lf, h.nn]; rfl
 have hl : ofLong (levS kinds o s) = false := by
  unfold ofLong
  rw [show decide (40 < (ofK (levS kinds o s)).toks.length) = false by rw [ht]; simp; omega, show decide (24 < (ofN (levS kinds o s)).length) = false by rw [hnl]; decide, show decide (60 < (ofK (levS kinds o s)).prods.length) = false by rw [hk]; simp; omega]
  exact longTo_not (fun p hp => lvPs_short (z := pdZ (levS kinds o s)) (by show 1 ≤ 8; decide) p (by rw [hk, h.pd] at hp; exact hp)) _ (Nat.le_refl _)
 have hG : ofAll (levS kinds o s) = (⟨(ofK (levS kinds o s)).toks, ofN (levS kinds o s), (ofK (levS kinds o s)).prods, (levS kinds o s).pro, (levS kinds o s).tail⟩, 0, 0, ⟨#[]⟩) := by
  unfold ofAll
  rw [if_pos (levS_may hH)]
  unfold ofG
  rw [if_neg (fun h2 => h2 h.e), hl]
  rfl
 unfold okOf gmOf
 rw [hG]
 exact ⟨rfl, rfl, hk.trans h.pd⟩
def lvOf (k : Tk) : Int × Int := (k.level, k.assoc)
theorem numTo_lv (m : Mk) (nx : Int) : ∀ j, (numTo m nx j).1.toks.map lvOf = m.toks.map lvOf
 | 0 => rfl
 | j + 1 => by
   have ih := numTo_lv m nx j
   show (numSt (3 + j) (numTo m nx j)).1.toks.map lvOf = _
   unfold numSt
   split
   · exact ih
   · rw [← ih]
     show ((numTo m nx j).1.toks.set (3 + j) _).map lvOf = _
     by_cases hj : 3 + j < (numTo m nx j).1.toks.length
     · rw [List.map_set]
       refine List.ext_getElem? (fun i => ?_)
       rw [List.getElem?_set]
       split
       · rename_i e
         subst e
         rw [List.length_map, if_pos hj, List.getElem?_map, List.getElem?_eq_getElem hj, List.getD_eq_getElem?_getD, List.getElem?_eq_getElem hj]
         rfl
       · rfl
     · rw [List.set_eq_of_length_le (by omega)]
theorem levS_lv (hH : LvH kinds o s) : (gmOf (levS kinds o s)).toks.map lvOf = (toksL kinds (min kinds.length 9) ++ [tkX]).map lvOf := by
 rw [(levS_ok hH).2.1, ← (levS_A hH).tk]
 exact numTo_lv _ _ _
theorem levS_tl (hH : LvH kinds o s) : (gmOf (levS kinds o s)).toks.length = 4 + min kinds.length 9 := by
 have := congrArg List.length (levS_lv hH)
 simp only [List.length_map, List.length_append, toksL_len, List.length_singleton] at this
 omega
theorem lv_getD {l : List Tk} {l2 : List Tk} (h : l.map lvOf = l2.map lvOf) (i : Nat) : lvOf (l.getD i noTk) = lvOf (l2.getD i noTk) := by
 have := congrArg (fun q => (q[i]?).getD (lvOf noTk)) h
 simp only [List.getElem?_map] at this
 rw [List.getD_eq_getElem?_getD, List.getD_eq_getElem?_getD]
 rw [Option.getD_map, Option.getD_map] at this
 exact this
theorem levS_tok (hH : LvH kinds o s) {i : Nat} (hi : i < min kinds.length 9) : tokLv (gmOf (levS kinds o s)) (3 + (i : Int)) = ((i : Int) + 1, 1 + kinds.getD i 0 % 3) := by
 have hl := levS_tl hH
 unfold tokLv
 rw [if_pos ⟨by omega, by omega⟩]
 have e : (3 + (i : Int)).toNat = 3 + i := by omega
 rw [e]
 refine (lv_getD (levS_lv hH) (3 + i)).trans ?_
 rw [List.getD_eq_getElem?_getD, List.getElem?_append_left (by rw [toksL_len]; omega), ← List.getD_eq_getElem?_getD, toksL_at kinds hi]
 rfl
theorem levS_x (hH : LvH kinds o s) : tokLv (gmOf (levS kinds o s)) (3 + (min kinds.length 9 : Nat)) = (0, 0) := by
 have hl := levS_tl hH
 unfold tokLv
 rw [if_pos ⟨by omega, by omega⟩]
 have e : (3 + ((min kinds.length 9 : Nat) : Int)).toNat = 3 + min kinds.length 9 := by omega
 rw [e]
 refine (lv_getD (levS_lv hH) (3 + min kinds.length 9)).trans ?_
 rw [List.getD_eq_getElem?_getD, List.getElem?_append_right (by rw [toksL_len]; exact Nat.le_refl _), toksL_len, Nat.sub_self]
 rfl
theorem lvPs_at {z : Pd} {n i : Nat} (h : i < n) : (lvPs z n o s).getD (i + 1) noPd = pdA i := by
 unfold lvPs
 rw [List.getD_eq_getElem?_getD, List.getElem?_cons_succ, List.append_assoc, List.getElem?_append_left (by simpa using h), List.getElem?_map, List.getElem?_range h]
 rfl
theorem lvPs_x {z : Pd} {n : Nat} : (lvPs z n o s).getD (n + 1) noPd = pdX n := by
 unfold lvPs
 rw [List.getD_eq_getElem?_getD, List.getElem?_cons_succ, List.append_assoc, List.getElem?_append_right (by simp)]
 simp
theorem lvPs_l {z : Pd} {n : Nat} (h : 0 < n) : (lvPs z n o s).getD (n + 2) noPd = pdL o s := by
 unfold lvPs
 rw [if_pos h, List.getD_eq_getElem?_getD, List.getElem?_cons_succ, List.append_assoc, List.getElem?_append_right (by simp)]
 simp
theorem levS_rule (hH : LvH kinds o s) {i : Nat} (hi : i < min kinds.length 9) : ruleLv (gmOf (levS kinds o s)) ((i : Int) + 1) = ((i : Int) + 1, 1 + kinds.getD i 0 % 3) := by
 unfold ruleLv
 rw [(levS_ok hH).2.2, if_pos ⟨by omega, by rw [lvPs_len]; omega⟩]
 have e : ((i : Int) + 1).toNat = i + 1 := by omega
 rw [e, lvPs_at hi]
 exact levS_tok hH hi
theorem levS_ruleX (hH : LvH kinds o s) : ruleLv (gmOf (levS kinds o s)) ((min kinds.length 9 : Nat) + 1) = (0, 0) := by
 unfold ruleLv
 rw [(levS_ok hH).2.2, if_pos ⟨by omega, by rw [lvPs_len]; omega⟩]
 have e : (((min kinds.length 9 : Nat) : Int) + 1).toNat = min kinds.length 9 + 1 := by omega
 rw [e, lvPs_x]
 exact levS_x hH
theorem levS_ruleL (hH : LvH kinds o s) (hn : 0 < min kinds.length 9) : ruleLv (gmOf (levS kinds o s)) ((min kinds.length 9 : Nat) + 2) = ((s : Int) + 1, 1 + kinds.getD s 0 % 3) := by
 unfold ruleLv
 rw [(levS_ok hH).2.2, if_pos ⟨by omega, by rw [lvPs_len, if_pos hn]; omega⟩]
 have e : (((min kinds.length 9 : Nat) : Int) + 2).toNat = min kinds.length 9 + 2 := by omega
 rw [e, lvPs_l hn]
 exact levS_tok hH (hH hn).2
end
end Go.Proofs.Ytkgbifbbpmdpgaa
