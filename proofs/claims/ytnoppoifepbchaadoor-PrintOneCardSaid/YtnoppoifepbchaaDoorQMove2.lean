/- A word moved into another text is the same word. -/
import Derived.Test.YtnoppoifepbchaaDoorLRd9
namespace Go.Proofs.YtnoppoifepbchaaDoor

section
open Go.RowKit
set_option linter.unusedVariables false
theorem letF_all (n : Nat) (g : Nat → Int) (i : Nat) : ∀ j, i ≤ j → j < letF n g i → letB (g j) = true := by
 fun_induction letF n g i with
 | case1 i h ih =>
   intro j h1 h2
   by_cases e : j = i
   · subst e; exact h.2
   · exact ih j (by omega) h2
 | case2 i h => intro j h1 h2; omega
theorem letF_fin (n : Nat) (g : Nat → Int) (i : Nat) : ¬ (letF n g i < n ∧ letB (g (letF n g i)) = true) := by
 fun_induction letF n g i with
 | case1 i h ih => exact ih
 | case2 i h => exact h
theorem nameW_fin (n : Nat) (g : Nat → Int) (i : Nat) : ¬ (nameW n g i < n ∧ nameB (g (nameW n g i)) = true) := by
 fun_induction nameW n g i with
 | case1 i h ih => exact ih
 | case2 i h =>
   intro hc
   apply h
   refine ⟨hc.1, ?_⟩
   have h2 := hc.2
   unfold nameB at h2
   simp only [Bool.or_eq_true, decide_eq_true_eq] at h2
   rcases h2 with (h2 | h2) | h2
   · exact .inl h2
   · exact .inr (.inl h2)
   · exact .inr (.inr h2)
theorem oAt_name {s : ByteArray} {i : Nat} : nameB (oAt s i) = true ↔ i < s.size ∧ nameB (gAt s i) = true := by
 unfold oAt; split
 · rename_i h; simp [h]
 · rename_i h; simp [h]; decide
theorem oAt_let {s : ByteArray} {i : Nat} : letB (oAt s i) = true ↔ i < s.size ∧ letB (gAt s i) = true := by
 unfold oAt; split
 · rename_i h; simp [h]
 · rename_i h; simp [h]; decide
theorem letF_o (s : ByteArray) (i : Nat) : letF s.size (gAt s) i = if letB (oAt s i) = true then letF s.size (gAt s) (i + 1) else i := by
 rw [letF]
 by_cases h : letB (oAt s i) = true
 · rw [if_pos h, if_pos (oAt_let.1 h)]
 · rw [if_neg h, if_neg (fun hc => h (oAt_let.2 hc))]

theorem nameW_to (t : ByteArray) (z : Nat) (hz : nameB (oAt t z) = false) : ∀ m y, z - y = m → y ≤ z → (∀ j, y ≤ j → j < z → nameB (oAt t j) = true) → nameW t.size (gAt t) y = z := by
 intro m
 induction m with
 | zero => intro y hm hy h; obtain rfl : y = z := (by omega); rw [nameW_o, hz, if_neg (by simp)]
 | succ m ih => intro y hm hy h; rw [nameW_o, h y (Nat.le_refl _) (by omega), if_pos rfl]; exact ih (y + 1) (by omega) (by omega) (fun j h1 h2 => h j (by omega) h2)
theorem digF_to (t : ByteArray) (z : Nat) (hz : digB (oAt t z) = false) : ∀ m y, z - y = m → y ≤ z → (∀ j, y ≤ j → j < z → digB (oAt t j) = true) → digF t.size (gAt t) y = z := by
 intro m
 induction m with
 | zero => intro y hm hy h; obtain rfl : y = z := (by omega); rw [digF_o, hz, if_neg (by simp)]
 | succ m ih => intro y hm hy h; rw [digF_o, h y (Nat.le_refl _) (by omega), if_pos rfl]; exact ih (y + 1) (by omega) (by omega) (fun j h1 h2 => h j (by omega) h2)
theorem letF_to (t : ByteArray) (z : Nat) (hz : letB (oAt t z) = false) : ∀ m y, z - y = m → y ≤ z → (∀ j, y ≤ j → j < z → letB (oAt t j) = true) → letF t.size (gAt t) y = z := by
 intro m
 induction m with
 | zero => intro y hm hy h; obtain rfl : y = z := (by omega); rw [letF_o, hz, if_neg (by simp)]
 | succ m ih => intro y hm hy h; rw [letF_o, h y (Nat.le_refl _) (by omega), if_pos rfl]; exact ih (y + 1) (by omega) (by omega) (fun j h1 h2 => h j (by omega) h2)

/-- a row of bytes of a text stands in another text -/
def Same (s t : ByteArray) (x y len : Nat) : Prop := x + len ≤ s.size ∧ y + len ≤ t.size ∧ ∀ m, m < len → gAt t (y + m) = gAt s (x + m)
theorem Same.o {s t : ByteArray} {x y len m : Nat} (h : Same s t x y len) (hm : m < len) : oAt t (y + m) = oAt s (x + m) := by
 obtain ⟨h1, h2, h3⟩ := h
 rw [oAt_lt (by omega), oAt_lt (by omega), h3 m hm]
theorem Same.alike {s t : ByteArray} {x y len k : Nat} (h : Same s t x y len) (hk : k < len) : Alike s t x y k := fun m hm => h.o (by omega)
theorem Same.from {s t : ByteArray} {x y len k : Nat} (h : Same s t x y len) (hk : k ≤ len) : Same s t (x + k) (y + k) (len - k) :=
 ⟨by have := h.1; omega, by have := h.2.1; omega, fun m hm => by rw [Nat.add_assoc, Nat.add_assoc]; exact h.2.2 (k + m) (by omega)⟩
theorem Same.le {s t : ByteArray} {x y len k : Nat} (h : Same s t x y len) (hk : k ≤ len) : Same s t x y k :=
 ⟨by have := h.1; omega, by have := h.2.1; omega, fun m hm => h.2.2 m (by omega)⟩
theorem Same.ext {s t : ByteArray} {x y len : Nat} (h : Same s t x y len) : t.extract y (y + len) = s.extract x (x + len) := by
 apply ByteArray.ext
 apply Array.toList_inj.1
 have l1 := extract_len t (a := y) (b := y + len) h.2.1
 have l2 := extract_len s (a := x) (b := x + len) h.1
 apply List.ext_getElem
 · rw [l1, l2]; omega
 · intro m h1 h2
   have hm : m < len := by rw [l1] at h1; omega
   have e1 := extract_getD t (x := y) (e := y + len) (m := m) h.2.1 (by omega)
   have e2 := extract_getD s (x := x) (e := x + len) (m := m) h.1 (by omega)
   rw [List.getD_eq_getElem?_getD, List.getElem?_eq_getElem h1] at e1
   rw [List.getD_eq_getElem?_getD, List.getElem?_eq_getElem h2] at e2
   simp only [Option.getD_some] at e1 e2
   have := h.2.2 m hm
   exact UInt8.toNat_inj.1 (by omega)

/-- what ends a word -/
def Ends (s t : ByteArray) (e z : Nat) : Prop := oAt t z = oAt s e ∨ (nameB (oAt t z) = false)
theorem nameB_let {c : Int} (h : nameB c = false) : letB c = false ∧ digB c = false ∧ begB c = false := by
 unfold nameB at h
 simp only [Bool.or_eq_false_iff] at h
 refine ⟨?_, h.1.2, h.1.1⟩
 have := h.1.1
 unfold begB at this; unfold letB
 simp at this ⊢; omega

theorem name_move {s t : ByteArray} {x y : Nat} (hx : x < s.size) (hk : (nameWd s x).1.kind ≠ 0) (hn : x < nameF s.size (gAt s) x)
  (hS : Same s t x y ((nameWd s x).2 - x)) (hE : Ends s t (nameWd s x).2 (y + ((nameWd s x).2 - x))) :
  y < nameF t.size (gAt t) y ∧ nameWd t y = (⟨(nameWd s x).1.kind, (nameWd s x).1.text, y⟩, y + ((nameWd s x).2 - x)) := by
 have hb := nameF_bd s.size (gAt s) x (by omega)
 have hbeg := (name_begins hx).1 hn
 have hall := nameF_all s.size (gAt s) x
 have hfin : nameB (oAt s (nameF s.size (gAt s) x)) = false := by
  have e : nameF s.size (gAt s) x = nameW s.size (gAt s) x := by unfold nameF; rw [if_pos ⟨hx, hbeg⟩]
  rw [e]
  have := nameW_fin s.size (gAt s) x
  cases h : nameB (oAt s (nameW s.size (gAt s) x)) with
  | false => rfl
  | true => exact absurd (oAt_name.1 h) this
 unfold nameWd at hk hS hE ⊢
 by_cases h20 : nameF s.size (gAt s) x - x ≤ 20
 · rw [if_pos h20] at hk hS hE ⊢
   simp only at hS hE ⊢
   generalize nameF s.size (gAt s) x = e at *
   have hz : nameB (oAt t (y + (e - x))) = false := by
    rcases hE with h | h
    · rw [h]; exact hfin
    · exact h
   have hw := nameW_to t (y + (e - x)) hz _ y rfl (by omega) (fun j h1 h2 => by
    have := hS.o (m := j - y) (by omega)
    rw [show y + (j - y) = j by omega] at this
    rw [this]
    exact oAt_name.2 ⟨by omega, hall _ (by omega) (by omega)⟩)
   have h0 := hS.o (m := 0) (by omega)
   have hbt : begB (oAt t y) = true := by
    rw [show y + 0 = y from rfl] at h0
    rw [h0]; exact oAt_beg.2 ⟨hx, hbeg⟩
   have hf : nameF t.size (gAt t) y = y + (e - x) := by rw [nameF_o, if_pos hbt, hw]
   rw [hf]
   refine ⟨by omega, ?_⟩
   rw [if_pos (by omega)]
   have := hS.ext
   rw [show x + (e - x) = e by omega] at this
   rw [this]
 · rw [if_neg h20] at hk; exact absurd rfl hk

theorem dig_move {s t : ByteArray} {x y : Nat} (hx : x < s.size) (hd : digB (gAt s x) = true) (hk : (digWd s x).1.kind ≠ 0)
  (hS : Same s t x y ((digWd s x).2 - x)) (hE : Ends s t (digWd s x).2 (y + ((digWd s x).2 - x))) :
  digB (oAt t y) = true ∧ digWd t y = (⟨(digWd s x).1.kind, (digWd s x).1.text, y⟩, y + ((digWd s x).2 - x)) := by
 have hb := digF_bd s.size (gAt s) x (by omega)
 have hall := digF_all s.size (gAt s) x
 have hfin : digB (oAt s (digF s.size (gAt s) x)) = false := by
  have := digF_fin s.size (gAt s) x
  cases h : digB (oAt s (digF s.size (gAt s) x)) with
  | false => rfl
  | true => exact absurd (oAt_dig.1 h) this
 have hdi : x < digF s.size (gAt s) x := by
  have e1 : digF s.size (gAt s) x = digF s.size (gAt s) (x + 1) := by rw [digF, if_pos ⟨hx, hd⟩]
  have := digF_bd s.size (gAt s) (x + 1) (by omega)
  omega
 have hex := hS.ext
 unfold digWd at hk hS hE hex ⊢
 unfold digL at hk hS hE hex ⊢
 by_cases c1 : digF s.size (gAt s) x < s.size ∧ begB (gAt s (digF s.size (gAt s) x)) = true
 · rw [if_pos c1] at hk; exact absurd rfl hk
 by_cases c2 : gAt s x = 48 ∨ 50000 < horA 0 (s.extract x (digF s.size (gAt s) x)).data.toList
 · rw [if_neg c1, if_pos c2] at hk; exact absurd rfl hk
 rw [if_neg c1, if_neg c2] at hk hS hE hex ⊢
 simp only at hS hE hex ⊢
 generalize digF s.size (gAt s) x = e at *
 have hz : digB (oAt t (y + (e - x))) = false ∧ begB (oAt t (y + (e - x))) = false := by
  rcases hE with h | h
  · rw [h]
    refine ⟨hfin, ?_⟩
    cases hq : begB (oAt s e) with
    | false => rfl
    | true => exact absurd (oAt_beg.1 hq) c1
  · exact ⟨(nameB_let h).2.1, (nameB_let h).2.2⟩
 have hw := digF_to t (y + (e - x)) hz.1 _ y rfl (by omega) (fun j h1 h2 => by
  have := hS.o (m := j - y) (by omega)
  rw [show y + (j - y) = j by omega] at this
  rw [this]
  exact oAt_dig.2 ⟨by omega, hall _ (by omega) (by omega)⟩)
 have h0 := hS.o (m := 0) (by omega)
 rw [show y + 0 = y from rfl, show x + 0 = x from rfl] at h0
 have hg0 := hS.2.2 0 (by omega)
 rw [show y + 0 = y from rfl, show x + 0 = x from rfl] at hg0
 refine ⟨by rw [h0]; exact oAt_dig.2 ⟨hx, hd⟩, ?_⟩
 rw [hw, if_neg (fun hc => by have := oAt_beg.2 hc; rw [hz.2] at this; cases this)]
 rw [show x + (e - x) = e by omega] at hex
 rw [hex, hg0, if_neg c2]
end
section
open Go.RowKit
set_option linter.unusedVariables false
theorem key_at3 (t : ByteArray) : isKeyB t = true ↔ ∃ j, j < 7 ∧ t.data.toList = keyL.getD j [] := by
 unfold isKeyB
 rw [decide_eq_true_iff]
 constructor
 · intro h
   obtain ⟨j, hj, e⟩ := List.getElem_of_mem h
   exact ⟨j, hj, by rw [List.getD_eq_getElem?_getD, List.getElem?_eq_getElem hj]; exact e.symm⟩
 · rintro ⟨j, hj, e⟩
   rw [e, List.getD_eq_getElem?_getD, List.getElem?_eq_getElem (show j < keyL.length from hj)]
   exact List.getElem_mem _

theorem overF_plain {n : Nat} {g : Nat → Int} {i : Nat} (h : g i = 123 ∨ g i = 125) : overF n g i = i := by
 unfold overF
 rw [if_neg (by omega), if_neg (by omega), if_neg (by omega), if_neg (by omega)]

theorem endF_move {s t : ByteArray} (e : Nat) : ∀ m x y d, s.size - x = m → (1 ≤ d ∨ (d = 0 ∧ gAt s x = 123)) → endF s.size (gAt s) x d = (e : Int) → Same s t x y (e - x) → endF t.size (gAt t) y d + x = y + (e : Int) := by
 intro m
 induction m using Nat.strongRecOn with
 | ind m ih =>
   intro x y d hm hd he hS
   have hx : x < s.size := by
    rcases Nat.lt_or_ge x s.size with h | h
    · exact h
    · rw [endF, if_neg (by omega)] at he; omega
   have hle := endF_le s.size (gAt s) x d (by omega)
   have hxe : x < e := by omega
   have hg := hS.2.2 0 (by omega)
   rw [Nat.add_zero, Nat.add_zero] at hg
   have hy : y < t.size := by have := hS.2.1; omega
   rw [endF, if_pos hx] at he
   rw [endF, if_pos hy]
   have hbd := overF_bd s.size (gAt s) x hx
   by_cases h1 : overF s.size (gAt s) x < 0
   · rw [if_pos h1] at he; omega
   rw [if_neg h1] at he
   obtain ⟨k, hk⟩ := Int.eq_ofNat_of_zero_le (show 0 ≤ overF s.size (gAt s) x by omega)
   by_cases h2 : (x : Int) < overF s.size (gAt s) x
   · rw [if_pos h2, hk, show ((k : Nat) : Int).toNat = k from rfl] at he
     have hks : k < s.size := by
      rcases Nat.lt_or_ge k s.size with h | h
      · exact h
      · rw [endF, if_neg (by omega)] at he; omega
     have hle2 := endF_le s.size (gAt s) k d (by omega)
     have ho := overF_alike (y := y) hx hks hk (hS.alike (by omega))
     have hd' : 1 ≤ d ∨ (d = 0 ∧ gAt s k = 123) := by
      rcases hd with h | ⟨_, h⟩
      · exact .inl h
      · rw [overF_plain (.inl h)] at h2; omega
     obtain ⟨q, hq⟩ := Int.eq_ofNat_of_zero_le (show 0 ≤ overF t.size (gAt t) y by omega)
     rw [hq, if_neg (by omega), if_pos (by omega), show ((q : Nat) : Int).toNat = q from rfl]
     have hS2 := hS.from (k := k - x) (by omega)
     rw [show x + (k - x) = k by omega, show y + (k - x) = q by omega, show e - x - (k - x) = e - k by omega] at hS2
     have := ih (s.size - k) (by omega) k q d rfl hd' he hS2
     omega
   · rw [if_neg h2] at he
     have hkx : overF s.size (gAt s) x = (x : Nat) := by omega
     have hot : overF t.size (gAt t) y = (y : Nat) := by
      by_cases h3 : e = x + 1
      · have h125 : gAt s x = 123 ∨ gAt s x = 125 := by
         by_cases h4 : deepF (gAt s) x d = 0
         · unfold deepF at h4
           rcases hd with h | ⟨h, h5⟩
           · by_cases h6 : gAt s x = 123
             · exact .inl h6
             · rw [if_neg h6] at h4
               by_cases h7 : gAt s x = 125
               · exact .inr h7
               · rw [if_neg h7] at h4; omega
           · exact .inl h5
         · rw [if_neg h4] at he
           have := endF_le s.size (gAt s) (x + 1) (deepF (gAt s) x d) (by omega)
           omega
        exact overF_plain (by rw [hg]; exact h125)
      · have := overF_alike (y := y) hx hx hkx (hS.alike (by omega))
        omega
     rw [hot, if_neg (by omega), if_neg (by omega)]
     have hdp : deepF (gAt t) y d = deepF (gAt s) x d := by unfold deepF; rw [hg]
     rw [hdp]
     by_cases h4 : deepF (gAt s) x d = 0
     · rw [if_pos h4] at he ⊢; omega
     · rw [if_neg h4] at he ⊢
       have hd' : 1 ≤ deepF (gAt s) x d := by
        unfold deepF at h4 ⊢
        rcases hd with h | ⟨h, h5⟩
        · split at h4 <;> (try split at h4) <;> simp_all <;> omega
        · rw [if_pos h5]; omega
       have hle2 := endF_le s.size (gAt s) (x + 1) (deepF (gAt s) x d) (by omega)
       have hS2 := hS.from (k := 1) (by omega)
       rw [show e - x - 1 = e - (x + 1) by omega] at hS2
       have := ih (s.size - (x + 1)) (by omega) (x + 1) (y + 1) _ rfl (.inl hd') he hS2
       omega

theorem take_move {s t : ByteArray} {x y : Nat} (hx : x < s.size) (hok : (takeS s x).2.2 = true) (hS : Same s t x y ((takeS s x).2.1.toNat - x)) :
  takeS t y = ((takeS s x).1, ((y + ((takeS s x).2.1.toNat - x) : Nat) : Int), true) := by
 have he := takeS_end s x hok
 have hy : y < t.size := by have := hS.2.1; omega
 rw [takeS_in x hx] at hok hS he ⊢
 rw [takeS_in y hy]
 unfold takeF at hok hS he ⊢
 simp only [Nat.add_zero] at hok hS he ⊢
 by_cases c1 : 3 ≤ s.size - x ∧ gAt s x = 39 ∧ plainB (gAt s (x + 1)) = true ∧ gAt s (x + 2) = 39
 · rw [if_pos c1] at hok hS he ⊢
   simp only at hS ⊢
   have e3 : ((x : Int) + 3).toNat - x = 3 := by omega
   rw [e3] at hS ⊢
   have h0 := hS.2.2 0 (by omega)
   have h1 := hS.2.2 1 (by omega)
   have h2 := hS.2.2 2 (by omega)
   have hb := hS.2.1
   rw [Nat.add_zero, Nat.add_zero] at h0
   rw [h0, h1, h2, if_pos ⟨by omega, c1.2⟩]
   rfl
 · rw [if_neg c1] at hok hS he ⊢
   by_cases c2 : 4 ≤ s.size - x ∧ gAt s x = 39 ∧ gAt s (x + 1) = 92 ∧ gAt s (x + 3) = 39 ∧ escB (gAt s (x + 2)) = true
   · rw [if_pos c2] at hok hS he ⊢
     simp only at hS ⊢
     have e3 : ((x : Int) + 4).toNat - x = 4 := by omega
     rw [e3] at hS ⊢
     have h0 := hS.2.2 0 (by omega)
     have h1 := hS.2.2 1 (by omega)
     have h2 := hS.2.2 2 (by omega)
     have h3 := hS.2.2 3 (by omega)
     have hb := hS.2.1
     rw [Nat.add_zero, Nat.add_zero] at h0
     rw [h0, h1, h2, h3, if_neg (fun hc => by rw [c2.2.2.1] at hc; exact absurd hc.2.2.1 (by decide)), if_pos ⟨by omega, c2.2⟩]
     rfl
   · rw [if_neg c2] at hok; cases hok

theorem pct_move {s t : ByteArray} {x y : Nat} (hx : x < s.size) (h37 : gAt s x = 37) (hk : (pctWd s x).1.kind ≠ 0)
  (hS : Same s t x y ((pctWd s x).2 - x)) (hE : Ends s t (pctWd s x).2 (y + ((pctWd s x).2 - x))) :
  pctWd t y = (⟨(pctWd s x).1.kind, (pctWd s x).1.text, y⟩, y + ((pctWd s x).2 - x)) := by
 have hbd := pctWd_bd s x hx hk
 have hex := hS.ext
 have hy := hS.2.1
 unfold pctWd at hk hS hE hex hy hbd ⊢
 by_cases c0 : x + 1 = s.size
 · rw [if_pos c0] at hk; exact absurd rfl hk
 rw [if_neg c0] at hk hS hE hex hy hbd ⊢
 by_cases c1 : gAt s (x + 1) = 37
 · rw [if_pos c1] at hk hS hE hex hy hbd ⊢
   simp only at hS hE hex hy ⊢
   have e2 : x + 2 - x = 2 := by omega
   rw [e2] at hS hex hy ⊢
   have h1 := hS.2.2 1 (by omega)
   rw [if_neg (by omega), if_pos (by rw [h1]; exact c1), hex]
 rw [if_neg c1] at hk hS hE hex hy hbd ⊢
 by_cases c2 : gAt s (x + 1) = 123
 · rw [if_pos c2] at hk hS hE hex hy hbd ⊢
   by_cases c3 : behW s.size (gAt s) 37 125 (x + 2) = -1
   · rw [if_pos c3] at hk; exact absurd rfl hk
   rw [if_neg c3] at hk hS hE hex hy hbd ⊢
   have hfb := findW_bd s.size (gAt s) 37 125 (x + 2)
   unfold behW at c3 hS hE hex hy hbd ⊢
   by_cases c4 : findW s.size (gAt s) 37 125 (x + 2) = -1
   · rw [if_pos c4] at c3; exact absurd rfl c3
   rw [if_neg c4] at c3 hS hE hex hy hbd ⊢
   obtain ⟨k, hkf⟩ := Int.eq_ofNat_of_zero_le (show 0 ≤ findW s.size (gAt s) 37 125 (x + 2) by omega)
   rw [hkf] at hfb c3 hS hE hex hy hbd ⊢
   simp only at hS hE hex hy ⊢
   have e2 : ((k : Int) + 2).toNat = k + 2 := by omega
   rw [e2] at hS hE hex hy ⊢
   have hS2 := hS.from (k := 2) (by omega)
   have hfm := findW_alike (a := 37) (b := 125) k _ (x + 2) (y + 2) rfl hkf (hS2.alike (by omega))
   have h1 := hS.2.2 1 (by omega)
   rw [if_neg (by omega), h1, if_neg c1, if_pos c2]
   have hft : findW t.size (gAt t) 37 125 (y + 2) = ((y + (k - x) : Nat) : Int) := by omega
   rw [hft, if_neg (show ¬ ((y + (k - x) : Nat) : Int) = -1 by omega), if_neg (by omega)]
   have hS3 := (hS.from (k := 2) (by omega)).le (k := k - (x + 2)) (by omega)
   have hex3 := hS3.ext
   rw [show x + 2 + (k - (x + 2)) = k by omega, show y + 2 + (k - (x + 2)) = y + (k - x) by omega] at hex3
   rw [show (((y + (k - x) : Nat) : Int) + 2).toNat = y + (k - x) + 2 by omega, show y + (k - x) + 2 - 2 = y + (k - x) by omega, show k + 2 - 2 = k by omega, hex3, show y + (k - x) + 2 = y + (k + 2 - x) by omega]
 · rw [if_neg c2] at hk hS hE hex hy hbd ⊢
   have hall := letF_all s.size (gAt s) (x + 1)
   have hlb := letF_bd s.size (gAt s) (x + 1) (by omega)
   have hfin : letB (oAt s (letF s.size (gAt s) (x + 1))) = false := by
    have := letF_fin s.size (gAt s) (x + 1)
    cases h : letB (oAt s (letF s.size (gAt s) (x + 1))) with
    | false => rfl
    | true => exact absurd (oAt_let.1 h) this
   by_cases c3 : isKeyB (s.extract x (letF s.size (gAt s) (x + 1))) = true
   · rw [if_pos c3] at hk hS hE hex hy hbd ⊢
     simp only at hS hE hex hy ⊢
     generalize letF s.size (gAt s) (x + 1) = e at *
     have hex2 : t.extract y (y + (e - x)) = s.extract x e := by rw [hex, show x + (e - x) = e by omega]
     have hz : letB (oAt t (y + (e - x))) = false := by
      rcases hE with h | h
      · rw [h]; exact hfin
      · exact (nameB_let h).1
     have hw := letF_to t (y + (e - x)) hz _ (y + 1) rfl (by omega) (fun j h1 h2 => by
      have := hS.o (m := j - y) (by omega)
      rw [show y + (j - y) = j by omega] at this
      rw [this]
      exact oAt_let.2 ⟨by omega, hall _ (by omega) (by omega)⟩)
     by_cases c5 : y + 1 = t.size
     · exfalso
       have hxe : e = x + 1 := by omega
       rw [hxe] at c3
       obtain ⟨j, hj, e1⟩ := (key_at3 _).1 c3
       have e2 := congrArg List.length e1
       rw [extract_len s (by omega)] at e2
       match j, hj with
       | 0, _ | 1, _ | 2, _ | 3, _ | 4, _ | 5, _ | 6, _ => simp [keyL] at e2 <;> omega
     rw [if_neg c5]
     have h1 : gAt t (y + 1) ≠ 37 ∧ gAt t (y + 1) ≠ 123 := by
      by_cases h6 : x + 1 < e
      · have := hS.2.2 1 (by omega)
        rw [this]; exact ⟨c1, c2⟩
      · exfalso
        have hxe : e = x + 1 := by omega
        rw [hxe] at c3
        obtain ⟨j, hj, e1⟩ := (key_at3 _).1 c3
        have e2 := congrArg List.length e1
        rw [extract_len s (by omega)] at e2
        match j, hj with
        | 0, _ | 1, _ | 2, _ | 3, _ | 4, _ | 5, _ | 6, _ => simp [keyL] at e2 <;> omega
     rw [if_neg h1.1, if_neg h1.2, hw, hex2, if_pos c3]
   · rw [if_neg c3] at hk; exact absurd rfl hk

theorem word_move {s t : ByteArray} {x y : Nat} (hx : x < s.size) (hk : (wordWd s x).1.kind ≠ 0)
  (hS : Same s t x y ((wordWd s x).2 - x)) (hE : Ends s t (wordWd s x).2 (y + ((wordWd s x).2 - x))) :
  wordWd t y = (⟨(wordWd s x).1.kind, (wordWd s x).1.text, y⟩, y + ((wordWd s x).2 - x)) := by
 have hbd := wordWd_bd s x hx hk
 have hy : y < t.size := by have := hS.2.1; omega
 have hg := hS.2.2 0 (by omega)
 rw [Nat.add_zero, Nat.add_zero] at hg
 have hnx := name_begins (s := s) hx
 have hny := name_begins (s := t) hy
 rw [hg] at hny
 unfold wordWd at hk hS hE ⊢
 rw [hg]
 by_cases c1 : begB (gAt s x) = true
 · rw [if_pos (hnx.2 c1)] at hk hS hE ⊢
   obtain ⟨h1, h2⟩ := name_move hx hk (hnx.2 c1) hS hE
   rw [if_pos h1, h2]
 rw [if_neg (fun hc => c1 (hnx.1 hc))] at hk hS hE ⊢
 rw [if_neg (fun hc => c1 (hny.1 hc))]
 by_cases c2 : digB (gAt s x) = true
 · rw [if_pos c2] at hk hS hE ⊢
   obtain ⟨h1, h2⟩ := dig_move hx c2 hk hS hE
   rw [if_pos c2, h2]
 rw [if_neg c2] at hk hS hE ⊢
 rw [if_neg c2]
 by_cases c3 : gAt s x = 39
 · rw [if_pos c3] at hk hS hE ⊢
   rw [if_pos c3]
   by_cases c4 : (takeS s x).2.2 = true
   · rw [if_pos c4] at hk hS hE ⊢
     have := take_move hx c4 hS
     rw [this, if_pos rfl]; rfl
   · rw [if_neg c4] at hk; exact absurd rfl hk
 rw [if_neg c3] at hk hS hE ⊢
 rw [if_neg c3]
 by_cases c5 : gAt s x = 60
 · rw [if_pos c5] at hk hS hE ⊢
   rw [if_pos c5]
   by_cases c6 : x < tagF s.size (gAt s) x
   · rw [if_pos c6] at hk hS hE ⊢
     simp only at hS hE ⊢
     have ht3 := tagF_is s x
     have htb := tagF_bd s.size (gAt s) x (by omega)
     rcases ht3 with h | ⟨_, h1, h2, h3⟩
     · omega
     have hm := tagF_alike (len := tagF s.size (gAt s) x - x - 1) (hS.alike (by omega)) (fun _ => by omega)
     have hS3 := (hS.from (k := 1) (by omega)).le (k := tagF s.size (gAt s) x - 1 - (x + 1)) (by omega)
     have hex3 := hS3.ext
     generalize tagF s.size (gAt s) x = e at *
     generalize tagF t.size (gAt t) y = f at *
     obtain rfl : f = y + (e - x) := by omega
     rw [show x + 1 + (e - 1 - (x + 1)) = e - 1 by omega, show y + 1 + (e - 1 - (x + 1)) = y + (e - x) - 1 by omega] at hex3
     rw [if_pos (by omega), hex3]
   · rw [if_neg c6] at hk; exact absurd rfl hk
 rw [if_neg c5] at hk hS hE ⊢
 rw [if_neg c5]
 by_cases c6 : gAt s x = 58 ∨ gAt s x = 59 ∨ gAt s x = 124
 · rw [if_pos c6] at hk hS hE ⊢
   rw [if_pos c6]
   simp only at hS ⊢
   rw [show x + 1 - x = 1 by omega] at hS ⊢
   rw [hS.ext]
 rw [if_neg c6] at hk hS hE ⊢
 rw [if_neg c6]
 by_cases c7 : gAt s x = 123
 · rw [if_pos c7] at hk hS hE ⊢
   rw [if_pos c7]
   by_cases c8 : (x : Int) < endS s x
   · rw [if_pos c8] at hk hS hE ⊢
     simp only at hS hE ⊢
     obtain ⟨e, he⟩ := Int.eq_ofNat_of_zero_le (show 0 ≤ endS s x by omega)
     have hes : endS s x = endF s.size (gAt s) x 0 := by unfold endS; exact if_pos ⟨by omega, by omega, c7⟩
     have het : endS t y = endF t.size (gAt t) y 0 := by unfold endS; exact if_pos ⟨by omega, by omega, by rw [← c7]; exact hg⟩
     have heb := endS_bd s x (by omega)
     rw [he] at hS hE c8 heb ⊢
     simp only [Int.toNat_natCast] at hS hE ⊢
     have hm := endF_move e _ x y 0 rfl (.inr ⟨rfl, c7⟩) (hes.symm.trans he) hS
     have hex := hS.ext
     rw [show x + (e - x) = e by omega] at hex
     have hty : endS t y = ((y + (e - x) : Nat) : Int) := by rw [het]; omega
     rw [hty, if_pos (by omega)]
     simp only [Int.toNat_natCast]
     rw [hex]
   · rw [if_neg c8] at hk; exact absurd rfl hk
 rw [if_neg c7] at hk hS hE ⊢
 rw [if_neg c7]
 by_cases c8 : gAt s x = 37
 · rw [if_pos c8] at hk hS hE ⊢
   rw [if_pos c8]
   exact pct_move hx c8 hk hS hE
 · rw [if_neg c8] at hk; exact absurd rfl hk
end
end Go.Proofs.YtnoppoifepbchaaDoor
