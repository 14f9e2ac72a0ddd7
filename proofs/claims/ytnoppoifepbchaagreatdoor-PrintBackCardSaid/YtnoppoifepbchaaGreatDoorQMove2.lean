/- A word moved into another text is the same word. -/
import Derived.Test.YtnoppoifepbchaaGreatDoorLRd9
import Derived.Lib.ItoaLen
import Derived.Deep.OwnRows
namespace Go.Proofs.YtnoppoifepbchaaGreatDoor
section
section
open Go.RowKit
set_option linter.unusedVariables false
theorem letF_all (n : Nat) (g : Nat → Int) (i : Nat) : ∀ j, i ≤ j → j < letF n g i → letB (g j) = true := by
 fun_induction letF n g i with
 | case1 i h ih =>
   intro j h1 h2
   by_cases e : j = i
   · subst e; exact h.2
   · exact ih j (by omega) h2
 | case2 i h => intro j h1 h2; omega
theorem letF_fin (n : Nat) (g : Nat → Int) (i : Nat) : ¬ (letF n g i < n ∧ letB (g (letF n g i)) = true) := by
 fun_induction letF n g i with
 | case1 i h ih => exact ih
 | case2 i h => exact h
theorem nameW_fin (n : Nat) (g : Nat → Int) (i : Nat) : ¬ (nameW n g i < n ∧ nameB (g (nameW n g i)) = true) := by
 fun_induction nameW n g i with
 | case1 i h ih => exact ih
 | case2 i h =>
   intro hc
   apply h
   refine ⟨hc.1, ?_⟩
   have h2 := hc.2
   unfold nameB at h2
   simp only [Bool.or_eq_true, decide_eq_true_eq] at h2
   rcases h2 with (h2 | h2) | h2
   · exact .inl h2
   · exact .inr (.inl h2)
   · exact .inr (.inr h2)
theorem oAt_name {s : ByteArray} {i : Nat} : nameB (oAt s i) = true ↔ i < s.size ∧ nameB (gAt s i) = true := by
 unfold oAt; split
 · rename_i h; simp [h]
 · rename_i h; simp [h]; decide
theorem oAt_let {s : ByteArray} {i : Nat} : letB (oAt s i) = true ↔ i < s.size ∧ letB (gAt s i) = true := by
 unfold oAt; split
 · rename_i h; simp [h]
 · rename_i h; simp [h]; decide
theorem letF_o (s : ByteArray) (i : Nat) : letF s.size (gAt s) i = if letB (oAt s i) = true then letF s.size (gAt s) (i + 1) else i := by
 rw [letF]
 by_cases h : letB (oAt s i) = true
 · rw [if_pos h, if_pos (oAt_let.1 h)]
 · rw [if_neg h, if_neg (fun hc => h (oAt_let.2 hc))]

theorem nameW_to (t : ByteArray) (z : Nat) (hz : nameB (oAt t z) = false) : ∀ m y, z - y = m → y ≤ z → (∀ j, y ≤ j → j < z → nameB (oAt t j) = true) → nameW t.size (gAt t) y = z := by
 intro m
 induction m with
 | zero => intro y hm hy h; obtain rfl : y = z := (by omega); rw [nameW_o, hz, if_neg (by simp)]
 | succ m ih => intro y hm hy h; rw [nameW_o, h y (Nat.le_refl _) (by omega), if_pos rfl]; exact ih (y + 1) (by omega) (by omega) (fun j h1 h2 => h j (by omega) h2)
theorem digF_to (t : ByteArray) (z : Nat) (hz : digB (oAt t z) = false) : ∀ m y, z - y = m → y ≤ z → (∀ j, y ≤ j → j < z → digB (oAt t j) = true) → digF t.size (gAt t) y = z := by
 intro m
 induction m with
 | zero => intro y hm hy h; obtain rfl : y = z := (by omega); rw [digF_o, hz, if_neg (by simp)]
 | succ m ih => intro y hm hy h; rw [digF_o, h y (Nat.le_refl _) (by omega), if_pos rfl]; exact ih (y + 1) (by omega) (by omega) (fun j h1 h2 => h j (by omega) h2)
theorem letF_to (t : ByteArray) (z : Nat) (hz : letB (oAt t z) = false) : ∀ m y, z - y = m → y ≤ z → (∀ j, y ≤ j → j < z → letB (oAt t j) = true) → letF t.size (gAt t) y = z := by
 intro m
 induction m with
 | zero => intro y hm hy h; obtain rfl : y = z := (by omega); rw [letF_o, hz, if_neg (by simp)]
 | succ m ih => intro y hm hy h; rw [letF_o, h y (Nat.le_refl _) (by omega), if_pos rfl]; exact ih (y + 1) (by omega) (by omega) (fun j h1 h2 => h j (by omega) h2)

/-- a row of bytes of a text stands in another text -/
def Same (s t : ByteArray) (x y len : Nat) : Prop := x + len ≤ s.size ∧ y + len ≤ t.size ∧ ∀ m, m < len → gAt t (y + m) = gAt s (x + m)
theorem Same.o {s t : ByteArray} {x y len m : Nat} (h : Same s t x y len) (hm : m < len) : oAt t (y + m) = oAt s (x + m) := by
 obtain ⟨h1, h2, h3⟩ := h
 rw [oAt_lt (by omega), oAt_lt (by omega), h3 m hm]
theorem Same.alike {s t : ByteArray} {x y len k : Nat} (h : Same s t x y len) (hk : k < len) : Alike s t x y k := fun m hm => h.o (by omega)
theorem Same.from {s t : ByteArray} {x y len k : Nat} (h : Same s t x y len) (hk : k ≤ len) : Same s t (x + k) (y + k) (len - k) :=
 ⟨by have := h.1; omega, by have := h.2.1; omega, fun m hm => by rw [Nat.add_assoc, Nat.add_assoc]; exact h.2.2 (k + m) (by omega)⟩
theorem Same.le {s t : ByteArray} {x y len k : Nat} (h : Same s t x y len) (hk : k ≤ len) : Same s t x y k :=
 ⟨by have := h.1; omega, by have := h.2.1; omega, fun m hm => h.2.2 m (by omega)⟩
theorem Same.ext {s t : ByteArray} {x y len : Nat} (h : Same s t x y len) : t.extract y (y + len) = s.extract x (x + len) := by
 apply ByteArray.ext
 apply Array.toList_inj.1
 have l1 := extract_len t (a := y) (b := y + len) h.2.1
 have l2 := extract_len s (a := x) (b := x + len) h.1
 apply List.ext_getElem
 · rw [l1, l2]; omega
 · intro m h1 h2
   have hm : m < len := by rw [l1] at h1; omega
   have e1 := extract_getD t (x := y) (e := y + len) (m := m) h.2.1 (by omega)
   have e2 := extract_getD s (x := x) (e := x + len) (m := m) h.1 (by omega)
   rw [List.getD_eq_getElem?_getD, List.getElem?_eq_getElem h1] at e1
   rw [List.getD_eq_getElem?_getD, List.getElem?_eq_getElem h2] at e2
   simp only [Option.getD_some] at e1 e2
   have := h.2.2 m hm
   exact UInt8.toNat_inj.1 (by omega)

/-- what ends a word -/
def Ends (s t : ByteArray) (e z : Nat) : Prop := oAt t z = oAt s e ∨ (nameB (oAt t z) = false)
theorem nameB_let {c : Int} (h : nameB c = false) : letB c = false ∧ digB c = false ∧ begB c = false := by
 unfold nameB at h
 simp only [Bool.or_eq_false_iff] at h
 refine ⟨?_, h.1.2, h.1.1⟩
 have := h.1.1
 unfold begB at this; unfold letB
 simp at this ⊢; omega

theorem name_move {s t : ByteArray} {x y : Nat} (hx : x < s.size) (hk : (nameWd s x).1.kind ≠ 0) (hn : x < nameF s.size (gAt s) x)
 (hS : Same s t x y ((nameWd s x).2 - x)) (hE : Ends s t (nameWd s x).2 (y + ((nameWd s x).2 - x))) :
 y < nameF t.size (gAt t) y ∧ nameWd t y = (⟨(nameWd s x).1.kind, (nameWd s x).1.text, y⟩, y + ((nameWd s x).2 - x)) := by
 have hb := nameF_bd s.size (gAt s) x (by omega)
 have hbeg := (name_begins hx).1 hn
 have hall := nameF_all s.size (gAt s) x
 have hfin : nameB (oAt s (nameF s.size (gAt s) x)) = false := by
  have e : nameF s.size (gAt s) x = nameW s.size (gAt s) x := by unfold nameF; rw [if_pos ⟨hx, hbeg⟩]
  rw [e]
  have := nameW_fin s.size (gAt s) x
  cases h : nameB (oAt s (nameW s.size (gAt s) x)) with
  | false => rfl
  | true => exact absurd (oAt_name.1 h) this
 unfold nameWd at hk hS hE ⊢
 by_cases h20 : nameF s.size (gAt s) x - x ≤ 20
 · rw [if_pos h20] at hk hS hE ⊢
   simp only at hS hE ⊢
   generalize nameF s.size (gAt s) x = e at *
   have hz : nameB (oAt t (y + (e - x))) = false := by
    rcases hE with h | h
    · rw [h]; exact hfin
    · exact h
   have hw := nameW_to t (y + (e - x)) hz _ y rfl (by omega) (fun j h1 h2 => by
    have := hS.o (m := j - y) (by omega)
    rw [show y + (j - y) = j by omega] at this
    rw [this]
    exact oAt_name.2 ⟨by omega, hall _ (by omega) (by omega)⟩)
   have h0 := hS.o (m := 0) (by omega)
   have hbt : begB (oAt t y) = true := by
    rw [show y + 0 = y from rfl] at h0
    rw [h0]; exact oAt_beg.2 ⟨hx, hbeg⟩
   have hf : nameF t.size (gAt t) y = y + (e - x) := by rw [nameF_o, if_pos hbt, hw]
   rw [hf]
   refine ⟨by omega, ?_⟩
   rw [if_pos (by omega)]
   have := hS.ext
   rw [show x + (e - x) = e by omega] at this
   rw [this]
 · rw [if_neg h20] at hk; exact absurd rfl hk

theorem dig_move {s t : ByteArray} {x y : Nat} (hx : x < s.size) (hd : digB (gAt s x) = true) (hk : (digWd s x).1.kind ≠ 0)
 (hS : Same s t x y ((digWd s x).2 - x)) (hE : Ends s t (digWd s x).2 (y + ((digWd s x).2 - x))) :
 digB (oAt t y) = true ∧ digWd t y = (⟨(digWd s x).1.kind, (digWd s x).1.text, y⟩, y + ((digWd s x).2 - x)) := by
 have hb := digF_bd s.size (gAt s) x (by omega)
 have hall := digF_all s.size (gAt s) x
 have hfin : digB (oAt s (digF s.size (gAt s) x)) = false := by
  have := digF_fin s.size (gAt s) x
  cases h : digB (oAt s (digF s.size (gAt s) x)) with
  | false => rfl
  | true => exact absurd (oAt_dig.1 h) this
 have hdi : x < digF s.size (gAt s) x := by
  have e1 : digF s.size (gAt s) x = digF s.size (gAt s) (x + 1) := by rw [digF, if_pos ⟨hx, hd⟩]
  have := digF_bd s.size (gAt s) (x + 1) (by omega)
  omega
 have hex := hS.ext
 unfold digWd at hk hS hE hex ⊢
 unfold digL at hk hS hE hex ⊢
 by_cases c1 : digF s.size (gAt s) x < s.size ∧ begB (gAt s (digF s.size (gAt s) x)) = true
 · rw [if_pos c1] at hk; exact absurd rfl hk
 by_cases c2 : gAt s x = 48 ∨ 50000 < horA 0 (s.extract x (digF s.size (gAt s) x)).data.toList
 · rw [if_neg c1, if_pos c2] at hk; exact absurd rfl hk
 rw [if_neg c1, if_neg c2] at hk hS hE hex ⊢
 simp only at hS hE hex ⊢
 generalize digF s.size (gAt s) x = e at *
 have hz : digB (oAt t (y + (e - x))) = false ∧ begB (oAt t (y + (e - x))) = false := by
  rcases hE with h | h
  · rw [h]
    refine ⟨hfin, ?_⟩
    cases hq : begB (oAt s e) with
    | false => rfl
    | true => exact absurd (oAt_beg.1 hq) c1
  · exact ⟨(nameB_let h).2.1, (nameB_let h).2.2⟩
 have hw := digF_to t (y + (e - x)) hz.1 _ y rfl (by omega) (fun j h1 h2 => by
  have := hS.o (m := j - y) (by omega)
  rw [show y + (j - y) = j by omega] at this
  rw [this]
  exact oAt_dig.2 ⟨by omega, hall _ (by omega) (by omega)⟩)
 have h0 := hS.o (m := 0) (by omega)
 rw [show y + 0 = y from rfl, show x + 0 = x from rfl] at h0
 have hg0 := hS.2.2 0 (by omega)
 rw [show y + 0 = y from rfl, show x + 0 = x from rfl] at hg0
 refine ⟨by rw [h0]; exact oAt_dig.2 ⟨hx, hd⟩, ?_⟩
 rw [hw, if_neg (fun hc => by have := oAt_beg.2 hc; rw [hz.2] at this; cases this)]
 rw [show x + (e - x) = e by omega] at hex
 rw [hex, hg0, if_neg c2]
end
section
open Go.RowKit
set_option linter.unusedVariables false
theorem key_at3 (t : ByteArray) : isKeyB t = true ↔ ∃ j, j < 7 ∧ t.data.toList = keyL.getD j [] := by
 unfold isKeyB
 rw [decide_eq_true_iff]
 constructor
 · intro h
   obtain ⟨j, hj, e⟩ := List.getElem_of_mem h
   exact ⟨j, hj, by rw [List.getD_eq_getElem?_getD, List.getElem?_eq_getElem hj]; exact e.symm⟩
 · rintro ⟨j, hj, e⟩
   rw [e, List.getD_eq_getElem?_getD, List.getElem?_eq_getElem (show j < keyL.length from hj)]
   exact List.getElem_mem _

theorem overF_plain {n : Nat} {g : Nat → Int} {i : Nat} (h : g i = 123 ∨ g i = 125) : overF n g i = i := by
 unfold overF
 rw [if_neg (by omega), if_neg (by omega), if_neg (by omega), if_neg (by omega)]

theorem endF_move {s t : ByteArray} (e : Nat) : ∀ m x y d, s.size - x = m → (1 ≤ d ∨ (d = 0 ∧ gAt s x = 123)) → endF s.size (gAt s) x d = (e : Int) → Same s t x y (e - x) → endF t.size (gAt t) y d + x = y + (e : Int) := by
 intro m
 induction m using Nat.strongRecOn with
 | ind m ih =>
   intro x y d hm hd he hS
   have hx : x < s.size := by
    rcases Nat.lt_or_ge x s.size with h | h
    · exact h
    · rw [endF, if_neg (by omega)] at he; omega
   have hle := endF_le s.size (gAt s) x d (by omega)
   have hxe : x < e := by omega
   have hg := hS.2.2 0 (by omega)
   rw [Nat.add_zero, Nat.add_zero] at hg
   have hy : y < t.size := by have := hS.2.1; omega
   rw [endF, if_pos hx] at he
   rw [endF, if_pos hy]
   have hbd := overF_bd s.size (gAt s) x hx
   by_cases h1 : overF s.size (gAt s) x < 0
   · rw [if_pos h1] at he; omega
   rw [if_neg h1] at he
   obtain ⟨k, hk⟩ := Int.eq_ofNat_of_zero_le (show 0 ≤ overF s.size (gAt s) x by omega)
   by_cases h2 : (x : Int) < overF s.size (gAt s) x
   · rw [if_pos h2, hk, show ((k : Nat) : Int).toNat = k from rfl] at he
     have hks : k < s.size := by
      rcases Nat.lt_or_ge k s.size with h | h
      · exact h
      · rw [endF, if_neg (by omega)] at he; omega
     have hle2 := endF_le s.size (gAt s) k d (by omega)
     have ho := overF_alike (y := y) hx hks hk (hS.alike (by omega))
     have hd' : 1 ≤ d ∨ (d = 0 ∧ gAt s k = 123) := by
      rcases hd with h | ⟨_, h⟩
      · exact .inl h
      · rw [overF_plain (.inl h)] at h2; omega
     obtain ⟨q, hq⟩ := Int.eq_ofNat_of_zero_le (show 0 ≤ overF t.size (gAt t) y by omega)
     rw [hq, if_neg (by omega), if_pos (by omega), show ((q : Nat) : Int).toNat = q from rfl]
     have hS2 := hS.from (k := k - x) (by omega)
     rw [show x + (k - x) = k by omega, show y + (k - x) = q by omega, show e - x - (k - x) = e - k by omega] at hS2
     have := ih (s.size - k) (by omega) k q d rfl hd' he hS2
     omega
   · rw [if_neg h2] at he
     have hkx : overF s.size (gAt s) x = (x : Nat) := by omega
     have hot : overF t.size (gAt t) y = (y : Nat) := by
      by_cases h3 : e = x + 1
      · have h125 : gAt s x = 123 ∨ gAt s x = 125 := by
         by_cases h4 : deepF (gAt s) x d = 0
         · unfold deepF at h4
           rcases hd with h | ⟨h, h5⟩
           · by_cases h6 : gAt s x = 123
             · exact .inl h6
             · rw [if_neg h6] at h4
               by_cases h7 : gAt s x = 125
               · exact .inr h7
               · rw [if_neg h7] at h4; omega
           · exact .inl h5
         · rw [if_neg h4] at he
           have := endF_le s.size (gAt s) (x + 1) (deepF (gAt s) x d) (by omega)
           omega
        exact overF_plain (by rw [hg]; exact h125)
      · have := overF_alike (y := y) hx hx hkx (hS.alike (by omega))
        omega
     rw [hot, if_neg (by omega), if_neg (by omega)]
     have hdp : deepF (gAt t) y d = deepF (gAt s) x d := by unfold deepF; rw [hg]
     rw [hdp]
     by_cases h4 : deepF (gAt s) x d = 0
     · rw [if_pos h4] at he ⊢; omega
     · rw [if_neg h4] at he ⊢
       have hd' : 1 ≤ deepF (gAt s) x d := by
        unfold deepF at h4 ⊢
        rcases hd with h | ⟨h, h5⟩
        · split at h4 <;> (try split at h4) <;> simp_all <;> omega
        · rw [if_pos h5]; omega
       have hle2 := endF_le s.size (gAt s) (x + 1) (deepF (gAt s) x d) (by omega)
       have hS2 := hS.from (k := 1) (by omega)
       rw [show e - x - 1 = e - (x + 1) by omega] at hS2
       have := ih (s.size - (x + 1)) (by omega) (x + 1) (y + 1) _ rfl (.inl hd') he hS2
       omega

theorem take_move {s t : ByteArray} {x y : Nat} (hx : x < s.size) (hok : (takeS s x).2.2 = true) (hS : Same s t x y ((takeS s x).2.1.toNat - x)) :
 takeS t y = ((takeS s x).1, ((y + ((takeS s x).2.1.toNat - x) : Nat) : Int), true) := by
 have he := takeS_end s x hok
 have hy : y < t.size := by have := hS.2.1; omega
 rw [takeS_in x hx] at hok hS he ⊢
 rw [takeS_in y hy]
 unfold takeF at hok hS he ⊢
 simp only [Nat.add_zero] at hok hS he ⊢
 by_cases c1 : 3 ≤ s.size - x ∧ gAt s x = 39 ∧ plainB (gAt s (x + 1)) = true ∧ gAt s (x + 2) = 39
 · rw [if_pos c1] at hok hS he ⊢
   simp only at hS ⊢
   have e3 : ((x : Int) + 3).toNat - x = 3 := by omega
   rw [e3] at hS ⊢
   have h0 := hS.2.2 0 (by omega)
   have h1 := hS.2.2 1 (by omega)
   have h2 := hS.2.2 2 (by omega)
   have hb := hS.2.1
   rw [Nat.add_zero, Nat.add_zero] at h0
   rw [h0, h1, h2, if_pos ⟨by omega, c1.2⟩]
   rfl
 · rw [if_neg c1] at hok hS he ⊢
   by_cases c2 : 4 ≤ s.size - x ∧ gAt s x = 39 ∧ gAt s (x + 1) = 92 ∧ gAt s (x + 3) = 39 ∧ escB (gAt s (x + 2)) = true
   · rw [if_pos c2] at hok hS he ⊢
     simp only at hS ⊢
     have e3 : ((x : Int) + 4).toNat - x = 4 := by omega
     rw [e3] at hS ⊢
     have h0 := hS.2.2 0 (by omega)
     have h1 := hS.2.2 1 (by omega)
     have h2 := hS.2.2 2 (by omega)
     have h3 := hS.2.2 3 (by omega)
     have hb := hS.2.1
     rw [Nat.add_zero, Nat.add_zero] at h0
     rw [h0, h1, h2, h3, if_neg (fun hc => by rw [c2.2.2.1] at hc; exact absurd hc.2.2.1 (by decide)), if_pos ⟨by omega, c2.2⟩]
     rfl
   · rw [if_neg c2] at hok; cases hok

theorem pct_move {s t : ByteArray} {x y : Nat} (hx : x < s.size) (h37 : gAt s x = 37) (hk : (pctWd s x).1.kind ≠ 0)
 (hS : Same s t x y ((pctWd s x).2 - x)) (hE : Ends s t (pctWd s x).2 (y + ((pctWd s x).2 - x))) :
 pctWd t y = (⟨(pctWd s x).1.kind, (pctWd s x).1.text, y⟩, y + ((pctWd s x).2 - x)) := by
 have hbd := pctWd_bd s x hx hk
 have hex := hS.ext
 have hy := hS.2.1
 unfold pctWd at hk hS hE hex hy hbd ⊢
 by_cases c0 : x + 1 = s.size
 · rw [if_pos c0] at hk; exact absurd rfl hk
 rw [if_neg c0] at hk hS hE hex hy hbd ⊢
 by_cases c1 : gAt s (x + 1) = 37
 · rw [if_pos c1] at hk hS hE hex hy hbd ⊢
   simp only at hS hE hex hy ⊢
   have e2 : x + 2 - x = 2 := by omega
   rw [e2] at hS hex hy ⊢
   have h1 := hS.2.2 1 (by omega)
   rw [if_neg (by omega), if_pos (by rw [h1]; exact c1), hex]
 rw [if_neg c1] at hk hS hE hex hy hbd ⊢
 by_cases c2 : gAt s (x + 1) = 123
 · rw [if_pos c2] at hk hS hE hex hy hbd ⊢
   by_cases c3 : behW s.size (gAt s) 37 125 (x + 2) = -1
   · rw [if_pos c3] at hk; exact absurd rfl hk
   rw [if_neg c3] at hk hS hE hex hy hbd ⊢
   have hfb := findW_bd s.size (gAt s) 37 125 (x + 2)
   unfold behW at c3 hS hE hex hy hbd ⊢
   by_cases c4 : findW s.size (gAt s) 37 125 (x + 2) = -1
   · rw [if_pos c4] at c3; exact absurd rfl c3
   rw [if_neg c4] at c3 hS hE hex hy hbd ⊢
   obtain ⟨k, hkf⟩ := Int.eq_ofNat_of_zero_le (show 0 ≤ findW s.size (gAt s) 37 125 (x + 2) by omega)
   rw [hkf] at hfb c3 hS hE hex hy hbd ⊢
   simp only at hS hE hex hy ⊢
   have e2 : ((k : Int) + 2).toNat = k + 2 := by omega
   rw [e2] at hS hE hex hy ⊢
   have hS2 := hS.from (k := 2) (by omega)
   have hfm := findW_alike (a := 37) (b := 125) k _ (x + 2) (y + 2) rfl hkf (hS2.alike (by omega))
   have h1 := hS.2.2 1 (by omega)
   rw [if_neg (by omega), h1, if_neg c1, if_pos c2]
   have hft : findW t.size (gAt t) 37 125 (y + 2) = ((y + (k - x) : Nat) : Int) := by omega
   rw [hft, if_neg (show ¬ ((y + (k - x) : Nat) : Int) = -1 by omega), if_neg (by omega)]
   have hS3 := (hS.from (k := 2) (by omega)).le (k := k - (x + 2)) (by omega)
   have hex3 := hS3.ext
   rw [show x + 2 + (k - (x + 2)) = k by omega, show y + 2 + (k - (x + 2)) = y + (k - x) by omega] at hex3
   rw [show (((y + (k - x) : Nat) : Int) + 2).toNat = y + (k - x) + 2 by omega, show y + (k - x) + 2 - 2 = y + (k - x) by omega, show k + 2 - 2 = k by omega, hex3, show y + (k - x) + 2 = y + (k + 2 - x) by omega]
 · rw [if_neg c2] at hk hS hE hex hy hbd ⊢
   have hall := letF_all s.size (gAt s) (x + 1)
   have hlb := letF_bd s.size (gAt s) (x + 1) (by omega)
   have hfin : letB (oAt s (letF s.size (gAt s) (x + 1))) = false := by
    have := letF_fin s.size (gAt s) (x + 1)
    cases h : letB (oAt s (letF s.size (gAt s) (x + 1))) with
    | false => rfl
    | true => exact absurd (oAt_let.1 h) this
   by_cases c3 : isKeyB (s.extract x (letF s.size (gAt s) (x + 1))) = true
   · rw [if_pos c3] at hk hS hE hex hy hbd ⊢
     simp only at hS hE hex hy ⊢
     generalize letF s.size (gAt s) (x + 1) = e at *
     have hex2 : t.extract y (y + (e - x)) = s.extract x e := by rw [hex, show x + (e - x) = e by omega]
     have hz : letB (oAt t (y + (e - x))) = false := by
      rcases hE with h | h
      · rw [h]; exact hfin
      · exact (nameB_let h).1
     have hw := letF_to t (y + (e - x)) hz _ (y + 1) rfl (by omega) (fun j h1 h2 => by
      have := hS.o (m := j - y) (by omega)
      rw [show y + (j - y) = j by omega] at this
      rw [this]
      exact oAt_let.2 ⟨by omega, hall _ (by omega) (by omega)⟩)
     by_cases c5 : y + 1 = t.size
     · exfalso
       have hxe : e = x + 1 := by omega
       rw [hxe] at c3
       obtain ⟨j, hj, e1⟩ := (key_at3 _).1 c3
       have e2 := congrArg List.length e1
       rw [extract_len s (by omega)] at e2
       match j, hj with
       | 0, _ | 1, _ | 2, _ | 3, _ | 4, _ | 5, _ | 6, _ => simp [keyL] at e2 <;> omega
     rw [if_neg c5]
     have h1 : gAt t (y + 1) ≠ 37 ∧ gAt t (y + 1) ≠ 123 := by
      by_cases h6 : x + 1 < e
      · have := hS.2.2 1 (by omega)
        rw [this]; exact ⟨c1, c2⟩
      · exfalso
        have hxe : e = x + 1 := by omega
        rw [hxe] at c3
        obtain ⟨j, hj, e1⟩ := (key_at3 _).1 c3
        have e2 := congrArg List.length e1
        rw [extract_len s (by omega)] at e2
        match j, hj with
        | 0, _ | 1, _ | 2, _ | 3, _ | 4, _ | 5, _ | 6, _ => simp [keyL] at e2 <;> omega
     rw [if_neg h1.1, if_neg h1.2, hw, hex2, if_pos c3]
   · rw [if_neg c3] at hk; exact absurd rfl hk

theorem word_move {s t : ByteArray} {x y : Nat} (hx : x < s.size) (hk : (wordWd s x).1.kind ≠ 0)
 (hS : Same s t x y ((wordWd s x).2 - x)) (hE : Ends s t (wordWd s x).2 (y + ((wordWd s x).2 - x))) :
 wordWd t y = (⟨(wordWd s x).1.kind, (wordWd s x).1.text, y⟩, y + ((wordWd s x).2 - x)) := by
 have hbd := wordWd_bd s x hx hk
 have hy : y < t.size := by have := hS.2.1; omega
 have hg := hS.2.2 0 (by omega)
 rw [Nat.add_zero, Nat.add_zero] at hg
 have hnx := name_begins (s := s) hx
 have hny := name_begins (s := t) hy
 rw [hg] at hny
 unfold wordWd at hk hS hE ⊢
 rw [hg]
 by_cases c1 : begB (gAt s x) = true
 · rw [if_pos (hnx.2 c1)] at hk hS hE ⊢
   obtain ⟨h1, h2⟩ := name_move hx hk (hnx.2 c1) hS hE
   rw [if_pos h1, h2]
 rw [if_neg (fun hc => c1 (hnx.1 hc))] at hk hS hE ⊢
 rw [if_neg (fun hc => c1 (hny.1 hc))]
 by_cases c2 : digB (gAt s x) = true
 · rw [if_pos c2] at hk hS hE ⊢
   obtain ⟨h1, h2⟩ := dig_move hx c2 hk hS hE
   rw [if_pos c2, h2]
 rw [if_neg c2] at hk hS hE ⊢
 rw [if_neg c2]
 by_cases c3 : gAt s x = 39
 · rw [if_pos c3] at hk hS hE ⊢
   rw [if_pos c3]
   by_cases c4 : (takeS s x).2.2 = true
   · rw [if_pos c4] at hk hS hE ⊢
     have := take_move hx c4 hS
     rw [this, if_pos rfl]; rfl
   · rw [if_neg c4] at hk; exact absurd rfl hk
 rw [if_neg c3] at hk hS hE ⊢
 rw [if_neg c3]
 by_cases c5 : gAt s x = 60
 · rw [if_pos c5] at hk hS hE ⊢
   rw [if_pos c5]
   by_cases c6 : x < tagF s.size (gAt s) x
   · rw [if_pos c6] at hk hS hE ⊢
     simp only at hS hE ⊢
     have ht3 := tagF_is s x
     have htb := tagF_bd s.size (gAt s) x (by omega)
     rcases ht3 with h | ⟨_, h1, h2, h3⟩
     · omega
     have hm := tagF_alike (len := tagF s.size (gAt s) x - x - 1) (hS.alike (by omega)) (fun _ => by omega)
     have hS3 := (hS.from (k := 1) (by omega)).le (k := tagF s.size (gAt s) x - 1 - (x + 1)) (by omega)
     have hex3 := hS3.ext
     generalize tagF s.size (gAt s) x = e at *
     generalize tagF t.size (gAt t) y = f at *
     obtain rfl : f = y + (e - x) := by omega
     rw [show x + 1 + (e - 1 - (x + 1)) = e - 1 by omega, show y + 1 + (e - 1 - (x + 1)) = y + (e - x) - 1 by omega] at hex3
     rw [if_pos (by omega), hex3]
   · rw [if_neg c6] at hk; exact absurd rfl hk
 rw [if_neg c5] at hk hS hE ⊢
 rw [if_neg c5]
 by_cases c6 : gAt s x = 58 ∨ gAt s x = 59 ∨ gAt s x = 124
 · rw [if_pos c6] at hk hS hE ⊢
   rw [if_pos c6]
   simp only at hS ⊢
   rw [show x + 1 - x = 1 by omega] at hS ⊢
   rw [hS.ext]
 rw [if_neg c6] at hk hS hE ⊢
 rw [if_neg c6]
 by_cases c7 : gAt s x = 123
 · rw [if_pos c7] at hk hS hE ⊢
   rw [if_pos c7]
   by_cases c8 : (x : Int) < endS s x
   · rw [if_pos c8] at hk hS hE ⊢
     simp only at hS hE ⊢
     obtain ⟨e, he⟩ := Int.eq_ofNat_of_zero_le (show 0 ≤ endS s x by omega)
     have hes : endS s x = endF s.size (gAt s) x 0 := by unfold endS; exact if_pos ⟨by omega, by omega, c7⟩
     have het : endS t y = endF t.size (gAt t) y 0 := by unfold endS; exact if_pos ⟨by omega, by omega, by rw [← c7]; exact hg⟩
     have heb := endS_bd s x (by omega)
     rw [he] at hS hE c8 heb ⊢
     simp only [Int.toNat_natCast] at hS hE ⊢
     have hm := endF_move e _ x y 0 rfl (.inr ⟨rfl, c7⟩) (hes.symm.trans he) hS
     have hex := hS.ext
     rw [show x + (e - x) = e by omega] at hex
     have hty : endS t y = ((y + (e - x) : Nat) : Int) := by rw [het]; omega
     rw [hty, if_pos (by omega)]
     simp only [Int.toNat_natCast]
     rw [hex]
   · rw [if_neg c8] at hk; exact absurd rfl hk
 rw [if_neg c7] at hk hS hE ⊢
 rw [if_neg c7]
 by_cases c8 : gAt s x = 37
 · rw [if_pos c8] at hk hS hE ⊢
   rw [if_pos c8]
   exact pct_move hx c8 hk hS hE
 · rw [if_neg c8] at hk; exact absurd rfl hk
end
end
section
section
section
open Go.RowKit
set_option linter.unusedVariables false
set_option linter.unusedSimpArgs false
end
section
open Go.RowKit
set_option linter.unusedVariables false
set_option linter.unusedSimpArgs false
theorem dec_lt' {n : Nat} (h : n < 10) : Lib.decDigits n = [UInt8.ofNat (48 + n)] := by rw [Lib.decDigits, dif_pos h]
theorem dec_ge' {n : Nat} (h : 10 ≤ n) : Lib.decDigits n = Lib.decDigits (n / 10) ++ [UInt8.ofNat (48 + n % 10)] := by rw [Lib.decDigits, dif_neg (by omega)]
theorem horA_dec : ∀ n, horA 0 (Lib.decDigits n) = n := by
 intro n
 induction n using Nat.strongRecOn with
 | ind n ih =>
   by_cases h : n < 10
   · rw [dec_lt' h]
     show horA 0 [UInt8.ofNat (48 + n)] = n
     rw [horA_cons]
     show 0 * 10 + ((UInt8.ofNat (48 + n)).toNat - 48) = n
     rw [UInt8.toNat_ofNat']; omega
   · rw [dec_ge' (by omega), horA_snoc, ih (n / 10) (by omega), UInt8.toNat_ofNat']
     omega
theorem dec_ne (n : Nat) : Lib.decDigits n ≠ [] := fun h => by
 by_cases h1 : n < 10
 · rw [dec_lt' h1] at h; cases h
 · rw [dec_ge' (by omega)] at h; simp at h
theorem dec_head : ∀ n, 1 ≤ n → ((Lib.decDigits n).getD 0 0).toNat ≠ 48 := by
 intro n
 induction n using Nat.strongRecOn with
 | ind n ih =>
   intro hn
   by_cases h : n < 10
   · rw [dec_lt' h]
     show (UInt8.ofNat (48 + n)).toNat ≠ 48
     rw [UInt8.toNat_ofNat']; omega
   · rw [dec_ge' (by omega)]
     have := ih (n / 10) (by omega) (by omega)
     cases hl : Lib.decDigits (n / 10) with
     | nil => exact absurd hl (dec_ne _)
     | cons c r => rw [hl] at this; exact this

end
section
open Go.RowKit
set_option linter.unusedVariables false
set_option linter.unusedSimpArgs false
end
end
section
open Go.RowKit
set_option linter.unusedVariables false
set_option linter.unusedSimpArgs false
/-- a text, then a line's end -/
structure Ahead (A T : ByteArray) : Prop where
 big : A.size < T.size
 eq : ∀ j, j < A.size → gAt T j = gAt A j
 nl : gAt T A.size = 10

theorem Ahead.o {A T : ByteArray} (h : Ahead A T) {j : Nat} (hj : j < A.size) : oAt T j = oAt A j := by
 have := h.big
 rw [oAt_lt (by omega), oAt_lt hj, h.eq j hj]
theorem mark_word {T : ByteArray} {i : Nat} (h : i + 1 < T.size) (h0 : gAt T i = 37) (h1 : gAt T (i + 1) = 37) : wordWd T i = (⟨7, T.extract i (i + 2), i⟩, i + 2) := by
 unfold wordWd pctWd
 rw [if_neg (fun hc => by have := (name_begins (s := T) (by omega)).1 hc; rw [h0] at this; exact absurd this (by decide)), h0]
 rw [if_neg (by decide), if_neg (by decide), if_neg (by decide), if_neg (by decide), if_neg (by decide), if_pos rfl, if_neg (by omega), if_pos h1]
end
section
open Go.RowKit
set_option linter.unusedVariables false
set_option linter.unusedSimpArgs false
theorem gAt_app (a b : ByteArray) (j : Nat) : gAt (a ++ b) j = if j < a.size then gAt a j else gAt b (j - a.size) := by
 have ha : a.data.toList.length = a.size := rfl
 unfold gAt
 rw [ByteArray.data_append, Array.toList_append, List.getD_eq_getElem?_getD]
 by_cases h : j < a.size
 · rw [if_pos h, List.getElem?_append_left (by omega), List.getD_eq_getElem?_getD]
 · rw [if_neg h, List.getElem?_append_right (by omega), List.getD_eq_getElem?_getD, ha]
end
section
open Go.RowKit
set_option linter.unusedVariables false
set_option linter.unusedSimpArgs false
theorem word_no {s : ByteArray} {b : Nat} {c : Int} (hb : b < s.size) (h : gAt s b = c) (h1 : begB c = false) (h2 : digB c = false) (h3 : c ≠ 39 ∧ c ≠ 60 ∧ c ≠ 58 ∧ c ≠ 59 ∧ c ≠ 124 ∧ c ≠ 123 ∧ c ≠ 37) : wordWd s b = (noWd, b) := by
 unfold wordWd
 rw [if_neg (fun hc => by have := (name_begins (s := s) hb).1 hc; rw [h, h1] at this; cases this), h, h2, if_neg (by simp), if_neg h3.1, if_neg h3.2.1, if_neg (by omega), if_neg h3.2.2.2.2.2.1, if_neg h3.2.2.2.2.2.2]
theorem word_first {s : ByteArray} {b : Nat} (hb : b < s.size) (hk : (wordWd s b).1.kind ≠ 0) : gAt s b ≠ 47 ∧ blankB (gAt s b) = false := by
 refine ⟨fun h => hk ?_, ?_⟩
 · rw [word_no hb h (by decide) (by decide) (by decide)]; rfl
 · cases hbl : blankB (gAt s b) with
   | false => rfl
   | true =>
     exfalso
     apply hk
     unfold blankB at hbl
     simp at hbl
     rcases hbl with h | h | h | h
     all_goals rw [word_no hb h (by decide) (by decide) (by decide)]; rfl

theorem esc_quote {l : Int} (h : escB l = true) : quoteL (escC l) = [39, 92, l, 39] ∧ 0 ≤ escC l ∧ escC l ≤ 255 ∧ 0 ≤ l ∧ l ≤ 255 := by
 unfold escB at h
 simp at h
 rcases h with rfl | rfl | rfl | rfl | rfl
 all_goals exact ⟨by decide, by decide, by decide, by decide, by decide⟩
theorem gAt_byte (c : Int) (h0 : 0 ≤ c) (h1 : c ≤ 255) : gAt (bytesOf [c]) 0 = c := by
 unfold gAt bytesOf
 simp
 omega
end
section
open Go.RowKit
set_option linter.unusedVariables false
set_option linter.unusedSimpArgs false
def seps : List ByteArray := [⟨#[32]⟩, ⟨#[10]⟩, ⟨#[47, 42, 32, 37, 37, 32, 42, 47]⟩, ⟨#[47, 47, 32, 120, 10]⟩, ⟨#[9, 13]⟩]
theorem gap_blank {t : ByteArray} {i : Nat} (h : blankB (gAt t i) = true) : gapF t.size (gAt t) i = ((i + 1 : Nat) : Int) := by
 unfold gapF; rw [if_pos h]; omega

theorem sep_skip {t p : ByteArray} (hp : p ∈ seps) {i : Nat} (hS : Same p t 0 i p.size) : ∀ m L, wordsF t i m L = wordsF t (i + p.size) m L := by
 intro m L
 have hb := hS.2.1
 have hg := hS.2.2
 simp only [Nat.zero_add] at hg
 unfold seps at hp
 simp only [List.mem_cons, List.not_mem_nil, or_false] at hp
 rcases hp with rfl | rfl | rfl | rfl | rfl
 · have h0 := hg 0 (by decide)
   rw [Nat.add_zero, show gAt ⟨#[32]⟩ 0 = 32 by decide] at h0
   have hz : (⟨#[32]⟩ : ByteArray).size = 1 := rfl
   rw [hz] at hb ⊢
   exact words_gap (by omega) (gap_blank (by rw [h0]; decide)) (by omega)
 · have h0 := hg 0 (by decide)
   rw [Nat.add_zero, show gAt ⟨#[10]⟩ 0 = 10 by decide] at h0
   have hz : (⟨#[10]⟩ : ByteArray).size = 1 := rfl
   rw [hz] at hb ⊢
   exact words_gap (by omega) (gap_blank (by rw [h0]; decide)) (by omega)
 · have h0 := hg 0 (by decide)
   rw [Nat.add_zero, show gAt ⟨#[47, 42, 32, 37, 37, 32, 42, 47]⟩ 0 = 47 by decide] at h0
   have h1 := hg 1 (by decide)
   rw [show gAt ⟨#[47, 42, 32, 37, 37, 32, 42, 47]⟩ 1 = 42 by decide] at h1
   have hz : (⟨#[47, 42, 32, 37, 37, 32, 42, 47]⟩ : ByteArray).size = 8 := rfl
   have hf : findW (⟨#[47, 42, 32, 37, 37, 32, 42, 47]⟩ : ByteArray).size (gAt ⟨#[47, 42, 32, 37, 37, 32, 42, 47]⟩) 42 47 2 = ((6 : Nat) : Int) := by decide +kernel
   have hm := findW_alike (a := 42) (b := 47) 6 _ 2 (i + 2) rfl hf ((hS.from (k := 2) (by rw [hz]; omega)).alike (by rw [hz]; omega))
   rw [hz] at hb ⊢
   refine words_gap (by omega) ?_ (by omega)
   unfold gapF
   rw [if_neg (by rw [h0]; decide)]
   unfold remF
   rw [if_neg (fun hc => by rw [h1] at hc; exact absurd hc.2.2 (by decide)), if_pos ⟨by omega, h0, h1⟩]
   rw [if_neg (by omega)]
   omega
 · have h0 := hg 0 (by decide)
   rw [Nat.add_zero, show gAt ⟨#[47, 47, 32, 120, 10]⟩ 0 = 47 by decide] at h0
   have h1 := hg 1 (by decide)
   rw [show gAt ⟨#[47, 47, 32, 120, 10]⟩ 1 = 47 by decide] at h1
   have h4 := hg 4 (by decide)
   rw [show gAt ⟨#[47, 47, 32, 120, 10]⟩ 4 = 10 by decide] at h4
   have hz : (⟨#[47, 47, 32, 120, 10]⟩ : ByteArray).size = 5 := rfl
   have hf : findB (⟨#[47, 47, 32, 120, 10]⟩ : ByteArray).size (gAt ⟨#[47, 47, 32, 120, 10]⟩) 10 0 = ((4 : Nat) : Int) := by decide +kernel
   have hm := findB_alike (c := 10) 4 _ 0 i rfl hf (hS.alike (by rw [hz]; omega))
   rw [hz] at hb ⊢
   have hgap : gapF t.size (gAt t) i = ((i + 4 : Nat) : Int) := by
    unfold gapF
    rw [if_neg (by rw [h0]; decide)]
    unfold remF
    rw [if_pos ⟨by omega, h0, h1⟩, if_neg (by omega)]
    omega
   rw [words_gap (by omega) hgap (by omega)]
   exact words_gap (by omega) (gap_blank (by rw [h4]; decide)) (by omega)
 · have h0 := hg 0 (by decide)
   rw [Nat.add_zero, show gAt ⟨#[9, 13]⟩ 0 = 9 by decide] at h0
   have h1 := hg 1 (by decide)
   rw [show gAt ⟨#[9, 13]⟩ 1 = 13 by decide] at h1
   have hz : (⟨#[9, 13]⟩ : ByteArray).size = 2 := rfl
   rw [hz] at hb ⊢
   rw [words_gap (by omega) (gap_blank (by rw [h0]; decide)) (by omega)]
   exact words_gap (by omega) (gap_blank (by rw [h1]; decide)) (by omega)

def Rise (n : Nat) : Int → List Wd → Prop
 | _, [] => True
 | lo, w :: r => lo ≤ w.place ∧ w.place ≤ n ∧ Rise n w.place r
theorem Rise.le {n : Nat} {lo lo' : Int} {W : List Wd} (h : Rise n lo W) (hl : lo' ≤ lo) : Rise n lo' W := by
 cases W with
 | nil => trivial
 | cons w r => exact ⟨by have := h.1; omega, h.2⟩
theorem bet_none {n : Nat} {g : Nat → Int} {b : Nat} (hb : b < n) (h1 : g b ≠ 47) (h2 : blankB (g b) = false) : betF n g b = (b, true) :=
 bet_here hb (by unfold gapF; rw [if_neg (by rw [h2]; simp)]; exact remF_none h1)
end
end
end Go.Proofs.YtnoppoifepbchaaGreatDoor
