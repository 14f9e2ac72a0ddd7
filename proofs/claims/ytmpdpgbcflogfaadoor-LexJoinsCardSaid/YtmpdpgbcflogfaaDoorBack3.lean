/- A text and the text that is joined of its pieces: what is alike in both. -/
import Derived.Test.YtmpdpgbcflogfaaDoorBodyParts
namespace Go.Proofs.YtmpdpgbcflogfaaDoor
section
open Go.RowKit
set_option linter.unusedVariables false

/-- the byte at a place; -1: the text ends -/
def oAt (s : ByteArray) (i : Nat) : Int := if i < s.size then gAt s i else -1
theorem oAt_lt {s : ByteArray} {i : Nat} (h : i < s.size) : oAt s i = gAt s i := if_pos h
theorem oAt_end {s : ByteArray} {i : Nat} (h : ¬ i < s.size) : oAt s i = -1 := if_neg h
theorem oAt_is {s : ByteArray} {i : Nat} {c : Int} (hc : 0 ≤ c) : oAt s i = c ↔ i < s.size ∧ gAt s i = c := by
  unfold oAt; split <;> constructor
  · intro h1; exact ⟨by assumption, h1⟩
  · rintro ⟨_, h1⟩; exact h1
  · intro h1; omega
  · rintro ⟨h1, _⟩; omega
theorem oAt_dig {s : ByteArray} {i : Nat} : digB (oAt s i) = true ↔ i < s.size ∧ digB (gAt s i) = true := by
  unfold oAt; split
  · rename_i h; simp [h]
  · rename_i h; simp [h]; decide
theorem oAt_beg {s : ByteArray} {i : Nat} : begB (oAt s i) = true ↔ i < s.size ∧ begB (gAt s i) = true := by
  unfold oAt; split
  · rename_i h; simp [h]
  · rename_i h; simp [h]; decide

def nameB (c : Int) : Bool := begB c || digB c || decide (c = 46)
theorem nameW_o (s : ByteArray) (i : Nat) : nameW s.size (gAt s) i = if nameB (oAt s i) = true then nameW s.size (gAt s) (i + 1) else i := by
  have e1 := @oAt_dig s i
  have e2 := @oAt_beg s i
  have e3 := @oAt_is s i 46 (by omega)
  rw [nameW]
  have : (i < s.size ∧ (begB (gAt s i) = true ∨ digB (gAt s i) = true ∨ gAt s i = 46)) ↔ nameB (oAt s i) = true := by
    unfold nameB; simp only [Bool.or_eq_true, decide_eq_true_eq, e1, e2, e3]
    constructor
    · rintro ⟨h, h1 | h1 | h1⟩
      · exact .inl (.inl ⟨h, h1⟩)
      · exact .inl (.inr ⟨h, h1⟩)
      · exact .inr ⟨h, h1⟩
    · rintro ((⟨h, h1⟩ | ⟨h, h1⟩) | ⟨h, h1⟩)
      · exact ⟨h, .inl h1⟩
      · exact ⟨h, .inr (.inl h1)⟩
      · exact ⟨h, .inr (.inr h1)⟩
  by_cases h : nameB (oAt s i) = true
  · rw [if_pos h, if_pos (this.2 h)]
  · rw [if_neg h, if_neg (fun hc => h (this.1 hc))]
theorem nameF_o (s : ByteArray) (i : Nat) : nameF s.size (gAt s) i = if begB (oAt s i) = true then nameW s.size (gAt s) i else i := by
  unfold nameF
  by_cases h : begB (oAt s i) = true
  · rw [if_pos h, if_pos (oAt_beg.1 h)]
  · rw [if_neg h, if_neg (fun hc => h (oAt_beg.2 hc))]
theorem digF_o (s : ByteArray) (i : Nat) : digF s.size (gAt s) i = if digB (oAt s i) = true then digF s.size (gAt s) (i + 1) else i := by
  rw [digF]
  by_cases h : digB (oAt s i) = true
  · rw [if_pos h, if_pos (oAt_dig.1 h)]
  · rw [if_neg h, if_neg (fun hc => h (oAt_dig.2 hc))]
theorem tagF_o (s : ByteArray) (i : Nat) : tagF s.size (gAt s) i = if oAt s i = 60 ∧ i + 1 < nameF s.size (gAt s) (i + 1) ∧ nameF s.size (gAt s) (i + 1) - (i + 1) ≤ 20 ∧ oAt s (nameF s.size (gAt s) (i + 1)) = 62 then nameF s.size (gAt s) (i + 1) + 1 else i := by
  have e1 := @oAt_is s i 60 (by omega)
  have e2 := @oAt_is s (nameF s.size (gAt s) (i + 1)) 62 (by omega)
  unfold tagF
  simp only [e1, e2]
  generalize nameF s.size (gAt s) (i + 1) = e
  by_cases h : (i < s.size ∧ gAt s i = 60) ∧ i + 1 < e ∧ e - (i + 1) ≤ 20 ∧ e < s.size ∧ gAt s e = 62
  · rw [if_pos h, if_pos ⟨h.1.1, h.1.2, h.2⟩]
  · rw [if_neg h, if_neg (fun hc => h ⟨⟨hc.1, hc.2.1⟩, hc.2.2⟩)]

/-- the bytes of two texts from two places on are alike, and one more -/
def Alike (s t : ByteArray) (x y len : Nat) : Prop := ∀ m, m ≤ len → oAt t (y + m) = oAt s (x + m)
theorem Alike.le {s t : ByteArray} {x y len k : Nat} (h : Alike s t x y len) (hk : k ≤ len) : Alike s t x y k := fun m hm => h m (by omega)
theorem Alike.from {s t : ByteArray} {x y len k : Nat} (h : Alike s t x y len) (hk : k ≤ len) : Alike s t (x + k) (y + k) (len - k) := fun m hm => by
  have := h (k + m) (by omega)
  rwa [← Nat.add_assoc, ← Nat.add_assoc] at this
theorem Alike.zero {s t : ByteArray} {x y len : Nat} (h : Alike s t x y len) : oAt t y = oAt s x := h 0 (Nat.zero_le _)

theorem nameW_alike {s t : ByteArray} : ∀ len x y, Alike s t x y len → nameW s.size (gAt s) x ≤ x + len → nameW t.size (gAt t) y + x = y + nameW s.size (gAt s) x := by
  intro len
  induction len with
  | zero =>
    intro x y h hl
    rw [nameW_o s x] at hl ⊢
    rw [nameW_o t y, h.zero]
    split
    · rename_i hn
      rw [if_pos hn] at hl
      have hx : x < s.size := by
        by_cases hx : x < s.size
        · exact hx
        · rw [oAt_end hx] at hn; exact absurd hn (by decide)
      have := nameW_bd s.size (gAt s) (x + 1) (by omega)
      omega
    · omega
  | succ len ih =>
    intro x y h hl
    rw [nameW_o s x] at hl ⊢
    rw [nameW_o t y, h.zero]
    split
    · rename_i hn
      rw [if_pos hn] at hl
      have := ih (x + 1) (y + 1) (h.from (k := 1) (by omega)) (by omega)
      omega
    · omega
theorem nameF_alike {s t : ByteArray} {len x y : Nat} (h : Alike s t x y len) (hl : nameF s.size (gAt s) x ≤ x + len) : nameF t.size (gAt t) y + x = y + nameF s.size (gAt s) x := by
  rw [nameF_o s x] at hl ⊢
  rw [nameF_o t y, h.zero]
  split
  · rename_i hb
    rw [if_pos hb] at hl
    exact nameW_alike len x y h hl
  · omega
theorem digF_alike {s t : ByteArray} : ∀ len x y, Alike s t x y len → digF s.size (gAt s) x ≤ x + len → digF t.size (gAt t) y + x = y + digF s.size (gAt s) x := by
  intro len
  induction len with
  | zero =>
    intro x y h hl
    rw [digF_o s x] at hl ⊢
    rw [digF_o t y, h.zero]
    split
    · rename_i hn
      rw [if_pos hn] at hl
      have hx := oAt_dig.1 hn
      have := digF_bd s.size (gAt s) (x + 1) (by omega)
      omega
    · omega
  | succ len ih =>
    intro x y h hl
    rw [digF_o s x] at hl ⊢
    rw [digF_o t y, h.zero]
    split
    · rename_i hn
      rw [if_pos hn] at hl
      have := ih (x + 1) (y + 1) (h.from (k := 1) (by omega)) (by omega)
      omega
    · omega
theorem tagF_alike {s t : ByteArray} {len x y : Nat} (h : Alike s t x y len) (hl : oAt s x = 60 → nameF s.size (gAt s) (x + 1) ≤ x + len) : tagF t.size (gAt t) y + x = y + tagF s.size (gAt s) x := by
  rw [tagF_o s x, tagF_o t y, h.zero]
  by_cases h60 : oAt s x = 60
  · have hl' := hl h60
    have hx : x < s.size := ((oAt_is (by omega)).1 h60).1
    have hb := nameF_bd s.size (gAt s) (x + 1) (by omega)
    have h1 := nameF_alike (h.from (k := 1) (by omega)) (by omega)
    have h2 := h (nameF s.size (gAt s) (x + 1) - x) (by omega)
    rw [show x + (nameF s.size (gAt s) (x + 1) - x) = nameF s.size (gAt s) (x + 1) by omega, show y + (nameF s.size (gAt s) (x + 1) - x) = nameF t.size (gAt t) (y + 1) by omega] at h2
    rw [h2]
    generalize nameF s.size (gAt s) (x + 1) = a at *
    generalize nameF t.size (gAt t) (y + 1) = b at *
    by_cases hc : oAt s x = 60 ∧ x + 1 < a ∧ a - (x + 1) ≤ 20 ∧ oAt s a = 62
    · rw [if_pos hc, if_pos ⟨hc.1, by omega, by omega, hc.2.2.2⟩] <;> omega
    · rw [if_neg hc, if_neg (fun hd => hc ⟨hd.1, by omega, by omega, hd.2.2.2⟩)] <;> omega
  · rw [if_neg (fun hc => h60 hc.1), if_neg (fun hc => h60 hc.1)]

theorem quo_alike {s t : ByteArray} {q : Int} (k : Nat) : ∀ m x y, s.size - x = m → quo s.size (gAt s) q x = k → Alike s t x y (k - 1 - x) → quo t.size (gAt t) q y + x = y + k := by
  intro m
  induction m using Nat.strongRecOn with
  | ind m ih =>
    intro x y hm hq ha
    have hbd := quo_bd s.size (gAt s) q x
    have hb : (x : Int) < k ∧ (k : Int) ≤ s.size := by omega
    have hz := ha.zero
    rw [oAt_lt (show x < s.size by omega)] at hz
    have hg0 := gAt_lo s x
    obtain ⟨hy, hgy⟩ := (oAt_is hg0).1 hz
    rw [quo, if_pos hy, hgy]
    rw [quo, if_pos (by omega)] at hq
    by_cases h1 : gAt s x = q
    · rw [if_pos h1] at hq ⊢; omega
    · rw [if_neg h1] at hq ⊢
      by_cases h2 : gAt s x = 92
      · rw [if_pos h2] at hq ⊢
        by_cases h3 : x + 1 < s.size ∧ gAt s (x + 1) = 10
        · rw [if_pos h3] at hq; omega
        · rw [if_neg h3] at hq
          have hbd2 := quo_bd s.size (gAt s) q (x + 2)
          have h4 := ha 1 (by omega)
          rw [oAt_lt (show x + 1 < s.size by omega)] at h4
          obtain ⟨hy1, hgy1⟩ := (oAt_is (gAt_lo s (x + 1))).1 h4
          rw [if_neg (fun hc => h3 ⟨by omega, by rw [← hgy1]; exact hc.2⟩)]
          have := ih (s.size - (x + 2)) (by omega) (x + 2) (y + 2) rfl hq ((ha.from (k := 2) (by omega)).le (by omega))
          omega
      · rw [if_neg h2] at hq ⊢
        by_cases h3 : gAt s x = 10
        · rw [if_pos h3] at hq; omega
        · rw [if_neg h3] at hq ⊢
          have hbd2 := quo_bd s.size (gAt s) q (x + 1)
          have := ih (s.size - (x + 1)) (by omega) (x + 1) (y + 1) rfl hq ((ha.from (k := 1) (by omega)).le (by omega))
          omega
theorem findB_alike {s t : ByteArray} {c : Int} (k : Nat) : ∀ m x y, s.size - x = m → findB s.size (gAt s) c x = k → Alike s t x y (k - x) → findB t.size (gAt t) c y + x = y + k := by
  intro m
  induction m with
  | zero => intro x y hm hq ha; rw [findB, if_neg (by omega)] at hq; omega
  | succ m ih =>
    intro x y hm hq ha
    have hbd := findB_bd s.size (gAt s) c x
    have hz := ha.zero
    rw [oAt_lt (show x < s.size by omega)] at hz
    obtain ⟨hy, hgy⟩ := (oAt_is (gAt_lo s x)).1 hz
    rw [findB, if_pos hy, hgy]
    rw [findB, if_pos (by omega)] at hq
    by_cases h1 : gAt s x = c
    · rw [if_pos h1] at hq ⊢; omega
    · rw [if_neg h1] at hq ⊢
      have hbd2 := findB_bd s.size (gAt s) c (x + 1)
      have := ih (x + 1) (y + 1) (by omega) hq ((ha.from (k := 1) (by omega)).le (by omega))
      omega
theorem findW_alike {s t : ByteArray} {a b : Int} (k : Nat) : ∀ m x y, s.size - x = m → findW s.size (gAt s) a b x = k → Alike s t x y (k + 1 - x) → findW t.size (gAt t) a b y + x = y + k := by
  intro m
  induction m with
  | zero => intro x y hm hq ha; rw [findW, if_neg (by omega)] at hq; omega
  | succ m ih =>
    intro x y hm hq ha
    have hbd := findW_bd s.size (gAt s) a b x
    have hz := ha.zero
    rw [oAt_lt (show x < s.size by omega)] at hz
    obtain ⟨hy, hgy⟩ := (oAt_is (gAt_lo s x)).1 hz
    have h4 := ha 1 (by omega)
    rw [oAt_lt (show x + 1 < s.size by omega)] at h4
    obtain ⟨hy1, hgy1⟩ := (oAt_is (gAt_lo s (x + 1))).1 h4
    rw [findW, if_pos hy1, hgy, hgy1]
    rw [findW, if_pos (by omega)] at hq
    by_cases h1 : gAt s x = a ∧ gAt s (x + 1) = b
    · rw [if_pos h1] at hq ⊢; omega
    · rw [if_neg h1] at hq ⊢
      have hbd2 := findW_bd s.size (gAt s) a b (x + 1)
      have := ih (x + 1) (y + 1) (by omega) hq ((ha.from (k := 1) (by omega)).le (by omega))
      omega

theorem overF_alike {s t : ByteArray} {x y k : Nat} (hx : x < s.size) (hk : k < s.size) (ho : overF s.size (gAt s) x = k) (ha : Alike s t x y (max 1 (k - x))) : overF t.size (gAt t) y + x = y + k := by
  have hz := ha.zero
  rw [oAt_lt hx] at hz
  obtain ⟨hy, hgy⟩ := (oAt_is (gAt_lo s x)).1 hz
  have h1 := ha 1 (by omega)
  have e47 : (y + 1 < t.size ∧ gAt t y = 47 ∧ gAt t (y + 1) = 47) ↔ (x + 1 < s.size ∧ gAt s x = 47 ∧ gAt s (x + 1) = 47) := by
    have a1 := @oAt_is t (y + 1) 47 (by omega)
    have a2 := @oAt_is s (x + 1) 47 (by omega)
    rw [h1] at a1; rw [hgy]
    constructor
    · rintro ⟨p, q, r⟩; have := a2.1 (a1.2 ⟨p, r⟩); exact ⟨this.1, q, this.2⟩
    · rintro ⟨p, q, r⟩; have := a1.1 (a2.2 ⟨p, r⟩); exact ⟨this.1, q, this.2⟩
  have e42 : (y + 1 < t.size ∧ gAt t y = 47 ∧ gAt t (y + 1) = 42) ↔ (x + 1 < s.size ∧ gAt s x = 47 ∧ gAt s (x + 1) = 42) := by
    have a1 := @oAt_is t (y + 1) 42 (by omega)
    have a2 := @oAt_is s (x + 1) 42 (by omega)
    rw [h1] at a1; rw [hgy]
    constructor
    · rintro ⟨p, q, r⟩; have := a2.1 (a1.2 ⟨p, r⟩); exact ⟨this.1, q, this.2⟩
    · rintro ⟨p, q, r⟩; have := a1.1 (a2.2 ⟨p, r⟩); exact ⟨this.1, q, this.2⟩
  unfold overF at ho ⊢
  rw [hgy] at e47 e42 ⊢
  by_cases c1 : gAt s x = 34 ∨ gAt s x = 39
  · rw [if_pos c1] at ho ⊢
    have hbd := quo_bd s.size (gAt s) (gAt s x) (x + 1)
    have := quo_alike k _ (x + 1) (y + 1) rfl ho ((ha.from (k := 1) (by omega)).le (by omega))
    omega
  · rw [if_neg c1] at ho ⊢
    by_cases c2 : gAt s x = 96
    · rw [if_pos c2] at ho ⊢
      have hbd := findB_bd s.size (gAt s) 96 (x + 1)
      by_cases c3 : findB s.size (gAt s) 96 (x + 1) = -1
      · rw [if_pos c3] at ho; omega
      · rw [if_neg c3] at ho
        have := findB_alike (c := 96) (k - 1) _ (x + 1) (y + 1) rfl (by omega) ((ha.from (k := 1) (by omega)).le (by omega))
        rw [if_neg (by omega)]; omega
    · rw [if_neg c2] at ho ⊢
      by_cases c4 : x + 1 < s.size ∧ gAt s x = 47 ∧ gAt s (x + 1) = 47
      · rw [if_pos c4] at ho; rw [if_pos (e47.2 c4)]
        have hbd := findB_bd s.size (gAt s) 10 x
        by_cases c3 : findB s.size (gAt s) 10 x = -1
        · rw [if_pos c3] at ho; omega
        · rw [if_neg c3] at ho
          have := findB_alike k _ x y rfl ho (ha.le (by omega))
          rw [if_neg (by omega)]; omega
      · rw [if_neg c4] at ho; rw [if_neg (fun hc => c4 (e47.1 hc))]
        by_cases c5 : x + 1 < s.size ∧ gAt s x = 47 ∧ gAt s (x + 1) = 42
        · rw [if_pos c5] at ho; rw [if_pos (e42.2 c5)]
          have hbd := findW_bd s.size (gAt s) 42 47 (x + 2)
          by_cases c3 : findW s.size (gAt s) 42 47 (x + 2) = -1
          · rw [if_pos c3] at ho; omega
          · rw [if_neg c3] at ho
            have := findW_alike (a := 42) (b := 47) (k - 2) _ (x + 2) (y + 2) rfl (by omega) ((ha.from (k := 2) (by omega)).le (by omega))
            rw [if_neg (by omega)]; omega
        · rw [if_neg c5] at ho; rw [if_neg (fun hc => c5 (e42.1 hc))]; omega
end

section
open Go.RowKit
set_option linter.unusedVariables false

def stepF (s : ByteArray) (i : Nat) : Nat :=
  if gAt s i = 36 then (if (pieceF s s.size (gAt s) i).1.kind = 0 then i + 1 else (pieceF s s.size (gAt s) i).2) else nextF s.size (gAt s) i
def outF (s : ByteArray) (i : Nat) : List UInt8 :=
  if gAt s i = 36 ∧ (pieceF s s.size (gAt s) i).1.kind ≠ 0 then (textP (pieceF s s.size (gAt s) i).1).data.toList else (s.extract i (stepF s i)).data.toList
theorem stepF_bd (s : ByteArray) (i : Nat) (hi : i < s.size) : i < stepF s i ∧ stepF s i ≤ s.size := by
  unfold stepF
  split
  · split
    · omega
    · rename_i h; exact pieceF_bd s s.size (gAt s) i hi h
  · exact nextF_bd s.size (gAt s) i hi
def normF (s : ByteArray) (i : Nat) : List UInt8 :=
  if h : i < s.size then outF s i ++ normF s (stepF s i) else []
  termination_by s.size - i
  decreasing_by have := stepF_bd s i h; omega

theorem extract_cat (s : ByteArray) {a b c : Nat} (h1 : a ≤ b) (h2 : b ≤ c) : (s.extract a c).data.toList = (s.extract a b).data.toList ++ (s.extract b c).data.toList := by
  rw [Lib.extract_data, Lib.extract_data, Lib.extract_data]
  have e : (s.data.toList.drop b) = (s.data.toList.drop a).drop (b - a) := by rw [List.drop_drop]; congr 1; omega
  rw [e, show c - a = (b - a) + (c - b) by omega, List.take_add]
theorem extract_len (s : ByteArray) {a b : Nat} (h : b ≤ s.size) : (s.extract a b).data.toList.length = b - a := by
  show (s.extract a b).size = _
  rw [ByteArray.size_extract]; omega
theorem extract_self (s : ByteArray) (a : Nat) : (s.extract a a).data.toList = [] := by
  rw [Lib.extract_data]; simp
theorem joinL_txtL (x : ByteArray) : joinL (txtL x) = x.data.toList := by
  unfold txtL; split
  · rename_i h
    exact (List.eq_nil_of_length_eq_zero (show x.data.toList.length = 0 from h)).symm
  · show joinL [_] = _
    unfold joinL textP; simp
theorem joinL_app (L M : List Pc) : joinL (L ++ M) = joinL L ++ joinL M := by unfold joinL; rw [List.flatMap_append]
theorem joinL_cons (p : Pc) (M : List Pc) : joinL (p :: M) = (textP p).data.toList ++ joinL M := by unfold joinL; rw [List.flatMap_cons]

theorem join_cut (s : ByteArray) : ∀ m f i, s.size - i = m → f ≤ i → i ≤ s.size → joinL (cutF s s.size (gAt s) f i) = (s.extract f i).data.toList ++ normF s i := by
  intro m
  induction m using Nat.strongRecOn with
  | ind m ih =>
    intro f i hm hf hi
    by_cases hlt : i < s.size
    · have hb := stepF_bd s i hlt
      rw [normF, dif_pos hlt]
      unfold outF
      by_cases h36 : gAt s i = 36
      · by_cases hk : (pieceF s s.size (gAt s) i).1.kind = 0
        · have e : stepF s i = i + 1 := by unfold stepF; rw [if_pos h36, if_pos hk]
          rw [cutF_zero hlt h36 hk, if_neg (fun hc => hc.2 hk), ih (s.size - (i + 1)) (by omega) f (i + 1) rfl (by omega) (by omega), e, extract_cat s hf (show i ≤ i + 1 by omega), List.append_assoc]
        · have e : stepF s i = (pieceF s s.size (gAt s) i).2 := by unfold stepF; rw [if_pos h36, if_neg hk]
          rw [e] at hb ⊢
          rw [cutF_piece hlt h36 hk, if_pos ⟨h36, hk⟩, joinL_app, joinL_cons, joinL_txtL, ih (s.size - (pieceF s s.size (gAt s) i).2) (by omega) _ _ rfl (Nat.le_refl _) hb.2, extract_self, List.nil_append]
      · have e : stepF s i = nextF s.size (gAt s) i := by unfold stepF; rw [if_neg h36]
        rw [e] at hb
        rw [cutF_skip hlt h36, if_neg (fun hc => h36 hc.1), e, ih (s.size - nextF s.size (gAt s) i) (by omega) f _ rfl (by omega) hb.2, extract_cat s hf (show i ≤ nextF s.size (gAt s) i by omega), List.append_assoc]
    · rw [cutF_end hlt, joinL_txtL, normF, dif_neg hlt, List.append_nil, show i = s.size by omega]

/-- what a text tells whose rest is known -/
theorem drop_at {t : ByteArray} {y : Nat} {A R : List UInt8} (hd : t.data.toList.drop y = A ++ R) (hy : y ≤ t.size) :
    y + A.length ≤ t.size ∧ t.data.toList.drop (y + A.length) = R ∧ ∀ m, m < A.length → gAt t (y + m) = ((A.getD m 0).toNat : Int) := by
  have hs : t.data.toList.length = t.size := rfl
  have hl := congrArg List.length hd
  rw [List.length_drop, List.length_append] at hl
  refine ⟨by omega, ?_, fun m hm => ?_⟩
  · rw [← List.drop_drop, hd, List.drop_left]
  · unfold gAt
    have : t.data.toList.getD (y + m) 0 = (A ++ R).getD m 0 := by
      rw [← hd, List.getD_eq_getElem?_getD, List.getD_eq_getElem?_getD, List.getElem?_drop]
    rw [this, List.getD_eq_getElem?_getD, List.getD_eq_getElem?_getD, List.getElem?_append_left hm]
theorem extract_getD (s : ByteArray) {x e m : Nat} (he : e ≤ s.size) (hm : x + m < e) : ((((s.extract x e).data.toList).getD m 0).toNat : Int) = gAt s (x + m) := gAt_sub s x e m he hm
theorem drop_extract {s t : ByteArray} {x e y : Nat} {R : List UInt8} (hd : t.data.toList.drop y = (s.extract x e).data.toList ++ R) (hx : x ≤ e) (he : e ≤ s.size) (hy : y ≤ t.size) :
    y + (e - x) ≤ t.size ∧ t.data.toList.drop (y + (e - x)) = R ∧ ∀ m, m < e - x → gAt t (y + m) = gAt s (x + m) := by
  obtain ⟨h1, h2, h3⟩ := drop_at hd hy
  rw [extract_len s he] at h1 h2 h3
  exact ⟨h1, h2, fun m hm => (h3 m hm).trans (extract_getD s he (by omega))⟩
theorem textP_head {p : Pc} (h : p.kind = 2 ∨ p.kind = 3) : ∃ r, (textP p).data.toList = 36 :: r := by
  unfold textP
  rw [if_neg (by omega)]
  split <;> exact ⟨_, rfl⟩
theorem pieceF_kind (s : ByteArray) (n : Nat) (g : Nat → Int) (i : Nat) : (pieceF s n g i).1.kind = 0 ∨ (pieceF s n g i).1.kind = 2 ∨ (pieceF s n g i).1.kind = 3 := by
  rw [pieceF_eq]; split
  · exact .inr (.inl rfl)
  · split
    · exact .inl rfl
    · exact .inr (.inr rfl)
theorem outF_head (s : ByteArray) (i : Nat) (hi : i < s.size) : ∃ c r, outF s i = c :: r ∧ (c.toNat : Int) = gAt s i := by
  unfold outF
  split
  · rename_i h
    have := pieceF_kind s s.size (gAt s) i
    obtain ⟨r, hr⟩ := textP_head (p := (pieceF s s.size (gAt s) i).1) (by have := h.2; omega)
    exact ⟨36, r, hr, by rw [h.1]; rfl⟩
  · have hb := stepF_bd s i hi
    have hl := extract_len s (a := i) hb.2
    have hg := extract_getD s (x := i) (m := 0) hb.2 (by omega)
    match h : (s.extract i (stepF s i)).data.toList with
    | [] => rw [h] at hl; simp at hl; omega
    | c :: r =>
      rw [h] at hg
      exact ⟨c, r, rfl, hg⟩
theorem head_norm {s t : ByteArray} {y e : Nat} (hd : t.data.toList.drop y = normF s e) (hy : y ≤ t.size) (he : e ≤ s.size) : oAt t y = oAt s e ∧ (e < s.size ↔ y < t.size) := by
  have hs : t.data.toList.length = t.size := rfl
  by_cases hlt : e < s.size
  · rw [normF, dif_pos hlt] at hd
    obtain ⟨c, r, h1, h2⟩ := outF_head s e hlt
    rw [h1] at hd
    have hl := congrArg List.length hd
    simp at hl
    have hyt : y < t.size := by omega
    rw [oAt_lt hlt, oAt_lt hyt]
    have h3 := (drop_at (A := c :: r) (R := normF s (stepF s e)) hd hy).2.2 0 (by simp)
    exact ⟨h3.trans h2, by constructor <;> intro _ <;> assumption⟩
  · rw [normF, dif_neg hlt] at hd
    have hl := congrArg List.length hd
    simp at hl
    rw [oAt_end hlt, oAt_end (show ¬ y < t.size by omega)]
    exact ⟨rfl, by omega⟩

/-- a run of bytes at which nothing happens -/
theorem norm_run (s : ByteArray) (e : Nat) (he : e ≤ s.size) : ∀ m x, e - x = m → x ≤ e → (∀ j, x ≤ j → j < e → PlainAt (gAt s) j ∧ gAt s j ≠ 36) → normF s x = (s.extract x e).data.toList ++ normF s e := by
  intro m
  induction m with
  | zero => intro x h1 h2 _; rw [show x = e by omega, extract_self, List.nil_append]
  | succ m ih =>
    intro x h1 h2 h
    obtain ⟨hp, h3⟩ := h x (Nat.le_refl _) (by omega)
    have es : stepF s x = x + 1 := by unfold stepF; rw [if_neg h3, nextF_plain hp]
    rw [normF, dif_pos (by omega), es, ih (x + 1) (by omega) (by omega) (fun j hj hj2 => h j (by omega) hj2)]
    unfold outF
    rw [if_neg (fun hc => h3 hc.1), es, extract_cat s (show x ≤ x + 1 by omega) (show x + 1 ≤ e by omega), List.append_assoc]
theorem alike_of {s t : ByteArray} {x e y : Nat} (hd : t.data.toList.drop y = (s.extract x e).data.toList ++ normF s e) (hx : x ≤ e) (he : e ≤ s.size) (hy : y ≤ t.size) : Alike s t x y (e - x) := by
  obtain ⟨h1, h2, h3⟩ := drop_extract hd hx he hy
  intro m hm
  by_cases hlt : m < e - x
  · rw [oAt_lt (show y + m < t.size by omega), oAt_lt (show x + m < s.size by omega), h3 m hlt]
  · obtain rfl : m = e - x := by omega
    rw [(head_norm h2 h1 he).1, show x + (e - x) = e by omega]
theorem alike_run {s t : ByteArray} {x y e : Nat} (hd : t.data.toList.drop y = normF s x) (hx : x ≤ e) (he : e ≤ s.size) (hy : y ≤ t.size) (h : ∀ j, x ≤ j → j < e → PlainAt (gAt s) j ∧ gAt s j ≠ 36) : Alike s t x y (e - x) :=
  alike_of (by rw [hd, norm_run s e he _ x rfl hx h]) hx he hy

theorem nameW_all (n : Nat) (g : Nat → Int) (i : Nat) : ∀ j, i ≤ j → j < nameW n g i → nameB (g j) = true := by
  fun_induction nameW n g i with
  | case1 i h ih =>
    intro j h1 h2
    by_cases e : j = i
    · subst e
      unfold nameB
      rcases h.2 with h | h | h
      · simp [h]
      · simp [h]
      · simp [h]
    · exact ih j (by omega) h2
  | case2 i h => intro j h1 h2; omega
theorem nameF_all (n : Nat) (g : Nat → Int) (i : Nat) : ∀ j, i ≤ j → j < nameF n g i → nameB (g j) = true := by
  unfold nameF; split
  · exact nameW_all n g i
  · intro j h1 h2; omega
theorem nameB_flat {c : Int} (h : nameB c = true) : 46 ≤ c ∧ c ≠ 47 ∧ c ≠ 96 ∧ c < 123 := by
  unfold nameB begB digB at h
  simp at h
  omega
theorem digB_flat {c : Int} (h : digB c = true) : 48 ≤ c ∧ c ≤ 57 := by unfold digB at h; simpa using h
/-- the bytes of a tag -/
theorem tagF_all (n : Nat) (g : Nat → Int) (i : Nat) : ∀ j, i ≤ j → j < tagF n g i → 46 ≤ g j ∧ g j ≠ 47 ∧ g j ≠ 96 ∧ g j < 123 := by
  unfold tagF; split
  · rename_i h
    intro j h1 h2
    by_cases e1 : j = i
    · subst e1; omega
    · by_cases e2 : j = nameF n g (i + 1)
      · rw [e2]; omega
      · exact nameB_flat (nameF_all n g (i + 1) j (by omega) (by omega))
  · intro j h1 h2; omega

/-- tag and number behind a dollar -/
theorem after_loc {s t : ByteArray} {x y : Nat} (hd : t.data.toList.drop y = normF s x) (hx : x ≤ s.size) (hy : y ≤ t.size) :
    tagF t.size (gAt t) y + x = y + tagF s.size (gAt s) x ∧ digF t.size (gAt t) (tagF t.size (gAt t) y) + x = y + digF s.size (gAt s) (tagF s.size (gAt s) x) ∧
      oAt t (tagF t.size (gAt t) y) = oAt s (tagF s.size (gAt s) x) := by
  have htb := tagF_bd s.size (gAt s) x hx
  have hdb := digF_bd s.size (gAt s) (tagF s.size (gAt s) x) htb.2
  have hta := tagF_all s.size (gAt s) x
  have hda := digF_all s.size (gAt s) (tagF s.size (gAt s) x)
  -- all bytes of tag and digits are alike
  have ha := alike_run (e := digF s.size (gAt s) (tagF s.size (gAt s) x)) hd (by omega) hdb.2 hy (fun j h1 h2 => by
    unfold PlainAt
    by_cases h : j < tagF s.size (gAt s) x
    · have := hta j h1 h; omega
    · have := digB_flat (hda j (by omega) h2); omega)
  have e1 : tagF t.size (gAt t) y + x = y + tagF s.size (gAt s) x := by
    by_cases h60 : oAt s x = 60
    · have hx' := (oAt_is (by omega)).1 h60
      have hnb := nameF_bd s.size (gAt s) (x + 1) (by omega)
      have ha2 := alike_run (e := nameF s.size (gAt s) (x + 1)) hd (by omega) hnb.2 hy (fun j h1 h2 => by
        unfold PlainAt
        by_cases h : j = x
        · subst h; omega
        · have := nameB_flat (nameF_all s.size (gAt s) (x + 1) j (by omega) h2); omega)
      exact tagF_alike ha2 (fun _ => by omega)
    · exact tagF_alike (ha.le (Nat.zero_le _)) (fun h => absurd h h60)
  have ha3 := ha.from (k := tagF s.size (gAt s) x - x) (by omega)
  rw [show x + (tagF s.size (gAt s) x - x) = tagF s.size (gAt s) x by omega, show y + (tagF s.size (gAt s) x - x) = tagF t.size (gAt t) y by omega] at ha3
  have e2 := digF_alike _ _ _ ha3 (by omega)
  exact ⟨e1, by omega, ha3.zero⟩
end

section
open Go.RowKit
set_option linter.unusedVariables false

theorem tooF_step {n : Nat} {g : Nat → Int} {i : Nat} (hi : i < n) (h : tooF n g i = false) : (g i = 36 → digF n g (tagF n g (i + 1)) - tagF n g (i + 1) ≤ 3) ∧ tooF n g (nextF n g i) = false := by
  rw [tooF, if_pos hi] at h
  by_cases hc : g i = 36 ∧ 3 < digF n g (tagF n g (i + 1)) - tagF n g (i + 1)
  · rw [if_pos hc] at h; cases h
  · rw [if_neg hc] at h
    exact ⟨fun h36 => by omega, h⟩
theorem tooF_go {n : Nat} {g : Nat → Int} (e : Nat) (he : e ≤ n) : ∀ m i, e - i = m → i ≤ e → (∀ j, i ≤ j → j < e → PlainAt g j) → tooF n g i = false →
    tooF n g e = false ∧ ∀ j, i ≤ j → j < e → g j = 36 → digF n g (tagF n g (j + 1)) - tagF n g (j + 1) ≤ 3 := by
  intro m
  induction m with
  | zero => intro i h1 h2 _ h; rw [show i = e by omega] at h; exact ⟨h, fun j _ _ => by omega⟩
  | succ m ih =>
    intro i h1 h2 hp h
    obtain ⟨a1, a2⟩ := tooF_step (by omega) h
    rw [nextF_plain (hp i (Nat.le_refl _) (by omega))] at a2
    obtain ⟨b1, b2⟩ := ih (i + 1) (by omega) (by omega) (fun j h1 h2 => hp j (by omega) h2) a2
    refine ⟨b1, fun j h1 h2 h3 => ?_⟩
    by_cases hj : j = i
    · subst hj; exact a1 h3
    · exact b2 j (by omega) h2 h3
theorem digF_fin (n : Nat) (g : Nat → Int) (i : Nat) : ¬ (digF n g i < n ∧ digB (g (digF n g i)) = true) := by
  fun_induction digF n g i with
  | case1 i h ih => exact ih
  | case2 i h => exact h

theorem extract_one (s : ByteArray) (i : Nat) (c : UInt8) (hi : i < s.size) (h : gAt s i = (c.toNat : Int)) : (s.extract i (i + 1)).data.toList = [c] := by
  have hl := extract_len s (a := i) (b := i + 1) (by omega)
  have hg := extract_getD s (x := i) (e := i + 1) (m := 0) (by omega) (by omega)
  match hm : (s.extract i (i + 1)).data.toList with
  | [] => rw [hm] at hl; simp at hl
  | [d] =>
    rw [hm] at hg
    have : d = c := UInt8.toNat_inj.1 (by have : (d.toNat : Int) = gAt s i := hg; omega)
    rw [this]
  | d :: e :: r => rw [hm] at hl; simp at hl

theorem tagF_is (s : ByteArray) (i : Nat) : tagF s.size (gAt s) i = i ∨ (oAt s i = 60 ∧ i + 3 ≤ tagF s.size (gAt s) i ∧ nameF s.size (gAt s) (i + 1) + 1 = tagF s.size (gAt s) i ∧ gAt s (tagF s.size (gAt s) i - 1) = 62) := by
  rw [tagF_o]; split
  · rename_i h
    have := (oAt_is (by omega)).1 h.2.2.2
    exact .inr ⟨h.1, by omega, rfl, this.2⟩
  · exact .inl rfl

theorem tag_text (s : ByteArray) (i : Nat) (hi : i < s.size) (h36 : gAt s i = 36) : (s.extract i (tagF s.size (gAt s) (i + 1))).data.toList = 36 :: (tagB (tagT s i (tagF s.size (gAt s) (i + 1)))).data.toList := by
  have hb := tagF_bd s.size (gAt s) (i + 1) (by omega)
  have h1 := extract_one s i 36 hi (by rw [h36]; rfl)
  rcases tagF_is s (i + 1) with h | ⟨h, h3, h4, h5⟩
  · rw [h, h1]
    unfold tagT
    rw [if_neg (by omega)]
    unfold tagB
    rw [if_pos (by decide)]; rfl
  · generalize tagF s.size (gAt s) (i + 1) = b at *
    have hx := (oAt_is (by omega)).1 h
    have h2 := extract_one s (i + 1) 60 hx.1 (by rw [hx.2]; rfl)
    have h6 := extract_one s (b - 1) 62 (by omega) (by rw [h5]; rfl)
    rw [show b - 1 + 1 = b by omega] at h6
    rw [extract_cat s (show i ≤ i + 1 by omega) (show i + 1 ≤ b by omega), h1, extract_cat s (show i + 1 ≤ i + 1 + 1 by omega) (show i + 1 + 1 ≤ b by omega), h2,
      extract_cat s (show i + 1 + 1 ≤ b - 1 by omega) (show b - 1 ≤ b by omega), h6]
    unfold tagT
    rw [if_pos (by omega)]
    unfold tagB
    rw [if_neg (by rw [ByteArray.size_extract]; omega), ByteArray.data_append, ByteArray.data_append, Array.toList_append, Array.toList_append]
    rfl

theorem pieceF_two (s : ByteArray) (i : Nat) (h : oAt s (tagF s.size (gAt s) (i + 1)) = 36) : pieceF s s.size (gAt s) i = (⟨2, ByteArray.empty, 0, tagT s i (tagF s.size (gAt s) (i + 1))⟩, tagF s.size (gAt s) (i + 1) + 1) := by
  rw [pieceF_eq, if_pos ((oAt_is (by omega)).1 h)]
theorem pieceF_zero (s : ByteArray) (i : Nat) : (pieceF s s.size (gAt s) i).1.kind = 0 ↔ oAt s (tagF s.size (gAt s) (i + 1)) ≠ 36 ∧ digF s.size (gAt s) (tagF s.size (gAt s) (i + 1)) = tagF s.size (gAt s) (i + 1) := by
  have h := @oAt_is s (tagF s.size (gAt s) (i + 1)) 36 (by omega)
  rw [pieceF_eq]
  split
  · rename_i h2
    exact ⟨fun hc => absurd hc (show ¬ (2 : Int) = 0 by omega), fun hc => absurd (h.2 h2) hc.1⟩
  · rename_i h2
    split
    · rename_i h3; exact ⟨fun _ => ⟨fun hc => h2 (h.1 hc), h3⟩, fun _ => rfl⟩
    · rename_i h3; exact ⟨fun hc => absurd hc (show ¬ (3 : Int) = 0 by omega), fun hc => absurd hc.2 h3⟩
theorem pieceF_three (s : ByteArray) (i : Nat) (h : oAt s (tagF s.size (gAt s) (i + 1)) ≠ 36) (h2 : digF s.size (gAt s) (tagF s.size (gAt s) (i + 1)) ≠ tagF s.size (gAt s) (i + 1)) :
    pieceF s s.size (gAt s) i = (⟨3, ByteArray.empty, numW (gAt s) (tagF s.size (gAt s) (i + 1)) (digF s.size (gAt s) (tagF s.size (gAt s) (i + 1)) - tagF s.size (gAt s) (i + 1)), tagT s i (tagF s.size (gAt s) (i + 1))⟩, digF s.size (gAt s) (tagF s.size (gAt s) (i + 1))) := by
  rw [pieceF_eq, if_neg (fun hc => h ((oAt_is (by omega)).2 hc)), if_neg h2]

theorem num_of (s : ByteArray) (b : Nat) (hb : b ≤ s.size) (h3 : digF s.size (gAt s) b - b ≤ 3) :
    ∃ N : Nat, N < 1000 ∧ numW (gAt s) b (digF s.size (gAt s) b - b) = N ∧ N = hor (s.extract b (digF s.size (gAt s) b)).data.toList := by
  have hdb := digF_bd s.size (gAt s) b hb
  have hl := extract_len s (a := b) hdb.2
  have hda := digF_all s.size (gAt s) b
  generalize digF s.size (gAt s) b = e at *
  have h := numW_hor (gAt s) b (s.extract b e).data.toList (by omega) (fun j hj => by
    have := digB_flat (hda (b + j) (by omega) (by omega))
    exact ⟨this.1, this.2, (extract_getD s hdb.2 (by omega)).symm⟩) (e - b) (by omega)
  rw [show List.take (e - b) (s.extract b e).data.toList = (s.extract b e).data.toList from List.take_of_length_le (by omega)] at h
  refine ⟨_, ?_, h.1, rfl⟩
  have : 10 ^ (e - b) ≤ 1000 := by
    have : e - b = 0 ∨ e - b = 1 ∨ e - b = 2 ∨ e - b = 3 := by omega
    rcases this with h | h | h | h <;> rw [h] <;> decide
  omega

/-- a piece's text -/
theorem outF_two (s : ByteArray) (i : Nat) (hi : i < s.size) (h36 : gAt s i = 36) (h : oAt s (tagF s.size (gAt s) (i + 1)) = 36) : outF s i = (s.extract i (tagF s.size (gAt s) (i + 1) + 1)).data.toList := by
  have hb := tagF_bd s.size (gAt s) (i + 1) (by omega)
  have hx := (oAt_is (by omega)).1 h
  unfold outF
  rw [pieceF_two s i h, if_pos ⟨h36, show (2 : Int) ≠ 0 by omega⟩]
  rw [extract_cat s (show i ≤ tagF s.size (gAt s) (i + 1) by omega) (Nat.le_succ _), tag_text s i hi h36, extract_one s _ 36 hx.1 (by rw [hx.2]; rfl)]
  unfold textP
  rw [if_neg (show ¬ (2 : Int) = 1 by omega), if_pos rfl, ByteArray.data_append, ByteArray.data_append, Array.toList_append, Array.toList_append]
  rfl
theorem outF_three (s : ByteArray) (i : Nat) (hi : i < s.size) (h36 : gAt s i = 36) (h : oAt s (tagF s.size (gAt s) (i + 1)) ≠ 36) (h2 : digF s.size (gAt s) (tagF s.size (gAt s) (i + 1)) ≠ tagF s.size (gAt s) (i + 1)) :
    outF s i = (s.extract i (tagF s.size (gAt s) (i + 1))).data.toList ++ (numT (numW (gAt s) (tagF s.size (gAt s) (i + 1)) (digF s.size (gAt s) (tagF s.size (gAt s) (i + 1)) - tagF s.size (gAt s) (i + 1)))).data.toList := by
  unfold outF
  rw [pieceF_three s i h h2, if_pos ⟨h36, show (3 : Int) ≠ 0 by omega⟩, tag_text s i hi h36]
  unfold textP
  rw [if_neg (show ¬ (3 : Int) = 1 by omega), if_neg (show ¬ (3 : Int) = 2 by omega), ByteArray.data_append, ByteArray.data_append, Array.toList_append, Array.toList_append]
  rfl

def Flat (g : Nat → Int) (a e : Nat) : Prop := ∀ j, a ≤ j → j < e → PlainAt g j ∧ g j ≠ 123 ∧ g j ≠ 125

theorem piece_sim {s t : ByteArray} {i j : Nat} (hi : i < s.size) (hj : j ≤ t.size) (h36 : gAt s i = 36) (hk : (pieceF s s.size (gAt s) i).1.kind ≠ 0) (hd : t.data.toList.drop j = outF s i ++ normF s (stepF s i)) (ht : tooF s.size (gAt s) i = false) :
    ∃ e', j < e' ∧ e' ≤ t.size ∧ gAt t j = 36 ∧ (pieceF t t.size (gAt t) j).1.kind ≠ 0 ∧ (pieceF t t.size (gAt t) j).2 = e' ∧ t.data.toList.drop e' = normF s (stepF s i) ∧ Flat (gAt t) j e' ∧ Flat (gAt s) i (stepF s i) ∧ (tooF t.size (gAt t) e' = false → tooF t.size (gAt t) j = false) := by
  have hb := tagF_bd s.size (gAt s) (i + 1) (by omega)
  have hta := tagF_all s.size (gAt s) (i + 1)
  have hti := tagF_is s (i + 1)
  have htd := tooF_step hi ht
  have hpb : ∀ x, i ≤ x → x < tagF s.size (gAt s) (i + 1) → PlainAt (gAt s) x ∧ gAt s x ≠ 123 ∧ gAt s x ≠ 125 ∧ (x ≠ i → gAt s x ≠ 36) := fun x h1 h2 => by
    unfold PlainAt
    by_cases hx : x = i
    · subst hx; omega
    · have := hta x (by omega) h2; omega
  by_cases h2 : oAt s (tagF s.size (gAt s) (i + 1)) = 36
  · have hx := (oAt_is (by omega)).1 h2
    have es : stepF s i = tagF s.size (gAt s) (i + 1) + 1 := by unfold stepF; rw [if_pos h36, if_neg hk, pieceF_two s i h2]
    rw [es, outF_two s i hi h36 h2] at hd
    rw [es]
    have hgo := tooF_go (tagF s.size (gAt s) (i + 1) + 1) (by omega) _ i rfl (by omega) (fun x h1 h3 => by
      by_cases hc : x < tagF s.size (gAt s) (i + 1)
      · exact (hpb x h1 hc).1
      · obtain rfl : x = tagF s.size (gAt s) (i + 1) := by omega
        unfold PlainAt; omega) ht
    have hds := hgo.2 _ (show i ≤ tagF s.size (gAt s) (i + 1) by omega) (by omega) hx.2
    have ha := alike_of hd (by omega) (by omega) hj
    obtain ⟨c1, c2, c3⟩ := drop_extract hd (by omega) (by omega) hj
    have htt : tagF t.size (gAt t) (j + 1) + (i + 1) = j + 1 + tagF s.size (gAt s) (i + 1) := by
      refine tagF_alike (ha.from (k := 1) (by omega)) (fun h60 => ?_)
      rcases hti with h | h
      · rw [h, h60] at h2; omega
      · omega
    generalize hbb : tagF s.size (gAt s) (i + 1) = b at *
    have hbt : tagF t.size (gAt t) (j + 1) = j + (b - i) := by omega
    have hc0 := c3 0 (by omega)
    have hcb := c3 (b - i) (by omega)
    rw [show i + (b - i) = b by omega] at hcb
    have h2t : oAt t (tagF t.size (gAt t) (j + 1)) = 36 := by rw [hbt]; exact (oAt_is (by omega)).2 ⟨by omega, by omega⟩
    have hpt := pieceF_two t j h2t
    have hft : ∀ x, j ≤ x → x < j + (b + 1 - i) → PlainAt (gAt t) x ∧ gAt t x ≠ 123 ∧ gAt t x ≠ 125 ∧ (x ≠ j → x ≠ j + (b - i) → gAt t x ≠ 36) := fun x h1 h3 => by
      have := c3 (x - j) (by omega)
      rw [show j + (x - j) = x by omega] at this
      unfold PlainAt
      rw [this]
      by_cases hc : i + (x - j) < b
      · have h4 := hpb (i + (x - j)) (by omega) hc
        exact ⟨h4.1, h4.2.1, h4.2.2.1, fun h5 _ => h4.2.2.2 (by omega)⟩
      · have : i + (x - j) = b := by omega
        rw [this]; omega
    have hal := after_loc c2 (by omega) c1
    refine ⟨j + (b + 1 - i), by omega, c1, by rw [Nat.add_zero, Nat.add_zero] at hc0; omega, by rw [hpt]; exact (show (2 : Int) ≠ 0 by omega), by rw [hpt]; show _ + 1 = _; omega, c2, fun x h1 h3 => ⟨(hft x h1 h3).1, (hft x h1 h3).2.1, (hft x h1 h3).2.2.1⟩, fun x h1 h3 => ?_, fun hto => ?_⟩
    · by_cases hc : x < b
      · exact ⟨(hpb x h1 hc).1, (hpb x h1 hc).2.1, (hpb x h1 hc).2.2.1⟩
      · obtain rfl : x = b := by omega
        unfold PlainAt; omega
    · have hdg : digF t.size (gAt t) (j + (b - i)) = j + (b - i) := by
        rw [digF_o, if_neg (by rw [← hbt, h2t]; decide)]
      rw [tooF, if_pos (by omega), if_neg (by rw [hbt, hdg]; omega), nextF_plain (hft j (Nat.le_refl _) (by omega)).1]
      rw [tooF_run (j + (b - i)) (by omega) _ (j + 1) rfl (by omega) (fun x h1 h3 => ⟨(hft x (by omega) (by omega)).1, (hft x (by omega) (by omega)).2.2.2 (by omega) (by omega)⟩)]
      rw [tooF, if_pos (by omega), show j + (b - i) + 1 = j + (b + 1 - i) by omega, if_neg (by omega), nextF_plain (hft _ (by omega) (by omega)).1, show j + (b - i) + 1 = j + (b + 1 - i) by omega]
      exact hto
  · have hdz : digF s.size (gAt s) (tagF s.size (gAt s) (i + 1)) ≠ tagF s.size (gAt s) (i + 1) := fun hc => hk ((pieceF_zero s i).2 ⟨h2, hc⟩)
    have es : stepF s i = digF s.size (gAt s) (tagF s.size (gAt s) (i + 1)) := by unfold stepF; rw [if_pos h36, if_neg hk, pieceF_three s i h2 hdz]
    have hdb := digF_bd s.size (gAt s) (tagF s.size (gAt s) (i + 1)) hb.2
    obtain ⟨N, hN, hnw, _⟩ := num_of s _ hb.2 (htd.1 h36)
    rw [es, outF_three s i hi h36 h2 hdz, hnw, List.append_assoc] at hd
    rw [es]
    have hds := digF_all s.size (gAt s) (tagF s.size (gAt s) (i + 1))
    have hfin := digF_fin s.size (gAt s) (tagF s.size (gAt s) (i + 1))
    have hnz := numT_size N (by omega) (by omega)
    obtain ⟨_, hn1, hng⟩ := digsOf_num N (by omega)
    obtain ⟨c1, c2, c3⟩ := drop_extract hd (by omega) (by omega) hj
    have hnl : (numT N).data.toList.length = (numT N).size := rfl
    obtain ⟨d1, d2, d3⟩ := drop_at c2 c1
    rw [hnl] at d1 d2 d3
    have hdt : ∀ x, x < (numT N).size → 48 ≤ gAt t (j + (tagF s.size (gAt s) (i + 1) - i) + x) ∧ gAt t (j + (tagF s.size (gAt s) (i + 1) - i) + x) ≤ 57 := fun x hx => by
      rw [d3 x hx]
      exact hng x hx
    have hhd := head_norm d2 d1 hdb.2
    have htt : tagF t.size (gAt t) (j + 1) = j + (tagF s.size (gAt s) (i + 1) - i) := by
      rcases hti with h | ⟨h60, h3, h4, h5⟩
      · rw [h]
        have := hdt 0 (by omega)
        rw [h, show j + (i + 1 - i) + 0 = j + 1 by omega] at this
        rw [tagF_none (by omega)]; omega
      · have hal : Alike s t (i + 1) (j + 1) (tagF s.size (gAt s) (i + 1) - i - 2) := fun m hm => by
          have := c3 (m + 1) (by omega)
          rw [show j + (m + 1) = j + 1 + m by omega, show i + (m + 1) = i + 1 + m by omega] at this
          rw [oAt_lt (show j + 1 + m < t.size by omega), oAt_lt (show i + 1 + m < s.size by omega), this]
        have := tagF_alike hal (fun _ => by omega)
        omega
    generalize hbb : tagF s.size (gAt s) (i + 1) = b at *
    generalize digF s.size (gAt s) b = e at *
    have hc0 := c3 0 (by omega)
    rw [Nat.add_zero, Nat.add_zero] at hc0
    have hdg : digF t.size (gAt t) (j + (b - i)) = j + (b - i) + (numT N).size := by
      refine digF_stop _ d1 (fun hc => ?_) _ _ rfl (by omega) (fun x h1 h3 => ?_)
      · have h1 := oAt_dig.2 hc
        rw [hhd.1] at h1
        exact hfin (oAt_dig.1 h1)
      · have := hdt (x - (j + (b - i))) (by omega)
        rw [show j + (b - i) + (x - (j + (b - i))) = x by omega] at this
        unfold digB; simpa using this
    have hb0 := hdt 0 (by omega)
    rw [Nat.add_zero] at hb0
    have h2t : oAt t (tagF t.size (gAt t) (j + 1)) ≠ 36 := by rw [htt, oAt_lt (by omega)]; omega
    have hpt := pieceF_three t j h2t (by rw [htt, hdg]; omega)
    rw [htt, hdg] at hpt
    have hft : ∀ x, j ≤ x → x < j + (b - i) + (numT N).size → PlainAt (gAt t) x ∧ gAt t x ≠ 123 ∧ gAt t x ≠ 125 ∧ (x ≠ j → gAt t x ≠ 36) := fun x h1 h3 => by
      by_cases hc : x < j + (b - i)
      · have := c3 (x - j) (by omega)
        rw [show j + (x - j) = x by omega] at this
        unfold PlainAt
        rw [this]
        have h4 := hpb (i + (x - j)) (by omega) (by omega)
        exact ⟨h4.1, h4.2.1, h4.2.2.1, fun h5 => h4.2.2.2 (by omega)⟩
      · have := hdt (x - (j + (b - i))) (by omega)
        rw [show j + (b - i) + (x - (j + (b - i))) = x by omega] at this
        unfold PlainAt; omega
    refine ⟨j + (b - i) + (numT N).size, by omega, d1, by omega, by rw [hpt]; exact (show (3 : Int) ≠ 0 by omega), by rw [hpt], d2, fun x h1 h3 => ⟨(hft x h1 h3).1, (hft x h1 h3).2.1, (hft x h1 h3).2.2.1⟩, fun x h1 h3 => ?_, fun hto => ?_⟩
    · by_cases hc : x < b
      · exact ⟨(hpb x h1 hc).1, (hpb x h1 hc).2.1, (hpb x h1 hc).2.2.1⟩
      · have := digB_flat (hds x (by omega) h3)
        unfold PlainAt; omega
    · rw [tooF, if_pos (by omega), if_neg (by rw [htt, hdg]; omega), nextF_plain (hft j (Nat.le_refl _) (by omega)).1]
      rw [tooF_run _ d1 _ (j + 1) rfl (by omega) (fun x h1 h3 => ⟨(hft x (by omega) (by omega)).1, (hft x (by omega) (by omega)).2.2.2 (by omega)⟩)]
      exact hto
end

end Go.Proofs.YtmpdpgbcflogfaaDoor
