/- The text that is joined of a text's pieces. -/
import Derived.Test.YtmpdpgbcflogfaaDoorBack
namespace Go.Proofs.YtmpdpgbcflogfaaDoor
open Go.RowKit
set_option linter.unusedVariables false

def stepF (s : ByteArray) (i : Nat) : Nat :=
  if gAt s i = 36 then (if (pieceF s s.size (gAt s) i).1.kind = 0 then i + 1 else (pieceF s s.size (gAt s) i).2) else nextF s.size (gAt s) i
def outF (s : ByteArray) (i : Nat) : List UInt8 :=
  if gAt s i = 36 ∧ (pieceF s s.size (gAt s) i).1.kind ≠ 0 then (textP (pieceF s s.size (gAt s) i).1).data.toList else (s.extract i (stepF s i)).data.toList
theorem stepF_bd (s : ByteArray) (i : Nat) (hi : i < s.size) : i < stepF s i ∧ stepF s i ≤ s.size := by
  unfold stepF
  split
  · split
    · omega
    · rename_i h; exact pieceF_bd s s.size (gAt s) i hi h
  · exact nextF_bd s.size (gAt s) i hi
def normF (s : ByteArray) (i : Nat) : List UInt8 :=
  if h : i < s.size then outF s i ++ normF s (stepF s i) else []
  termination_by s.size - i
  decreasing_by have := stepF_bd s i h; omega

theorem extract_cat (s : ByteArray) {a b c : Nat} (h1 : a ≤ b) (h2 : b ≤ c) : (s.extract a c).data.toList = (s.extract a b).data.toList ++ (s.extract b c).data.toList := by
  rw [Lib.extract_data, Lib.extract_data, Lib.extract_data]
  have e : (s.data.toList.drop b) = (s.data.toList.drop a).drop (b - a) := by rw [List.drop_drop]; congr 1; omega
  rw [e, show c - a = (b - a) + (c - b) by omega, List.take_add]
theorem extract_len (s : ByteArray) {a b : Nat} (h : b ≤ s.size) : (s.extract a b).data.toList.length = b - a := by
  show (s.extract a b).size = _
  rw [ByteArray.size_extract]; omega
theorem extract_self (s : ByteArray) (a : Nat) : (s.extract a a).data.toList = [] := by
  rw [Lib.extract_data]; simp
theorem joinL_txtL (x : ByteArray) : joinL (txtL x) = x.data.toList := by
  unfold txtL; split
  · rename_i h
    exact (List.eq_nil_of_length_eq_zero (show x.data.toList.length = 0 from h)).symm
  · show joinL [_] = _
    unfold joinL textP; simp
theorem joinL_app (L M : List Pc) : joinL (L ++ M) = joinL L ++ joinL M := by unfold joinL; rw [List.flatMap_append]
theorem joinL_cons (p : Pc) (M : List Pc) : joinL (p :: M) = (textP p).data.toList ++ joinL M := by unfold joinL; rw [List.flatMap_cons]

theorem join_cut (s : ByteArray) : ∀ m f i, s.size - i = m → f ≤ i → i ≤ s.size → joinL (cutF s s.size (gAt s) f i) = (s.extract f i).data.toList ++ normF s i := by
  intro m
  induction m using Nat.strongRecOn with
  | ind m ih =>
    intro f i hm hf hi
    by_cases hlt : i < s.size
    · have hb := stepF_bd s i hlt
      rw [normF, dif_pos hlt]
      unfold outF
      by_cases h36 : gAt s i = 36
      · by_cases hk : (pieceF s s.size (gAt s) i).1.kind = 0
        · have e : stepF s i = i + 1 := by unfold stepF; rw [if_pos h36, if_pos hk]
          rw [cutF_zero hlt h36 hk, if_neg (fun hc => hc.2 hk), ih (s.size - (i + 1)) (by omega) f (i + 1) rfl (by omega) (by omega), e, extract_cat s hf (show i ≤ i + 1 by omega), List.append_assoc]
        · have e : stepF s i = (pieceF s s.size (gAt s) i).2 := by unfold stepF; rw [if_pos h36, if_neg hk]
          rw [e] at hb ⊢
          rw [cutF_piece hlt h36 hk, if_pos ⟨h36, hk⟩, joinL_app, joinL_cons, joinL_txtL, ih (s.size - (pieceF s s.size (gAt s) i).2) (by omega) _ _ rfl (Nat.le_refl _) hb.2, extract_self, List.nil_append]
      · have e : stepF s i = nextF s.size (gAt s) i := by unfold stepF; rw [if_neg h36]
        rw [e] at hb
        rw [cutF_skip hlt h36, if_neg (fun hc => h36 hc.1), e, ih (s.size - nextF s.size (gAt s) i) (by omega) f _ rfl (by omega) hb.2, extract_cat s hf (show i ≤ nextF s.size (gAt s) i by omega), List.append_assoc]
    · rw [cutF_end hlt, joinL_txtL, normF, dif_neg hlt, List.append_nil, show i = s.size by omega]

/-- what a text tells whose rest is known -/
theorem drop_at {t : ByteArray} {y : Nat} {A R : List UInt8} (hd : t.data.toList.drop y = A ++ R) (hy : y ≤ t.size) :
    y + A.length ≤ t.size ∧ t.data.toList.drop (y + A.length) = R ∧ ∀ m, m < A.length → gAt t (y + m) = ((A.getD m 0).toNat : Int) := by
  have hs : t.data.toList.length = t.size := rfl
  have hl := congrArg List.length hd
  rw [List.length_drop, List.length_append] at hl
  refine ⟨by omega, ?_, fun m hm => ?_⟩
  · rw [← List.drop_drop, hd, List.drop_left]
  · unfold gAt
    have : t.data.toList.getD (y + m) 0 = (A ++ R).getD m 0 := by
      rw [← hd, List.getD_eq_getElem?_getD, List.getD_eq_getElem?_getD, List.getElem?_drop]
    rw [this, List.getD_eq_getElem?_getD, List.getD_eq_getElem?_getD, List.getElem?_append_left hm]
theorem extract_getD (s : ByteArray) {x e m : Nat} (he : e ≤ s.size) (hm : x + m < e) : ((((s.extract x e).data.toList).getD m 0).toNat : Int) = gAt s (x + m) := gAt_sub s x e m he hm
theorem drop_extract {s t : ByteArray} {x e y : Nat} {R : List UInt8} (hd : t.data.toList.drop y = (s.extract x e).data.toList ++ R) (hx : x ≤ e) (he : e ≤ s.size) (hy : y ≤ t.size) :
    y + (e - x) ≤ t.size ∧ t.data.toList.drop (y + (e - x)) = R ∧ ∀ m, m < e - x → gAt t (y + m) = gAt s (x + m) := by
  obtain ⟨h1, h2, h3⟩ := drop_at hd hy
  rw [extract_len s he] at h1 h2 h3
  exact ⟨h1, h2, fun m hm => (h3 m hm).trans (extract_getD s he (by omega))⟩
theorem textP_head {p : Pc} (h : p.kind = 2 ∨ p.kind = 3) : ∃ r, (textP p).data.toList = 36 :: r := by
  unfold textP
  rw [if_neg (by omega)]
  split <;> exact ⟨_, rfl⟩
theorem pieceF_kind (s : ByteArray) (n : Nat) (g : Nat → Int) (i : Nat) : (pieceF s n g i).1.kind = 0 ∨ (pieceF s n g i).1.kind = 2 ∨ (pieceF s n g i).1.kind = 3 := by
  rw [pieceF_eq]; split
  · exact .inr (.inl rfl)
  · split
    · exact .inl rfl
    · exact .inr (.inr rfl)
theorem outF_head (s : ByteArray) (i : Nat) (hi : i < s.size) : ∃ c r, outF s i = c :: r ∧ (c.toNat : Int) = gAt s i := by
  unfold outF
  split
  · rename_i h
    have := pieceF_kind s s.size (gAt s) i
    obtain ⟨r, hr⟩ := textP_head (p := (pieceF s s.size (gAt s) i).1) (by have := h.2; omega)
    exact ⟨36, r, hr, by rw [h.1]; rfl⟩
  · have hb := stepF_bd s i hi
    have hl := extract_len s (a := i) hb.2
    have hg := extract_getD s (x := i) (m := 0) hb.2 (by omega)
    match h : (s.extract i (stepF s i)).data.toList with
    | [] => rw [h] at hl; simp at hl; omega
    | c :: r =>
      rw [h] at hg
      exact ⟨c, r, rfl, hg⟩
theorem head_norm {s t : ByteArray} {y e : Nat} (hd : t.data.toList.drop y = normF s e) (hy : y ≤ t.size) (he : e ≤ s.size) : oAt t y = oAt s e ∧ (e < s.size ↔ y < t.size) := by
  have hs : t.data.toList.length = t.size := rfl
  by_cases hlt : e < s.size
  · rw [normF, dif_pos hlt] at hd
    obtain ⟨c, r, h1, h2⟩ := outF_head s e hlt
    rw [h1] at hd
    have hl := congrArg List.length hd
    simp at hl
    have hyt : y < t.size := by omega
    rw [oAt_lt hlt, oAt_lt hyt]
    have h3 := (drop_at (A := c :: r) (R := normF s (stepF s e)) hd hy).2.2 0 (by simp)
    exact ⟨h3.trans h2, by constructor <;> intro _ <;> assumption⟩
  · rw [normF, dif_neg hlt] at hd
    have hl := congrArg List.length hd
    simp at hl
    rw [oAt_end hlt, oAt_end (show ¬ y < t.size by omega)]
    exact ⟨rfl, by omega⟩

/-- a run of bytes at which nothing happens -/
theorem norm_run (s : ByteArray) (e : Nat) (he : e ≤ s.size) : ∀ m x, e - x = m → x ≤ e → (∀ j, x ≤ j → j < e → PlainAt (gAt s) j ∧ gAt s j ≠ 36) → normF s x = (s.extract x e).data.toList ++ normF s e := by
  intro m
  induction m with
  | zero => intro x h1 h2 _; rw [show x = e by omega, extract_self, List.nil_append]
  | succ m ih =>
    intro x h1 h2 h
    obtain ⟨hp, h3⟩ := h x (Nat.le_refl _) (by omega)
    have es : stepF s x = x + 1 := by unfold stepF; rw [if_neg h3, nextF_plain hp]
    rw [normF, dif_pos (by omega), es, ih (x + 1) (by omega) (by omega) (fun j hj hj2 => h j (by omega) hj2)]
    unfold outF
    rw [if_neg (fun hc => h3 hc.1), es, extract_cat s (show x ≤ x + 1 by omega) (show x + 1 ≤ e by omega), List.append_assoc]
theorem alike_of {s t : ByteArray} {x e y : Nat} (hd : t.data.toList.drop y = (s.extract x e).data.toList ++ normF s e) (hx : x ≤ e) (he : e ≤ s.size) (hy : y ≤ t.size) : Alike s t x y (e - x) := by
  obtain ⟨h1, h2, h3⟩ := drop_extract hd hx he hy
  intro m hm
  by_cases hlt : m < e - x
  · rw [oAt_lt (show y + m < t.size by omega), oAt_lt (show x + m < s.size by omega), h3 m hlt]
  · obtain rfl : m = e - x := by omega
    rw [(head_norm h2 h1 he).1, show x + (e - x) = e by omega]
theorem alike_run {s t : ByteArray} {x y e : Nat} (hd : t.data.toList.drop y = normF s x) (hx : x ≤ e) (he : e ≤ s.size) (hy : y ≤ t.size) (h : ∀ j, x ≤ j → j < e → PlainAt (gAt s) j ∧ gAt s j ≠ 36) : Alike s t x y (e - x) :=
  alike_of (by rw [hd, norm_run s e he _ x rfl hx h]) hx he hy

theorem nameW_all (n : Nat) (g : Nat → Int) (i : Nat) : ∀ j, i ≤ j → j < nameW n g i → nameB (g j) = true := by
  fun_induction nameW n g i with
  | case1 i h ih =>
    intro j h1 h2
    by_cases e : j = i
    · subst e
      unfold nameB
      rcases h.2 with h | h | h
      · simp [h]
      · simp [h]
      · simp [h]
    · exact ih j (by omega) h2
  | case2 i h => intro j h1 h2; omega
theorem nameF_all (n : Nat) (g : Nat → Int) (i : Nat) : ∀ j, i ≤ j → j < nameF n g i → nameB (g j) = true := by
  unfold nameF; split
  · exact nameW_all n g i
  · intro j h1 h2; omega
theorem nameB_flat {c : Int} (h : nameB c = true) : 46 ≤ c ∧ c ≠ 47 ∧ c ≠ 96 ∧ c < 123 := by
  unfold nameB begB digB at h
  simp at h
  omega
theorem digB_flat {c : Int} (h : digB c = true) : 48 ≤ c ∧ c ≤ 57 := by unfold digB at h; simpa using h
/-- the bytes of a tag -/
theorem tagF_all (n : Nat) (g : Nat → Int) (i : Nat) : ∀ j, i ≤ j → j < tagF n g i → 46 ≤ g j ∧ g j ≠ 47 ∧ g j ≠ 96 ∧ g j < 123 := by
  unfold tagF; split
  · rename_i h
    intro j h1 h2
    by_cases e1 : j = i
    · subst e1; omega
    · by_cases e2 : j = nameF n g (i + 1)
      · rw [e2]; omega
      · exact nameB_flat (nameF_all n g (i + 1) j (by omega) (by omega))
  · intro j h1 h2; omega

/-- tag and number behind a dollar -/
theorem after_loc {s t : ByteArray} {x y : Nat} (hd : t.data.toList.drop y = normF s x) (hx : x ≤ s.size) (hy : y ≤ t.size) :
    tagF t.size (gAt t) y + x = y + tagF s.size (gAt s) x ∧ digF t.size (gAt t) (tagF t.size (gAt t) y) + x = y + digF s.size (gAt s) (tagF s.size (gAt s) x) ∧
      oAt t (tagF t.size (gAt t) y) = oAt s (tagF s.size (gAt s) x) := by
  have htb := tagF_bd s.size (gAt s) x hx
  have hdb := digF_bd s.size (gAt s) (tagF s.size (gAt s) x) htb.2
  have hta := tagF_all s.size (gAt s) x
  have hda := digF_all s.size (gAt s) (tagF s.size (gAt s) x)
  -- all bytes of tag and digits are alike
  have ha := alike_run (e := digF s.size (gAt s) (tagF s.size (gAt s) x)) hd (by omega) hdb.2 hy (fun j h1 h2 => by
    unfold PlainAt
    by_cases h : j < tagF s.size (gAt s) x
    · have := hta j h1 h; omega
    · have := digB_flat (hda j (by omega) h2); omega)
  have e1 : tagF t.size (gAt t) y + x = y + tagF s.size (gAt s) x := by
    by_cases h60 : oAt s x = 60
    · have hx' := (oAt_is (by omega)).1 h60
      have hnb := nameF_bd s.size (gAt s) (x + 1) (by omega)
      have ha2 := alike_run (e := nameF s.size (gAt s) (x + 1)) hd (by omega) hnb.2 hy (fun j h1 h2 => by
        unfold PlainAt
        by_cases h : j = x
        · subst h; omega
        · have := nameB_flat (nameF_all s.size (gAt s) (x + 1) j (by omega) h2); omega)
      exact tagF_alike ha2 (fun _ => by omega)
    · exact tagF_alike (ha.le (Nat.zero_le _)) (fun h => absurd h h60)
  have ha3 := ha.from (k := tagF s.size (gAt s) x - x) (by omega)
  rw [show x + (tagF s.size (gAt s) x - x) = tagF s.size (gAt s) x by omega, show y + (tagF s.size (gAt s) x - x) = tagF t.size (gAt t) y by omega] at ha3
  have e2 := digF_alike _ _ _ ha3 (by omega)
  exact ⟨e1, by omega, ha3.zero⟩

end Go.Proofs.YtmpdpgbcflogfaaDoor
