/- char.Take and the document's Take tell the same. -/
import Derived.Test.YtoifpljfgpnmgaaChar
import Derived.Lib.Strings
import Derived.Outline
namespace Go.Proofs.Ytoifpljfgpnmgaa
open Go.RowKit
set_option linter.unusedVariables false

def takeF (n : Nat) (g : Nat → Int) (i : Int) : Int × Int × Bool :=
  if 3 ≤ n ∧ g 0 = 39 ∧ plainB (g 1) = true ∧ g 2 = 39 then (g 1, i + 3, true)
  else if 4 ≤ n ∧ g 0 = 39 ∧ g 1 = 92 ∧ g 3 = 39 ∧ escB (g 2) = true then (escC (g 2), i + 4, true)
  else (0, 0, false)

def matchQ (n : Nat) (g : Nat → Int) (c : Int) : Prop :=
  quoteL c ≠ [] ∧ (quoteL c).length ≤ n ∧ ∀ j, j < (quoteL c).length → g j = (quoteL c).getD j 0

theorem quoteL_cases (c : Int) : (plainB c = true ∧ quoteL c = [39, c, 39]) ∨ (quoteL c = []) ∨ (∃ l, escB l = true ∧ escC l = c ∧ quoteL c = [39, 92, l, 39] ∧ plainB c = false) := by
  by_cases h1 : c = 10
  · subst h1; exact .inr (.inr ⟨110, by decide, by decide, rfl, by decide⟩)
  by_cases h2 : c = 9
  · subst h2; exact .inr (.inr ⟨116, by decide, by decide, rfl, by decide⟩)
  by_cases h3 : c = 13
  · subst h3; exact .inr (.inr ⟨114, by decide, by decide, rfl, by decide⟩)
  by_cases h4 : c = 92
  · subst h4; exact .inr (.inr ⟨92, by decide, by decide, rfl, by decide⟩)
  by_cases h5 : c = 39
  · subst h5; exact .inr (.inr ⟨39, by decide, by decide, rfl, by decide⟩)
  cases hp : plainB c
  · exact .inr (.inl (ql_none hp h1 h2 h3 h4 h5))
  · exact .inl ⟨rfl, ql_plain hp⟩

theorem take_match {n : Nat} {g : Nat → Int} {c : Int} (i : Int) (h : matchQ n g c) : takeF n g i = (c, i + (quoteL c).length, true) := by
  obtain ⟨hne, hl, hg⟩ := h
  rcases quoteL_cases c with ⟨hp, hq⟩ | hq | ⟨l, hb, hc, hq, hp⟩
  · rw [hq] at hl hg
    have g0 := hg 0 (by simp); have g1 := hg 1 (by simp); have g2 := hg 2 (by simp)
    simp at g0 g1 g2 hl
    unfold takeF
    rw [if_pos ⟨hl, g0, by rw [g1]; exact hp, g2⟩, hq, g1]; simp
  · exact absurd hq hne
  · rw [hq] at hl hg
    have g0 := hg 0 (by simp); have g1 := hg 1 (by simp); have g2 := hg 2 (by simp); have g3 := hg 3 (by simp)
    simp at g0 g1 g2 g3 hl
    unfold takeF
    rw [if_neg (by rintro ⟨_, _, h, _⟩; rw [g1] at h; revert h; decide), if_pos ⟨hl, g0, g1, g3, by rw [g2]; exact hb⟩, hq, g2, hc]; simp

theorem take_none {n : Nat} {g : Nat → Int} (i : Int) (h : ∀ c, 9 ≤ c → c < 127 → ¬ matchQ n g c) : takeF n g i = (0, 0, false) := by
  unfold takeF
  rw [if_neg, if_neg]
  · rintro ⟨hn, g0, g1, g3, hb⟩
    have : escC (g 2) = 10 ∧ g 2 = 110 ∨ escC (g 2) = 9 ∧ g 2 = 116 ∨ escC (g 2) = 13 ∧ g 2 = 114 ∨ escC (g 2) = 92 ∧ g 2 = 92 ∨ escC (g 2) = 39 ∧ g 2 = 39 := by
      unfold escB at hb; unfold escC; grind
    rcases this with ⟨e, e2⟩ | ⟨e, e2⟩ | ⟨e, e2⟩ | ⟨e, e2⟩ | ⟨e, e2⟩
    · refine h 10 (by omega) (by omega) ⟨by decide, by simpa [ql_10] using hn, fun j hj => ?_⟩
      rw [ql_10 rfl] at hj ⊢
      match j, hj with
      | 0, _ => exact g0
      | 1, _ => exact g1
      | 2, _ => exact e2
      | 3, _ => exact g3
    · refine h 9 (by omega) (by omega) ⟨by decide, by simpa [ql_9] using hn, fun j hj => ?_⟩
      rw [ql_9 rfl] at hj ⊢
      match j, hj with
      | 0, _ => exact g0
      | 1, _ => exact g1
      | 2, _ => exact e2
      | 3, _ => exact g3
    · refine h 13 (by omega) (by omega) ⟨by decide, by simpa [ql_13] using hn, fun j hj => ?_⟩
      rw [ql_13 rfl] at hj ⊢
      match j, hj with
      | 0, _ => exact g0
      | 1, _ => exact g1
      | 2, _ => exact e2
      | 3, _ => exact g3
    · refine h 92 (by omega) (by omega) ⟨by decide, by simpa [ql_92] using hn, fun j hj => ?_⟩
      rw [ql_92 rfl] at hj ⊢
      match j, hj with
      | 0, _ => exact g0
      | 1, _ => exact g1
      | 2, _ => exact e2
      | 3, _ => exact g3
    · refine h 39 (by omega) (by omega) ⟨by decide, by simpa [ql_39] using hn, fun j hj => ?_⟩
      rw [ql_39 rfl] at hj ⊢
      match j, hj with
      | 0, _ => exact g0
      | 1, _ => exact g1
      | 2, _ => exact e2
      | 3, _ => exact g3
  · rintro ⟨hn, g0, hp, g2⟩
    have hb : 32 ≤ g 1 ∧ g 1 ≤ 126 := by unfold plainB at hp; grind
    refine h (g 1) (by omega) (by omega) ⟨by rw [ql_plain hp]; simp, by rw [ql_plain hp]; exact hn, fun j hj => ?_⟩
    rw [ql_plain hp] at hj ⊢
    match j, hj with
    | 0, _ => exact g0
    | 1, _ => rfl
    | 2, _ => exact g2

/-- the byte of a text at a place -/
def gAt (s : ByteArray) (j : Nat) : Int := ((s.data.toList.getD j 0).toNat : Int)
theorem gAt_lo (s : ByteArray) (j : Nat) : 0 ≤ gAt s j := Int.natCast_nonneg _
theorem gAt_hi (s : ByteArray) (j : Nat) : gAt s j ≤ 255 := by
  unfold gAt
  have := (s.data.toList.getD j 0).toNat_lt
  omega
theorem gAt_get (s : ByteArray) (j : Nat) (h : j < s.size) : ((s[j]'h).toNat : Int) = gAt s j := by
  unfold gAt
  rw [List.getD_eq_getElem?_getD, List.getElem?_eq_getElem (by simpa using h)]
  rfl
theorem gAt_extract (s : ByteArray) (i j : Nat) (h : j < (s.extract i s.size).size) : (((s.extract i s.size)[j]'h).toNat : Int) = gAt s (i + j) := by
  have h2 : i + j < s.size := by have := ByteArray.size_extract (a := s) (b := i) (e := s.size); omega
  rw [← gAt_get s (i + j) h2]
  congr 1
  rw [ByteArray.getElem_extract]

def takeS (s : ByteArray) (i : Int) : Int × Int × Bool :=
  if 0 ≤ i ∧ i < s.size then takeF (s.size - i.toNat) (fun j => gAt s (i.toNat + j)) i else (0, 0, false)

def TakeTells (s : ByteArray) (i : Int) (e : Ending) : Prop := e = .returned (.tuple #[.int .u8 (takeS s i).1, .int .i64 (takeS s i).2.1, .bool (takeS s i).2.2])

theorem tells_mk {s : ByteArray} {i c e : Int} {ok : Bool} (h : takeS s i = (c, e, ok)) : TakeTells s i (.returned (.tuple #[.int .u8 c, .int .i64 e, .bool ok])) := by
  unfold TakeTells; rw [h]

theorem takeS_in {s : ByteArray} (i : Nat) (h : i < s.size) : takeS s i = takeF (s.size - i) (fun j => gAt s (i + j)) i := by
  unfold takeS; rw [if_pos (by omega)]; rfl

theorem take_in (s : ByteArray) (i : Nat) (g : Nat → Int) (w : World) (h0 : i < s.size) (h1 : s.size ≤ 9223372036854775000) (hT : Hid (takeS s i = takeF (s.size - i) g i))
   (hg : ∀ j (h : j < (s.extract i s.size).size), (((s.extract i s.size)[j]'h).toNat : Int) = g j) (hg0 : ∀ j, 0 ≤ g j) (hg1 : ∀ j, g j ≤ 255) :
    Calls Try.prog 8 #[.string s, .int .i64 i] w fun e w' => TakeTells s i e ∧ w = w' := by
  go_enter Try.func8, Try.ntmps8
  go_wp2_with (first | (go_at_call 12; refine (plain_any _ _ (hg0 _) (hg1 _)).mono ?_; rintro e w' ⟨rfl, rfl⟩) | (go_at_call 13; refine (esc_any _ _ (hg0 _) (hg1 _)).mono ?_; rintro e w' ⟨rfl, rfl⟩))
  all_goals go_ret3
  all_goals refine ⟨tells_mk ?_, rfl⟩
  all_goals rw [hT.out]
  all_goals unfold takeF
  all_goals grind [plainB]

theorem take_out (s : ByteArray) (i : Int) (w : World) (h0 : i < 0 ∨ s.size ≤ i) (h1 : s.size ≤ 9223372036854775000) :
    Calls Try.prog 8 #[.string s, .int .i64 i] w fun e w' => TakeTells s i e ∧ w = w' := by
  have hT := Lib.hid (show takeS s i = (0, 0, false) from by unfold takeS; rw [if_neg (by omega)])
  go_enter Try.func8, Try.ntmps8
  go_wp2_with (fail)
  all_goals go_ret3
  all_goals exact ⟨tells_mk hT.out, rfl⟩

theorem take_any (s : ByteArray) (i : Int) (w : World) (h1 : s.size ≤ 9223372036854775000) :
    Calls Try.prog 8 #[.string s, .int .i64 i] w fun e w' => TakeTells s i e ∧ w = w' := by
  by_cases h : 0 ≤ i ∧ i < s.size
  · obtain ⟨j, rfl⟩ := Int.eq_ofNat_of_zero_le h.1
    exact take_in s j (fun k => gAt s (j + k)) w (by omega) h1 (Lib.hid (takeS_in j (by omega))) (fun k hk => gAt_extract s j k hk) (fun k => gAt_lo _ _) (fun k => gAt_hi _ _)
  · exact take_out s i w (by omega) h1

theorem rtake_out (s : ByteArray) (i : Int) (w : World) (h0 : i < 0 ∨ s.size ≤ i) (h1 : s.size ≤ 9223372036854775000) :
    Calls Try.prog 9 #[.string s, .int .i64 i] w fun e w' => TakeTells s i e ∧ Below w.heap.size w w' := by
  have hT := Lib.hid (show takeS s i = (0, 0, false) from by unfold takeS; rw [if_neg (by omega)])
  go_enter Try.func9, Try.ntmps9
  go_wp2_with (fail)
  all_goals go_ret3
  all_goals exact ⟨tells_mk hT.out, Below.refl _ _⟩

theorem toList_beq {a b : ByteArray} : (a.toList == b.toList) = decide (a.data.toList = b.data.toList) := by
  rw [Lib.toList_data, Lib.toList_data, Bool.eq_iff_iff]; simp

theorem quote_size (c : Int) : (bytesOf (quoteL c)).size = (quoteL c).length := by
  unfold bytesOf; simp [ByteArray.size]

theorem quote_lo (c : Int) : ∀ x ∈ quoteL c, 0 ≤ x ∧ x ≤ 255 := by
  rcases quoteL_cases c with ⟨hp, hq⟩ | hq | ⟨l, hb, hc, hq, hp⟩
  · rw [hq]; unfold plainB at hp; grind
  · rw [hq]; simp
  · rw [hq]; unfold escB at hb; grind

theorem u8_iff (x : UInt8) (n : Int) (h0 : 0 ≤ n) (h1 : n ≤ 255) : x = UInt8.ofNat n.toNat ↔ (x.toNat : Int) = n := by
  constructor
  · rintro rfl
    rw [UInt8.toNat_ofNat']
    omega
  · intro h
    apply UInt8.toNat_inj.1
    rw [UInt8.toNat_ofNat']
    omega

/-- a row of bytes in a text are given numbers, just if each one is -/
theorem extract_beq {s : ByteArray} {i : Nat} {l : List Int} (hl : i + l.length ≤ s.size) (hb : ∀ x ∈ l, 0 ≤ x ∧ x ≤ 255) :
    ((s.extract i (i + l.length)).toList == (bytesOf l).toList) = true ↔ ∀ j, j < l.length → gAt s (i + j) = l.getD j 0 := by
  rw [toList_beq, decide_eq_true_iff, Lib.extract_data]
  have hs : s.data.toList.length = s.size := rfl
  have e2 : (bytesOf l).data.toList = l.map (fun n => UInt8.ofNat n.toNat) := by simp [bytesOf]
  rw [e2]
  have e3 : i + l.length - i = l.length := by omega
  rw [e3]
  constructor
  · intro h j hj
    have h1 : ((s.data.toList.drop i).take l.length)[j]? = (l.map (fun n => UInt8.ofNat n.toNat))[j]? := by rw [h]
    rw [List.getElem?_take, if_pos hj, List.getElem?_drop, List.getElem?_map] at h1
    rw [List.getElem?_eq_getElem (by omega), List.getElem?_eq_getElem hj] at h1
    simp only [Option.map_some, Option.some.injEq] at h1
    have hm := hb l[j] (List.getElem_mem hj)
    rw [u8_iff _ _ hm.1 hm.2] at h1
    unfold gAt
    rw [List.getD_eq_getElem?_getD, List.getD_eq_getElem?_getD, List.getElem?_eq_getElem (by omega), List.getElem?_eq_getElem hj]
    exact h1
  · intro h
    apply List.ext_getElem
    · simp; omega
    · intro j h1 h2
      have hj : j < l.length := by simpa using h2
      have hm := hb l[j] (List.getElem_mem hj)
      have h3 := h j hj
      unfold gAt at h3
      rw [List.getD_eq_getElem?_getD, List.getD_eq_getElem?_getD, List.getElem?_eq_getElem (by omega), List.getElem?_eq_getElem hj] at h3
      rw [List.getElem_take, List.getElem_drop, List.getElem_map, u8_iff _ _ hm.1 hm.2]
      exact h3

theorem match_iff {s : ByteArray} {i : Nat} {c : Int} (hn : quoteL c ≠ []) (hi : i < s.size) (hl : (bytesOf (quoteL c)).size ≤ s.size - i) :
    ((s.extract i (i + (bytesOf (quoteL c)).size)).toList == (bytesOf (quoteL c)).toList) = true ↔ matchQ (s.size - i) (fun j => gAt s (i + j)) c := by
  rw [quote_size] at hl ⊢
  rw [extract_beq (by omega) (quote_lo c)]
  exact ⟨fun h => ⟨hn, hl, h⟩, fun h => h.2.2⟩

theorem next_none {s : ByteArray} {i k : Nat} (hp : ∀ c : Int, 9 ≤ c → c < k → ¬ matchQ (s.size - i) (fun j => gAt s (i + j)) c) (h : ¬ matchQ (s.size - i) (fun j => gAt s (i + j)) k) :
    ∀ c : Int, 9 ≤ c → c < ((k + 1 : Nat) : Int) → ¬ matchQ (s.size - i) (fun j => gAt s (i + j)) c := by
  intro c h9 hc
  by_cases e : c = k
  · rw [e]; exact h
  · exact hp c h9 (by omega)

theorem rtake_in (s : ByteArray) (i : Nat) (w : World) (h0 : i < s.size) (h1 : s.size ≤ 9223372036854775000) :
    Calls Try.prog 9 #[.string s, .int .i64 i] w fun e w' => TakeTells s i e ∧ Below w.heap.size w w' := by
  have d1 : decide ((i : Int) < 0) = false := by simp
  have d2 : decide (s.size ≤ i) = false := by simp; omega
  go_enter Try.func9, Try.ntmps9
  go_wp2_with (fail)
  go_loopw [7] (fun c wr => ∃ k : Nat, 9 ≤ k ∧ k ≤ 127 ∧ c = .int .i64 k ∧ Below w.heap.size w wr ∧ Hid (∀ c : Int, 9 ≤ c → c < k → ¬ matchQ (s.size - i) (fun j => gAt s (i + j)) c)) (fun c _ => 127 - (intOf c).toNat)
  case atStart => exact ⟨9, by omega, by omega, rfl, Below.refl _ _, Lib.hid (fun c h h' => by omega)⟩
  case round =>
    obtain ⟨k, hk9, hk, rfl, hb, hp⟩ := hrel
    by_cases hlt : k ≤ 126
    · have hw := IntWalk.u8_in (k : Int) ⟨by omega, by omega⟩
      obtain ⟨B, hB⟩ : ∃ B, Hid (B = bytesOf (quoteL k)) := ⟨_, Lib.hid rfl⟩
      have hBz : B.size ≤ 4 := by rw [hB.out, quote_size]; rcases quoteL_cases k with ⟨_, h⟩ | h | ⟨l, _, _, h, _⟩ <;> rw [h] <;> simp
      by_cases hq : B.toList.isEmpty = true
      · go_wp2_with (first | (go_at_call 11; refine (quote_any _ _ (by omega) (by omega)).mono ?_; rintro e w' ⟨rfl, hb1⟩; rw [← hB.out]))
        go_roundw
        case rel => exact ⟨k + 1, by omega, by omega, by go_num, hb.trans (hb1.mono hb.size), Lib.hid (next_none hp.out (fun hm => hm.1 (by have := hB.out ▸ hq; rw [Lib.toList_data] at this; simpa [bytesOf] using this)))⟩
        case measure => simp [intOf]; omega
      · have hq' : B.toList.isEmpty = false := by simpa using hq
        have hn : quoteL k ≠ [] := fun h => hq (by rw [hB.out, h, Lib.toList_data]; rfl)
        have HN := Lib.hid hn; clear hn hq
        by_cases hl : B.size ≤ s.size - i
        · cases hm : ((s.extract i (i + B.size)).toList == B.toList)
          · go_wp2_with (first | (go_at_call 11; refine (quote_any _ _ (by omega) (by omega)).mono ?_; rintro e w' ⟨rfl, hb1⟩; rw [← hB.out]))
            go_roundw
            case rel => exact ⟨k + 1, by omega, by omega, by go_num, hb.trans (hb1.mono hb.size), Lib.hid (next_none hp.out (fun h => by have h2 := (match_iff HN.out h0 (hB.out ▸ hl)).2 h; rw [← hB.out, hm] at h2; cases h2))⟩
            case measure => simp [intOf]; omega
          · go_wp2_with (first | (go_at_call 11; refine (quote_any _ _ (by omega) (by omega)).mono ?_; rintro e w' ⟨rfl, hb1⟩; rw [← hB.out]))
            go_ret3
            have h2 := take_match i ((match_iff HN.out h0 (hB.out ▸ hl)).1 (hB.out ▸ hm))
            exact ⟨tells_mk (by rw [takeS_in i h0, h2, ← quote_size, ← hB.out]), hb.trans (hb1.mono hb.size)⟩
        · go_wp2_with (first | (go_at_call 11; refine (quote_any _ _ (by omega) (by omega)).mono ?_; rintro e w' ⟨rfl, hb1⟩; rw [← hB.out]))
          go_roundw
          case rel => exact ⟨k + 1, by omega, by omega, by go_num, hb.trans (hb1.mono hb.size), Lib.hid (next_none hp.out (fun hm => hl (by rw [hB.out, quote_size]; exact hm.2.1)))⟩
          case measure => simp [intOf]; omega
    · go_wp2_with (fail)
      go_ret3
      exact ⟨tells_mk (by rw [takeS_in i h0]; exact take_none _ (fun c h9 h127 => hp.out c h9 (by omega))), hb⟩

theorem rtake_any (s : ByteArray) (i : Int) (w : World) (h1 : s.size ≤ 9223372036854775000) :
    Calls Try.prog 9 #[.string s, .int .i64 i] w fun e w' => TakeTells s i e ∧ Below w.heap.size w w' := by
  by_cases h : 0 ≤ i ∧ i < s.size
  · obtain ⟨j, rfl⟩ := Int.eq_ofNat_of_zero_le h.1
    exact rtake_in s j w (by omega) h1
  · exact rtake_out s i w (by omega) h1

end Go.Proofs.Ytoifpljfgpnmgaa
