/- A byte in quotes. -/
import Derived.Test.YtmpdpgbcflogfaaDoorBack3
import Derived.Lib.Strings
namespace Go.Proofs.YtmpdpgbcflogfaaDoor
open Go.RowKit
set_option linter.unusedVariables false

def plainB (c : Int) : Bool := decide (32 ≤ c ∧ c ≤ 126 ∧ c ≠ 39 ∧ c ≠ 92)

theorem plain_any (c : Int) (w : World) (h0 : 0 ≤ c) (h1 : c ≤ 255) :
    Calls Tryd.prog 79 #[.int .u8 c] w fun e w' => e = .returned (.bool (plainB c)) ∧ w = w' := by
  go_enter Tryd.func79, Tryd.ntmps79
  go_wp2
  all_goals go_ret
  · exact ⟨ret_bool (by unfold plainB; symm; simp; omega), rfl⟩
  · refine ⟨ret_bool ?_, rfl⟩
    unfold plainB
    show (c != 39 && c != 92) = _
    rw [Bool.eq_iff_iff]; simp; omega
  · exact ⟨ret_bool (by unfold plainB; symm; simp; omega), rfl⟩
  · exact ⟨ret_bool (by unfold plainB; symm; simp; omega), rfl⟩

def escC (c : Int) : Int := if c = 110 then 10 else if c = 116 then 9 else if c = 114 then 13 else if c = 92 ∨ c = 39 then c else 0
def escB (c : Int) : Bool := decide (c = 110 ∨ c = 116 ∨ c = 114 ∨ c = 92 ∨ c = 39)

theorem ret_esc {a a' : Int} {b b' : Bool} (h : a = a') (h' : b = b') : Ending.returned (.tuple #[.int .u8 a, .bool b]) = .returned (.tuple #[.int .u8 a', .bool b']) := by rw [h, h']

theorem esc_any (c : Int) (w : World) (h0 : 0 ≤ c) (h1 : c ≤ 255) :
    Calls Tryd.prog 80 #[.int .u8 c] w fun e w' => e = .returned (.tuple #[.int .u8 (escC c), .bool (escB c)]) ∧ w = w' := by
  go_enter Tryd.func80, Tryd.ntmps80
  go_wp2
  all_goals go_ret2
  all_goals exact ⟨ret_esc (by unfold escC; simp at *; grind) (by unfold escB; simp at *; grind), rfl⟩

def quoteL (c : Int) : List Int :=
  if c = 10 then [39, 92, 110, 39] else if c = 9 then [39, 92, 116, 39] else if c = 13 then [39, 92, 114, 39] else if c = 92 then [39, 92, 92, 39]
  else if c = 39 then [39, 92, 39, 39] else if plainB c = true then [39, c, 39] else []

theorem ql_10 {c : Int} (h : c = 10) : quoteL c = [39, 92, 110, 39] := by subst h; rfl
theorem ql_9 {c : Int} (h : c = 9) : quoteL c = [39, 92, 116, 39] := by subst h; rfl
theorem ql_13 {c : Int} (h : c = 13) : quoteL c = [39, 92, 114, 39] := by subst h; rfl
theorem ql_92 {c : Int} (h : c = 92) : quoteL c = [39, 92, c, 39] := by subst h; rfl
theorem ql_39 {c : Int} (h : c = 39) : quoteL c = [39, 92, c, 39] := by subst h; rfl
theorem ql_plain {c : Int} (h : plainB c = true) : quoteL c = [39, c, 39] := by
  have h' := h
  unfold plainB at h'
  simp at h'
  unfold quoteL
  rw [if_neg (by omega), if_neg (by omega), if_neg (by omega), if_neg (by omega), if_neg (by omega), if_pos h]
theorem ql_none {c : Int} (h : plainB c = false) (h1 : c ≠ 10) (h2 : c ≠ 9) (h3 : c ≠ 13) (h4 : c ≠ 92) (h5 : c ≠ 39) : quoteL c = [] := by
  unfold quoteL
  rw [if_neg h1, if_neg h2, if_neg h3, if_neg h4, if_neg h5, if_neg (by rw [h]; simp)]

theorem quote_any (c : Int) (w : World) (h0 : 0 ≤ c) (h1 : c ≤ 255) :
    Calls Tryd.prog 45 #[.int .u8 c] w fun e w' => e = .returned (.string (bytesOf (quoteL c))) ∧ Below w.heap.size w w' := by
  have hc1 : ∀ (x : Int) (w : World), (convert 45 9 (.slice (some ⟨w.heap.size,0,none⟩) 1 1)).run Tryd.prog (w.alloc (.cells #[.int .u8 x] 5)) = .ok (.string (bytesOf [x])) (w.alloc (.cells #[.int .u8 x] 5)) :=
    fun x w => run_conv_new w _ _ _ [x] 1 Tryd.underlying45 Tryd.underlying5 Tryd.underlying9
  have hz : ∀ x, (bytesOf [x]).size = 1 := fun x => rfl
  go_enter Tryd.func45, Tryd.ntmps45
  go_wp2
  all_goals go_ret
  · exact ⟨ret_str (by rw [ql_10 (by grind)]; exact (congrArg (· ++ _) (bytesOf_append [39, 92] [110])).trans (bytesOf_append [39, 92, 110] [39])), (Below.refl _ _).alloc (Nat.le_refl _) _⟩
  · exact ⟨ret_str (by rw [ql_9 (by grind)]; exact (congrArg (· ++ _) (bytesOf_append [39, 92] [116])).trans (bytesOf_append [39, 92, 116] [39])), (Below.refl _ _).alloc (Nat.le_refl _) _⟩
  · exact ⟨ret_str (by rw [ql_13 (by grind)]; exact (congrArg (· ++ _) (bytesOf_append [39, 92] [114])).trans (bytesOf_append [39, 92, 114] [39])), (Below.refl _ _).alloc (Nat.le_refl _) _⟩
  · exact ⟨ret_str (by rw [ql_92 (by grind)]; exact (congrArg (· ++ _) (bytesOf_append [39, 92] [c])).trans (bytesOf_append [39, 92, c] [39])), (Below.refl _ _).alloc (Nat.le_refl _) _⟩
  · exact ⟨ret_str (by rw [ql_39 (by grind)]; exact (congrArg (· ++ _) (bytesOf_append [39, 92] [c])).trans (bytesOf_append [39, 92, c] [39])), (Below.refl _ _).alloc (Nat.le_refl _) _⟩
  · exact ⟨ret_str (by rw [ql_none (by unfold plainB; grind) (by grind) (by grind) (by grind) (by grind) (by grind)]; rfl), (Below.refl _ _)⟩
  · exact ⟨ret_str (by rw [ql_plain (by unfold plainB; grind)]; exact (congrArg (· ++ _) (bytesOf_append [39] [c])).trans (bytesOf_append [39, c] [39])), (Below.refl _ _).alloc (Nat.le_refl _) _⟩
  · exact ⟨ret_str (by rw [ql_none (by unfold plainB; grind) (by grind) (by grind) (by grind) (by grind) (by grind)]; rfl), (Below.refl _ _)⟩


def takeF (n : Nat) (g : Nat → Int) (i : Int) : Int × Int × Bool :=
  if 3 ≤ n ∧ g 0 = 39 ∧ plainB (g 1) = true ∧ g 2 = 39 then (g 1, i + 3, true)
  else if 4 ≤ n ∧ g 0 = 39 ∧ g 1 = 92 ∧ g 3 = 39 ∧ escB (g 2) = true then (escC (g 2), i + 4, true)
  else (0, 0, false)

def matchQ (n : Nat) (g : Nat → Int) (c : Int) : Prop :=
  quoteL c ≠ [] ∧ (quoteL c).length ≤ n ∧ ∀ j, j < (quoteL c).length → g j = (quoteL c).getD j 0

theorem quoteL_cases (c : Int) : (plainB c = true ∧ quoteL c = [39, c, 39]) ∨ (quoteL c = []) ∨ (∃ l, escB l = true ∧ escC l = c ∧ quoteL c = [39, 92, l, 39] ∧ plainB c = false) := by
  by_cases h1 : c = 10
  · subst h1; exact .inr (.inr ⟨110, by decide, by decide, rfl, by decide⟩)
  by_cases h2 : c = 9
  · subst h2; exact .inr (.inr ⟨116, by decide, by decide, rfl, by decide⟩)
  by_cases h3 : c = 13
  · subst h3; exact .inr (.inr ⟨114, by decide, by decide, rfl, by decide⟩)
  by_cases h4 : c = 92
  · subst h4; exact .inr (.inr ⟨92, by decide, by decide, rfl, by decide⟩)
  by_cases h5 : c = 39
  · subst h5; exact .inr (.inr ⟨39, by decide, by decide, rfl, by decide⟩)
  cases hp : plainB c
  · exact .inr (.inl (ql_none hp h1 h2 h3 h4 h5))
  · exact .inl ⟨rfl, ql_plain hp⟩

theorem take_match {n : Nat} {g : Nat → Int} {c : Int} (i : Int) (h : matchQ n g c) : takeF n g i = (c, i + (quoteL c).length, true) := by
  obtain ⟨hne, hl, hg⟩ := h
  rcases quoteL_cases c with ⟨hp, hq⟩ | hq | ⟨l, hb, hc, hq, hp⟩
  · rw [hq] at hl hg
    have g0 := hg 0 (by simp); have g1 := hg 1 (by simp); have g2 := hg 2 (by simp)
    simp at g0 g1 g2 hl
    unfold takeF
    rw [if_pos ⟨hl, g0, by rw [g1]; exact hp, g2⟩, hq, g1]; simp
  · exact absurd hq hne
  · rw [hq] at hl hg
    have g0 := hg 0 (by simp); have g1 := hg 1 (by simp); have g2 := hg 2 (by simp); have g3 := hg 3 (by simp)
    simp at g0 g1 g2 g3 hl
    unfold takeF
    rw [if_neg (by rintro ⟨_, _, h, _⟩; rw [g1] at h; revert h; decide), if_pos ⟨hl, g0, g1, g3, by rw [g2]; exact hb⟩, hq, g2, hc]; simp

theorem take_none {n : Nat} {g : Nat → Int} (i : Int) (h : ∀ c, 9 ≤ c → c < 127 → ¬ matchQ n g c) : takeF n g i = (0, 0, false) := by
  unfold takeF
  rw [if_neg, if_neg]
  · rintro ⟨hn, g0, g1, g3, hb⟩
    have : escC (g 2) = 10 ∧ g 2 = 110 ∨ escC (g 2) = 9 ∧ g 2 = 116 ∨ escC (g 2) = 13 ∧ g 2 = 114 ∨ escC (g 2) = 92 ∧ g 2 = 92 ∨ escC (g 2) = 39 ∧ g 2 = 39 := by
      unfold escB at hb; unfold escC; grind
    rcases this with ⟨e, e2⟩ | ⟨e, e2⟩ | ⟨e, e2⟩ | ⟨e, e2⟩ | ⟨e, e2⟩
    · refine h 10 (by omega) (by omega) ⟨by decide, by simpa [ql_10] using hn, fun j hj => ?_⟩
      rw [ql_10 rfl] at hj ⊢
      match j, hj with
      | 0, _ => exact g0
      | 1, _ => exact g1
      | 2, _ => exact e2
      | 3, _ => exact g3
    · refine h 9 (by omega) (by omega) ⟨by decide, by simpa [ql_9] using hn, fun j hj => ?_⟩
      rw [ql_9 rfl] at hj ⊢
      match j, hj with
      | 0, _ => exact g0
      | 1, _ => exact g1
      | 2, _ => exact e2
      | 3, _ => exact g3
    · refine h 13 (by omega) (by omega) ⟨by decide, by simpa [ql_13] using hn, fun j hj => ?_⟩
      rw [ql_13 rfl] at hj ⊢
      match j, hj with
      | 0, _ => exact g0
      | 1, _ => exact g1
      | 2, _ => exact e2
      | 3, _ => exact g3
    · refine h 92 (by omega) (by omega) ⟨by decide, by simpa [ql_92] using hn, fun j hj => ?_⟩
      rw [ql_92 rfl] at hj ⊢
      match j, hj with
      | 0, _ => exact g0
      | 1, _ => exact g1
      | 2, _ => exact e2
      | 3, _ => exact g3
    · refine h 39 (by omega) (by omega) ⟨by decide, by simpa [ql_39] using hn, fun j hj => ?_⟩
      rw [ql_39 rfl] at hj ⊢
      match j, hj with
      | 0, _ => exact g0
      | 1, _ => exact g1
      | 2, _ => exact e2
      | 3, _ => exact g3
  · rintro ⟨hn, g0, hp, g2⟩
    have hb : 32 ≤ g 1 ∧ g 1 ≤ 126 := by unfold plainB at hp; grind
    refine h (g 1) (by omega) (by omega) ⟨by rw [ql_plain hp]; simp, by rw [ql_plain hp]; exact hn, fun j hj => ?_⟩
    rw [ql_plain hp] at hj ⊢
    match j, hj with
    | 0, _ => exact g0
    | 1, _ => rfl
    | 2, _ => exact g2

/-- the byte of a text at a place -/
def takeS (s : ByteArray) (i : Int) : Int × Int × Bool :=
  if 0 ≤ i ∧ i < s.size then takeF (s.size - i.toNat) (fun j => gAt s (i.toNat + j)) i else (0, 0, false)

def TakeTells (s : ByteArray) (i : Int) (e : Ending) : Prop := e = .returned (.tuple #[.int .u8 (takeS s i).1, .int .i64 (takeS s i).2.1, .bool (takeS s i).2.2])

theorem tells_mk {s : ByteArray} {i c e : Int} {ok : Bool} (h : takeS s i = (c, e, ok)) : TakeTells s i (.returned (.tuple #[.int .u8 c, .int .i64 e, .bool ok])) := by
  unfold TakeTells; rw [h]

theorem takeS_in {s : ByteArray} (i : Nat) (h : i < s.size) : takeS s i = takeF (s.size - i) (fun j => gAt s (i + j)) i := by
  unfold takeS; rw [if_pos (by omega)]; rfl

theorem take_in (s : ByteArray) (i : Nat) (g : Nat → Int) (w : World) (h0 : i < s.size) (h1 : s.size ≤ 9223372036854775000) (hT : Hid (takeS s i = takeF (s.size - i) g i))
   (hg : ∀ j (h : j < (s.extract i s.size).size), (((s.extract i s.size)[j]'h).toNat : Int) = g j) (hg0 : ∀ j, 0 ≤ g j) (hg1 : ∀ j, g j ≤ 255) :
    Calls Tryd.prog 64 #[.string s, .int .i64 i] w fun e w' => TakeTells s i e ∧ w = w' := by
  go_enter Tryd.func64, Tryd.ntmps64
  go_wp2_with (first | (go_at_call 79; refine (plain_any _ _ (hg0 _) (hg1 _)).mono ?_; rintro e w' ⟨rfl, rfl⟩) | (go_at_call 80; refine (esc_any _ _ (hg0 _) (hg1 _)).mono ?_; rintro e w' ⟨rfl, rfl⟩))
  all_goals go_ret3
  all_goals refine ⟨tells_mk ?_, rfl⟩
  all_goals rw [hT.out]
  all_goals unfold takeF
  all_goals grind [plainB]

theorem take_out (s : ByteArray) (i : Int) (w : World) (h0 : i < 0 ∨ s.size ≤ i) (h1 : s.size ≤ 9223372036854775000) :
    Calls Tryd.prog 64 #[.string s, .int .i64 i] w fun e w' => TakeTells s i e ∧ w = w' := by
  have hT := Lib.hid (show takeS s i = (0, 0, false) from by unfold takeS; rw [if_neg (by omega)])
  go_enter Tryd.func64, Tryd.ntmps64
  go_wp2_with (fail)
  all_goals go_ret3
  all_goals exact ⟨tells_mk hT.out, rfl⟩

theorem take_any (s : ByteArray) (i : Int) (w : World) (h1 : s.size ≤ 9223372036854775000) :
    Calls Tryd.prog 64 #[.string s, .int .i64 i] w fun e w' => TakeTells s i e ∧ w = w' := by
  by_cases h : 0 ≤ i ∧ i < s.size
  · obtain ⟨j, rfl⟩ := Int.eq_ofNat_of_zero_le h.1
    exact take_in s j (fun k => gAt s (j + k)) w (by omega) h1 (Lib.hid (takeS_in j (by omega))) (fun k hk => gAt_extract s j k hk) (fun k => gAt_lo _ _) (fun k => gAt_hi _ _)
  · exact take_out s i w (by omega) h1

theorem rtake_out (s : ByteArray) (i : Int) (w : World) (h0 : i < 0 ∨ s.size ≤ i) (h1 : s.size ≤ 9223372036854775000) :
    Calls Tryd.prog 75 #[.string s, .int .i64 i] w fun e w' => TakeTells s i e ∧ Below w.heap.size w w' := by
  have hT := Lib.hid (show takeS s i = (0, 0, false) from by unfold takeS; rw [if_neg (by omega)])
  go_enter Tryd.func75, Tryd.ntmps75
  go_wp2_with (fail)
  all_goals go_ret3
  all_goals exact ⟨tells_mk hT.out, Below.refl _ _⟩

theorem quote_size (c : Int) : (bytesOf (quoteL c)).size = (quoteL c).length := by
  unfold bytesOf; simp [ByteArray.size]

theorem quote_lo (c : Int) : ∀ x ∈ quoteL c, 0 ≤ x ∧ x ≤ 255 := by
  rcases quoteL_cases c with ⟨hp, hq⟩ | hq | ⟨l, hb, hc, hq, hp⟩
  · rw [hq]; unfold plainB at hp; grind
  · rw [hq]; simp
  · rw [hq]; unfold escB at hb; grind

/-- a row of bytes in a text are given numbers, just if each one is -/
theorem match_iff {s : ByteArray} {i : Nat} {c : Int} (hn : quoteL c ≠ []) (hi : i < s.size) (hl : (bytesOf (quoteL c)).size ≤ s.size - i) :
    ((s.extract i (i + (bytesOf (quoteL c)).size)).toList == (bytesOf (quoteL c)).toList) = true ↔ matchQ (s.size - i) (fun j => gAt s (i + j)) c := by
  rw [quote_size] at hl ⊢
  rw [extract_beq (by omega) (quote_lo c)]
  exact ⟨fun h => ⟨hn, hl, h⟩, fun h => h.2.2⟩

theorem next_none {s : ByteArray} {i k : Nat} (hp : ∀ c : Int, 9 ≤ c → c < k → ¬ matchQ (s.size - i) (fun j => gAt s (i + j)) c) (h : ¬ matchQ (s.size - i) (fun j => gAt s (i + j)) k) :
    ∀ c : Int, 9 ≤ c → c < ((k + 1 : Nat) : Int) → ¬ matchQ (s.size - i) (fun j => gAt s (i + j)) c := by
  intro c h9 hc
  by_cases e : c = k
  · rw [e]; exact h
  · exact hp c h9 (by omega)

theorem rtake_in (s : ByteArray) (i : Nat) (w : World) (h0 : i < s.size) (h1 : s.size ≤ 9223372036854775000) :
    Calls Tryd.prog 75 #[.string s, .int .i64 i] w fun e w' => TakeTells s i e ∧ Below w.heap.size w w' := by
  have d1 : decide ((i : Int) < 0) = false := by simp
  have d2 : decide (s.size ≤ i) = false := by simp; omega
  go_enter Tryd.func75, Tryd.ntmps75
  go_wp2_with (fail)
  go_loopw [7] (fun c wr => ∃ k : Nat, 9 ≤ k ∧ k ≤ 127 ∧ c = .int .i64 k ∧ Below w.heap.size w wr ∧ Hid (∀ c : Int, 9 ≤ c → c < k → ¬ matchQ (s.size - i) (fun j => gAt s (i + j)) c)) (fun c _ => 127 - (intOf c).toNat)
  case atStart => exact ⟨9, by omega, by omega, rfl, Below.refl _ _, Lib.hid (fun c h h' => by omega)⟩
  case round =>
    obtain ⟨k, hk9, hk, rfl, hb, hp⟩ := hrel
    by_cases hlt : k ≤ 126
    · have hw := IntWalk.u8_in (k : Int) ⟨by omega, by omega⟩
      obtain ⟨B, hB⟩ : ∃ B, Hid (B = bytesOf (quoteL k)) := ⟨_, Lib.hid rfl⟩
      have hBz : B.size ≤ 4 := by rw [hB.out, quote_size]; rcases quoteL_cases k with ⟨_, h⟩ | h | ⟨l, _, _, h, _⟩ <;> rw [h] <;> simp
      by_cases hq : B.toList.isEmpty = true
      · go_wp2_with (first | (go_at_call 45; refine (quote_any _ _ (by omega) (by omega)).mono ?_; rintro e w' ⟨rfl, hb1⟩; rw [← hB.out]))
        go_roundw
        case rel => exact ⟨k + 1, by omega, by omega, by go_num, hb.trans (hb1.mono hb.size), Lib.hid (next_none hp.out (fun hm => hm.1 (by have := hB.out ▸ hq; rw [Lib.toList_data] at this; simpa [bytesOf] using this)))⟩
        case measure => simp [intOf]; omega
      · have hq' : B.toList.isEmpty = false := by simpa using hq
        have hn : quoteL k ≠ [] := fun h => hq (by rw [hB.out, h, Lib.toList_data]; rfl)
        have HN := Lib.hid hn; clear hn hq
        by_cases hl : B.size ≤ s.size - i
        · cases hm : ((s.extract i (i + B.size)).toList == B.toList)
          · go_wp2_with (first | (go_at_call 45; refine (quote_any _ _ (by omega) (by omega)).mono ?_; rintro e w' ⟨rfl, hb1⟩; rw [← hB.out]))
            go_roundw
            case rel => exact ⟨k + 1, by omega, by omega, by go_num, hb.trans (hb1.mono hb.size), Lib.hid (next_none hp.out (fun h => by have h2 := (match_iff HN.out h0 (hB.out ▸ hl)).2 h; rw [← hB.out, hm] at h2; cases h2))⟩
            case measure => simp [intOf]; omega
          · go_wp2_with (first | (go_at_call 45; refine (quote_any _ _ (by omega) (by omega)).mono ?_; rintro e w' ⟨rfl, hb1⟩; rw [← hB.out]))
            go_ret3
            have h2 := take_match i ((match_iff HN.out h0 (hB.out ▸ hl)).1 (hB.out ▸ hm))
            exact ⟨tells_mk (by rw [takeS_in i h0, h2, ← quote_size, ← hB.out]), hb.trans (hb1.mono hb.size)⟩
        · go_wp2_with (first | (go_at_call 45; refine (quote_any _ _ (by omega) (by omega)).mono ?_; rintro e w' ⟨rfl, hb1⟩; rw [← hB.out]))
          go_roundw
          case rel => exact ⟨k + 1, by omega, by omega, by go_num, hb.trans (hb1.mono hb.size), Lib.hid (next_none hp.out (fun hm => hl (by rw [hB.out, quote_size]; exact hm.2.1)))⟩
          case measure => simp [intOf]; omega
    · go_wp2_with (fail)
      go_ret3
      exact ⟨tells_mk (by rw [takeS_in i h0]; exact take_none _ (fun c h9 h127 => hp.out c h9 (by omega))), hb⟩

theorem rtake_any (s : ByteArray) (i : Int) (w : World) (h1 : s.size ≤ 9223372036854775000) :
    Calls Tryd.prog 75 #[.string s, .int .i64 i] w fun e w' => TakeTells s i e ∧ Below w.heap.size w w' := by
  by_cases h : 0 ≤ i ∧ i < s.size
  · obtain ⟨j, rfl⟩ := Int.eq_ofNat_of_zero_le h.1
    exact rtake_in s j w (by omega) h1
  · exact rtake_out s i w (by omega) h1

end Go.Proofs.YtmpdpgbcflogfaaDoor
