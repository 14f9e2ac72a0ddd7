/- What a source of one symbol and one rule is, and its text. -/
import Derived.Test.YtnoppoifepbchaaDoorSyms1
namespace Go.Proofs.YtnoppoifepbchaaDoor
open Go.RowKit
set_option linter.unusedVariables false
set_option linter.unusedSimpArgs false

def symsS (q nm : ByteArray) (n : Int) : So := ⟨⟨#[]⟩, [⟨1, ⟨#[]⟩, [⟨q, true, 0, 0⟩, ⟨⟨#[65]⟩, false, n, 0⟩], 0⟩], [ruleOf nm q], ⟨#[]⟩⟩
def symsT (Q nm D : ByteArray) : ByteArray := ((((((((⟨#[37, 116, 111, 107, 101, 110, 32]⟩ : ByteArray) ++ Q) ++ ⟨#[32, 65]⟩) ++ D) ++ ⟨#[10, 37, 37, 10]⟩) ++ nm) ++ ⟨#[32, 58, 32]⟩) ++ Q) ++ ⟨#[32, 59, 10]⟩

theorem gAt_one (c : Int) (h0 : 0 ≤ c) (h1 : c ≤ 255) : gAt (bytesOf [c]) 0 = c := by
  unfold gAt bytesOf
  simp
  omega
theorem pct_none : pctB ⟨#[]⟩ = false := by decide +kernel
theorem name_A : isNameB ⟨#[65]⟩ = true := by decide +kernel
theorem noneB_none : noneB ⟨⟨#[]⟩, false, 0, 0⟩ = true := by decide +kernel
theorem sym_q (num : Bool) (c : Int) (h0 : 0 ≤ c) (h1 : c ≤ 255) : symB num true ⟨bytesOf [c], true, 0, 0⟩ = quotB c := by
  unfold symB
  rw [if_pos rfl]
  simp only [gAt_one c h0 h1]
  rw [show (bytesOf [c]).size = 1 from rfl]
  simp
theorem sym_A (n : Int) : symB true true ⟨⟨#[65]⟩, false, n, 0⟩ = decide (n = 0 ∨ 1 ≤ n ∧ n ≤ 50000) := by
  unfold symB
  rw [if_neg (by simp)]
  simp [name_A]
theorem syms_may (c n : Int) (nm : ByteArray) (h0 : 0 ≤ c) (h1 : c ≤ 255) : maySo (symsS (bytesOf [c]) nm n) = (quotB c && (decide (n = 0 ∨ 1 ≤ n ∧ n ≤ 50000) && isNameB nm)) := by
  have e1 : mayDc ⟨1, ⟨#[]⟩, [⟨bytesOf [c], true, 0, 0⟩, ⟨⟨#[65]⟩, false, n, 0⟩], 0⟩ = (quotB c && decide (n = 0 ∨ 1 ≤ n ∧ n ≤ 50000)) := by
    unfold mayDc
    rw [show dcB ⟨1, ⟨#[]⟩, [⟨bytesOf [c], true, 0, 0⟩, ⟨⟨#[65]⟩, false, n, 0⟩], 0⟩ = true from decide_eq_true ⟨show (1:Int) ≤ 1 by omega, show (1:Int) ≤ 6 by omega, by simp, fun h => absurd (show (1:Int) = 6 from h) (by omega), fun h => absurd (show (1:Int) = 5 from h) (by omega), .inl rfl⟩]
    simp only [Bool.true_and, List.all_cons, List.all_nil, Bool.and_true]
    rw [show ((1 : Int) == 1) = true from rfl, show decide ((1 : Int) < 5) = true from rfl, sym_q true c h0 h1, sym_A]
  have e2 : mayRl (ruleOf nm (bytesOf [c])) = (isNameB nm && quotB c) := by
    unfold mayRl ruleOf mayAl mayPt
    simp only [List.all_cons, List.all_nil, Bool.and_true]
    rw [if_pos (show (⟨#[]⟩ : ByteArray).size = 0 from rfl), sym_q false c h0 h1, noneB_none]
    simp
  unfold maySo symsS
  simp only [pct_none, List.all_cons, List.all_nil, Bool.and_true, e1, e2]
  cases quotB c <;> cases isNameB nm <;> simp

theorem syms_text (c n : Int) (nm D : ByteArray) (h0 : 0 ≤ c) (h1 : c ≤ 255) (hq : quotB c = true) (hn : n = 0 ∨ 1 ≤ n ∧ n ≤ 50000) (hm : isNameB nm = true) (hD : D.data.toList = if n = 0 then [] else 32 :: (numT n).data.toList) :
    soT (symsS (bytesOf [c]) nm n) = (symsT (bytesOf (quoteL c)) nm D).data.toList := by
  have hmay := syms_may c n nm h0 h1
  rw [hq, hm, decide_eq_true hn] at hmay
  have e1 : symT ⟨bytesOf [c], true, 0, 0⟩ = bytesOf (quoteL c) := by
    unfold symT; rw [if_pos rfl]; simp only [gAt_one c h0 h1]
  have e2 : symT ⟨⟨#[65]⟩, false, n, 0⟩ = ⟨#[65]⟩ := rfl
  have e3 : (⟨#[]⟩ : ByteArray).size = 0 := rfl
  have e4 : keyS 1 = ⟨#[37, 116, 111, 107, 101, 110]⟩ := rfl
  unfold soT
  rw [if_pos (by rw [hmay]; rfl)]
  unfold symsS symsT declT declTl ruleT ruleTl barL altL proT tailT ruleOf declSm partT
  simp only [List.flatMap_cons, List.flatMap_nil, List.map_cons, List.map_nil, noneB_none, e1, e2, e3, e4, if_true, ba_data, hD, tailSp_append, tailSp, List.append_nil, List.nil_append]
  by_cases h : n = 0
  · simp [h]
  · simp [h]

theorem symsS_small (q nm : ByteArray) (n : Int) (hq : q.size ≤ 1000000) (hm : nm.size ≤ 1000000) : SoSmall (symsS q nm n) ∧ SoFew (symsS q nm n) := by
  have h := ruleOf_small nm q hm hq
  refine ⟨⟨by show (⟨#[]⟩ : ByteArray).size ≤ _; decide, by show (⟨#[]⟩ : ByteArray).size ≤ _; decide, fun d hd => ?_, fun r hr => ?_⟩, by simp [symsS], by simp [symsS], fun d hd => ?_, fun r hr => ?_⟩
  · obtain rfl : d = _ := by simpa [symsS] using hd
    refine ⟨by show (⟨#[]⟩ : ByteArray).size ≤ _; decide, fun x hx => ?_⟩
    simp at hx
    rcases hx with rfl | rfl
    · exact hq
    · show (⟨#[65]⟩ : ByteArray).size ≤ _; decide
  · obtain rfl : r = _ := by simpa [symsS] using hr
    exact h.1
  · obtain rfl : d = _ := by simpa [symsS] using hd
    simp
  · obtain rfl : r = _ := by simpa [symsS] using hr
    exact h.2

/-- the declaration of two symbols -/
theorem decl_laid {W : World} {bs bd : Nat} {q : ByteArray} {n : Int}
    (hs : W.heap[bs]? = some (.cells #[.string q, .bool true, .int .i64 0, .int .i64 0, .string ⟨#[65]⟩, .bool false, .int .i64 n, .int .i64 0] 40 (0, 0)))
    (hd : W.heap[bd]? = some (.cells #[.int .i64 1, .string ⟨#[]⟩, .slice (some ⟨bs, 0, none⟩) 2 2, .int .i64 0] 51 (0, 0))) :
    DcsV W (.slice (some ⟨bd, 0, none⟩) 1 1) [⟨1, ⟨#[]⟩, [⟨q, true, 0, 0⟩, ⟨⟨#[65]⟩, false, n, 0⟩], 0⟩] :=
  list_one hd rfl ⟨_, rfl, list_two hs rfl rfl rfl⟩
theorem numT_few (k : Nat) (h1 : k ≤ 50000) : (numT k).size ≤ 10 := by
  have e : (numT (k : Int)).size = Lib.nDigits k := by
    show (Lib.itoa (k : Int)).toArray.size = _
    unfold Lib.itoa
    rw [if_neg (by omega)]
    simp [Lib.decDigits_length]
  rw [e]
  rw [Lib.nDigits]; split
  · omega
  rw [Lib.nDigits]; split
  · omega
  rw [Lib.nDigits]; split
  · omega
  rw [Lib.nDigits]; split
  · omega
  rw [Lib.nDigits]; split <;> omega
theorem text_25 (s : ByteArray) (w : World) (hs : s.size ≤ maxLen) : Calls Tryd.prog 22 #[.string s, .int .i64 25] w fun e w' => e = .returned (.string (cutT s 25)) ∧ w = w' := text_any s 25 w hs (by omega)
end Go.Proofs.YtnoppoifepbchaaDoor
