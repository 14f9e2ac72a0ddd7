/- Texts of symbols and alternatives. -/
import Derived.Test.YtnoppoifepbchaaDoorMay8
import Derived.Test.YtnoppoifepbchaaDoorQuote
import Derived.Deep.AppendLies
namespace Go.Proofs.YtnoppoifepbchaaDoor
section
open Go.RowKit
set_option linter.unusedVariables false
set_option linter.unusedSimpArgs false

/-- each behind a blank -/
def tailSp (l : List ByteArray) : List UInt8 := l.flatMap (fun y => 32 :: y.data.toList)
theorem tailSp_append (l m : List ByteArray) : tailSp (l ++ m) = tailSp l ++ tailSp m := by unfold tailSp; rw [List.flatMap_append]
theorem tailSp_one (y : ByteArray) : tailSp [y] = 32 :: y.data.toList := by simp [tailSp]
theorem ba_data (a b : ByteArray) : (a ++ b).data.toList = a.data.toList ++ b.data.toList := by rw [ByteArray.data_append, Array.toList_append]
theorem ba_len (a : ByteArray) : a.data.toList.length = a.size := rfl
theorem ba_of {a b : ByteArray} (h : a.data.toList = b.data.toList) : a = b := by
 apply ByteArray.ext; exact Array.toList_inj.1 h

def symT (x : Sm) : ByteArray := if x.lit = true then bytesOf (quoteL (gAt x.name 0)) else x.name
def partT (p : Pt) : ByteArray := if p.code.size = 0 then symT p.sym else p.code
def altL (a : Al) : List ByteArray := a.parts.map partT ++ (if noneB a.prec = true then [] else [⟨#[37, 112, 114, 101, 99]⟩, symT a.prec])
/-- it has a byte, if it stands in quotes -/
def SmTx (x : Sm) : Prop := x.lit = true → 1 ≤ x.name.size
def PtTx (p : Pt) : Prop := p.code.size = 0 → SmTx p.sym
def AlTx (a : Al) : Prop := (∀ p ∈ a.parts, PtTx p) ∧ (noneB a.prec = false → SmTx a.prec)
theorem quoteL_size (c : Int) : (bytesOf (quoteL c)).size ≤ 4 := by
 rw [bytes_size]; unfold quoteL
 repeat' split
 all_goals simp
theorem symT_size (x : Sm) (h : SmSmall x) : (symT x).size ≤ 1000000 := by
 unfold symT
 split
 · have := quoteL_size (gAt x.name 0); omega
 · exact h
theorem partT_size (p : Pt) (h : PtSmall p) : (partT p).size ≤ 1000000 := by
 unfold partT
 split
 · exact symT_size _ h.1
 · exact h.2
theorem symTx_of {num lit : Bool} {x : Sm} (h : symB num lit x = true) : SmTx x := by
 intro hl
 unfold symB at h
 rw [if_pos hl, decide_eq_true_iff] at h
 omega
theorem ptTx_of {p : Pt} (h : mayPt p = true) : PtTx p := by
 intro hc
 unfold mayPt at h
 rw [if_pos hc] at h
 exact symTx_of h
theorem alTx_of {a : Al} (h : mayAl a = true) : AlTx a := by
 unfold mayAl at h
 rw [Bool.and_eq_true, List.all_eq_true, Bool.or_eq_true] at h
 refine ⟨fun p hp => ptTx_of (h.1 p hp), fun hn => ?_⟩
 rcases h.2 with h2 | h2
 · rw [hn] at h2; cases h2
 · exact symTx_of h2

set_option maxRecDepth 100000 in
theorem rsymText_any (x : Sm) (w : World) (h : SmTx x) : Calls Tryd.prog 42 #[x.agg] w fun e w' => e = .returned (.string (symT x)) ∧ Below w.heap.size w w' := by
 have HR : Hid (symT x = if x.lit = true then bytesOf (quoteL (gAt x.name 0)) else x.name) := Lib.hid rfl
 generalize symT x = R at HR ⊢
 obtain ⟨n, l, m, p⟩ := x
 unfold Sm.agg
 unfold SmTx at h
 simp only at HR h ⊢
 have hg := fun j h => gAt_get n j h
 have HQ := Lib.hid (fun W => quote_any (gAt n 0) W (gAt_lo n 0) (gAt_hi n 0))
 generalize gAt n = g at *
 cases l with
 | true =>
   have h1 : 0 < n.size := by have := h rfl; omega
   have HR2 : Hid (R = bytesOf (quoteL (g 0))) := Lib.hid (by rw [HR.out]; simp)
   generalize bytesOf (quoteL (g 0)) = T at HQ HR2
   clear HR h
   go_enter Tryd.func42, Tryd.ntmps42
   go_wp2_with (first | (go_at_call 23; rw [hg]; refine (HQ.out _).mono ?_; rintro e w9 ⟨rfl, hb9⟩) | (go_at_call 23; refine (HQ.out _).mono ?_; rintro e w9 ⟨rfl, hb9⟩))
   go_ret
   exact ⟨ret_str (by rw [HR2.out]), ((Below.refl _ _).alloc (Nat.le_refl _) _).trans (hb9.mono (by simp))⟩
 | false =>
   have HR2 : Hid (R = n) := Lib.hid (by rw [HR.out]; simp)
   clear HR h HQ
   go_enter Tryd.func42, Tryd.ntmps42
   go_wp2_with fail
   go_ret
   exact ⟨ret_str (by rw [HR2.out]), (Below.refl _ _).alloc (Nat.le_refl _) _⟩

set_option maxRecDepth 100000 in
theorem psymText_any (x : Sm) (w : World) (h : SmTx x) : Calls Tryd.prog 71 #[x.agg] w fun e w' => e = .returned (.string (symT x)) ∧ Below w.heap.size w w' := by
 have HR : Hid (symT x = if x.lit = true then bytesOf (quoteL (gAt x.name 0)) else x.name) := Lib.hid rfl
 generalize symT x = R at HR ⊢
 obtain ⟨n, l, m, p⟩ := x
 unfold Sm.agg
 unfold SmTx at h
 simp only at HR h ⊢
 have hg := fun j h => gAt_get n j h
 have HQ := Lib.hid (fun W => ctext_any (gAt n 0) W (gAt_lo n 0) (gAt_hi n 0))
 generalize gAt n = g at *
 cases l with
 | true =>
   have h1 : 0 < n.size := by have := h rfl; omega
   have HR2 : Hid (R = bytesOf (quoteL (g 0))) := Lib.hid (by rw [HR.out]; simp)
   generalize bytesOf (quoteL (g 0)) = T at HQ HR2
   clear HR h
   go_enter Tryd.func71, Tryd.ntmps71
   go_wp2_with (first | (go_at_call 98; rw [hg]; refine (HQ.out _).mono ?_; rintro e w9 ⟨rfl, hb9⟩) | (go_at_call 98; refine (HQ.out _).mono ?_; rintro e w9 ⟨rfl, hb9⟩))
   go_ret
   exact ⟨ret_str (by rw [HR2.out]), ((Below.refl _ _).alloc (Nat.le_refl _) _).trans (hb9.mono (by simp))⟩
 | false =>
   have HR2 : Hid (R = n) := Lib.hid (by rw [HR.out]; simp)
   clear HR h HQ
   go_enter Tryd.func71, Tryd.ntmps71
   go_wp2_with fail
   go_ret
   exact ⟨ret_str (by rw [HR2.out]), (Below.refl _ _).alloc (Nat.le_refl _) _⟩

theorem take_map {l : List Pt} {k : Nat} {x : Pt} (hx : l[k]? = some x) : tailSp ((l.take (k + 1)).map partT) = tailSp ((l.take k).map partT) ++ (32 :: (partT x).data.toList) := by
 obtain ⟨hk, rfl⟩ := List.getElem?_eq_some_iff.1 hx
 rw [List.take_succ_eq_append_getElem hk, List.map_append, tailSp_append, List.map_cons, List.map_nil, tailSp_one]

/-- what a text function tells: a text of these bytes -/
def TellsTx (l : List UInt8) (w : World) (e : Ending) (w' : World) : Prop := ∃ S : ByteArray, e = .returned (.string S) ∧ S.data.toList = l ∧ Below w.heap.size w w'

set_option maxRecDepth 100000 in
set_option maxHeartbeats 4000000 in
theorem altText_any (v : Value) (a : Al) (w : World) (h : AlV w v a) (hs : AlSmall a) (ht : AlTx a) (hf : a.parts.length ≤ 401) :
  Calls Tryd.prog 43 #[v] w (TellsTx (tailSp (altL a)) w) := by
 obtain ⟨pv, rfl, h⟩ := h
 obtain ⟨a1, n, c, rfl, hn, hc, hm, hx⟩ := h.open
 have HR : Hid (tailSp (altL a) = tailSp (a.parts.map partT) ++ (if noneB a.prec = true then [] else [32, 37, 112, 114, 101, 99, 32] ++ (symT a.prec).data.toList)) := Lib.hid (by
  unfold altL; rw [tailSp_append]; congr 1; split <;> simp [tailSp])
 have HN := Lib.hid (fun W => none_any a.prec W)
 have HT := Lib.hid (fun W (hn : noneB a.prec = false) => rsymText_any a.prec W (ht.2 hn))
 have hsz := symT_size a.prec hs.2
 have HP := Lib.hid (fun p hp => And.intro (hs.1 p hp) (ht.1 p hp))
 have hn100 : n ≤ 401 := by rw [hn.out]; exact hf
 generalize tailSp (altL a) = R at HR ⊢
 generalize noneB a.prec = nb at HN HR HT
 generalize symT a.prec = sT at HT HR hsz
 obtain ⟨la, ⟨an, al, am, ap⟩, ka⟩ := a
 simp only [Sm.agg] at *
 clear h hs ht hf
 have hba := (Below.refl w.heap.size w).alloc (Nat.le_refl _) (.cells #[.slice a1 n c, .string an, .bool al, .int .i64 am, .int .i64 ap, .int .i64 ka] 42)
 have HC := Lib.hid (fun W hW => box1 (w := w) (A := #[.slice a1 n c, .string an, .bool al, .int .i64 am, .int .i64 ap, .int .i64 ka]) (T := 42) (W := W) hW)
 go_enter Tryd.func43, Tryd.ntmps43
 go_wp2_with fail
 go_loopw [4, 3] (fun i s wr => ∃ (k : Nat) (S : ByteArray), k ≤ n ∧ i = .int .i64 k ∧ s = .string S ∧ Below (w.alloc (.cells #[.slice a1 n c, .string an, .bool al, .int .i64 am, .int .i64 ap, .int .i64 ka] 42)).heap.size (w.alloc (.cells #[.slice a1 n c, .string an, .bool al, .int .i64 am, .int .i64 ap, .int .i64 ka] 42)) wr ∧ Hid (S.data.toList = tailSp ((la.take k).map partT)) ∧ S.size ≤ k * 1000001) (fun i _ _ => n - (intOf i).toNat)
 case atStart => exact ⟨0, ByteArray.empty, Nat.zero_le _, rfl, rfl, Below.refl _ _, Lib.hid rfl, Nat.zero_le _⟩
 case round =>
  obtain ⟨k, S, hk, rfl, rfl, hbr, hp, hS⟩ := hrel
  have q0 := HC.out wr hbr 0 _ rfl
  have q1 := HC.out wr hbr 1 _ rfl
  have q2 := HC.out wr hbr 2 _ rfl
  have q3 := HC.out wr hbr 3 _ rfl
  have q4 := HC.out wr hbr 4 _ rfl
  have hbw := hba.trans (hbr.mono hba.size)
  by_cases hlt : k < n
  · obtain ⟨b, o, x, rfl, ex, x0, x1, x2, x3, x4, x5⟩ := hx.out k hlt
    have hb1 := World.block_lt_of_cell? _ _ x0
    replace x0 := (hbw.cell (p := ⟨b, o + k * 6, none⟩) hb1).trans x0
    replace x1 := (hbw.cell (p := ⟨b, o + k * 6 + 1, none⟩) hb1).trans x1
    replace x2 := (hbw.cell (p := ⟨b, o + k * 6 + 2, none⟩) hb1).trans x2
    replace x3 := (hbw.cell (p := ⟨b, o + k * 6 + 3, none⟩) hb1).trans x3
    replace x4 := (hbw.cell (p := ⟨b, o + k * 6 + 4, none⟩) hb1).trans x4
    have HPx := HP.out x (mem_at ex)
    have hpz := partT_size x HPx.1
    have HX : Hid (partT x = if x.code.size = 0 then symT x.sym else x.code) := Lib.hid rfl
    have HQ := Lib.hid (fun W (h : x.code.size = 0) => rsymText_any x.sym W (HPx.2 h))
    have HM := Lib.hid (take_map ex)
    generalize partT x = T at HX HM hpz
    generalize symT x.sym = sy at HX HQ
    obtain ⟨⟨xn, xl, xm, xp⟩, xc, xk⟩ := x
    simp only [Sm.agg] at x0 x1 x2 x3 x4 HX HQ
    have i1 : (k : Int) < (n : Int) := by omega
    clear ex hx HPx HP HN HT q1 q2 q3 q4
    by_cases hcz : xc.size = 0
    · have d1 := str_empty hcz
      obtain rfl : T = sy := by rw [HX.out, if_pos hcz]
      have HQ2 := Lib.hid (fun W => HQ.out W hcz)
      have HN2 : Hid ((S ++ (⟨#[32]⟩ : ByteArray) ++ T).data.toList = tailSp ((la.take (k + 1)).map partT)) := Lib.hid (by rw [HM.out, ba_data, ba_data, hp.out]; simp)
      have hS2 : (S ++ (⟨#[32]⟩ : ByteArray) ++ T).size ≤ (k + 1) * 1000001 := by
       rw [ByteArray.size_append, ByteArray.size_append]; have : (⟨#[32]⟩ : ByteArray).size = 1 := rfl; omega
      clear HX hcz HQ
      go_wp2_with (first | (go_at_call 42; refine (HQ2.out _).mono ?_; rintro e w9 ⟨rfl, hb9⟩))
      have hz2 := hbr.trans (hb9.mono hbr.size)
      go_roundw
      case rel => exact ⟨k + 1, _, by omega, by go_num, rfl, hz2, HN2, hS2⟩
      case measure => simp [intOf]; omega
    · have d1 := str_some hcz
      obtain rfl : T = xc := by rw [HX.out, if_neg hcz]
      have HN2 : Hid ((S ++ (⟨#[32]⟩ : ByteArray) ++ T).data.toList = tailSp ((la.take (k + 1)).map partT)) := Lib.hid (by rw [HM.out, ba_data, ba_data, hp.out]; simp)
      have hS2 : (S ++ (⟨#[32]⟩ : ByteArray) ++ T).size ≤ (k + 1) * 1000001 := by
       rw [ByteArray.size_append, ByteArray.size_append]; have : (⟨#[32]⟩ : ByteArray).size = 1 := rfl; omega
      clear HX hcz HQ
      go_wp2_with fail
      go_roundw
      case rel => exact ⟨k + 1, _, by omega, by go_num, rfl, hbr, HN2, hS2⟩
      case measure => simp [intOf]; omega
  · have e1 : la.take k = la := List.take_of_length_le (by have := hn.out; omega)
    rw [e1] at hp
    clear hx HP
    cases nb with
    | true =>
      go_wp2_with (first | (go_at_call 67; refine (HN.out _).mono ?_; rintro e w9 ⟨rfl, hb9⟩))
      go_ret
      exact ⟨_, rfl, by rw [HR.out, hp.out]; simp, hbw.trans (hb9.mono hbw.size)⟩
    | false =>
      have HT2 := Lib.hid (fun W => HT.out W rfl)
      go_wp2_with (first | (go_at_call 67; refine (HN.out _).mono ?_; rintro e w9 ⟨rfl, hb9⟩; have p1 := (hb9.cell (World.block_lt_of_cell? _ _ q1)).trans q1; have p2 := (hb9.cell (World.block_lt_of_cell? _ _ q2)).trans q2; have p3 := (hb9.cell (World.block_lt_of_cell? _ _ q3)).trans q3; have p4 := (hb9.cell (World.block_lt_of_cell? _ _ q4)).trans q4) | (go_at_call 42; refine (HT2.out _).mono ?_; rintro e w8 ⟨rfl, hb8⟩))
      go_ret
      exact ⟨_, rfl, by rw [HR.out, ba_data, ba_data, hp.out]; simp, hbw.trans ((hb9.trans (hb8.mono hb9.size)).mono hbw.size)⟩
end
section
open Go.RowKit
set_option linter.unusedVariables false
set_option linter.unusedSimpArgs false

def keyCells : Array Value := #[.string (keyS 1), .string (keyS 2), .string (keyS 3), .string (keyS 4), .string (keyS 5), .string (keyS 6), .string ⟨#[37, 112, 114, 101, 99]⟩]
theorem keys_any (w : World) : Calls Tryd.prog 12 #[] w fun e w' => e = .returned (.slice (some ⟨w.heap.size, 0, none⟩) 7 7) ∧ w' = w.alloc (.cells keyCells 9) := by
 go_enter Tryd.func12, Tryd.ntmps12
 go_wp2_with fail
 go_ret
 exact ⟨rfl, rfl⟩

/-- a symbol of a declaration, and its number -/
def declSm (x : Sm) : List ByteArray := symT x :: (if x.num = 0 then [] else [numT x.num])
def declTl (d : Dc) : List ByteArray := (if d.tag.size = 0 then [] else [⟨#[60]⟩ ++ d.tag ++ ⟨#[62]⟩]) ++ d.syms.flatMap declSm
def declT (d : Dc) : List UInt8 := (keyS d.kind).data.toList ++ tailSp (declTl d)
/-- alternatives, bars between -/
def barL : List Al → List ByteArray
 | [] => []
 | a :: l => altL a ++ l.flatMap (fun b => ⟨#[124]⟩ :: altL b)
def ruleTl (r : Rl) : List ByteArray := [⟨#[58]⟩] ++ barL r.alts ++ [⟨#[59]⟩]
def ruleT (r : Rl) : List UInt8 := r.left.data.toList ++ tailSp (ruleTl r)
def proT (s : ByteArray) : List UInt8 := if s.size = 0 then [] else [37, 123] ++ s.data.toList ++ [37, 125, 10]
def tailT (s : ByteArray) : List UInt8 := if s.size = 0 then [] else [37, 37] ++ s.data.toList
def soT (s : So) : List UInt8 :=
 if maySo s = true then proT s.pro ++ s.decls.flatMap (fun d => declT d ++ [10]) ++ [37, 37, 10] ++ s.rules.flatMap (fun r => ruleT r ++ [10]) ++ tailT s.tail else []

/-- not too many of each -/
def RlFew (r : Rl) : Prop := r.alts.length ≤ 401 ∧ ∀ a ∈ r.alts, a.parts.length ≤ 401
def SoFew (s : So) : Prop := s.decls.length ≤ 401 ∧ s.rules.length ≤ 401 ∧ (∀ d ∈ s.decls, d.syms.length ≤ 401) ∧ ∀ r ∈ s.rules, RlFew r

theorem flat_next {α : Type} (f : α → List UInt8) {l : List α} {k : Nat} {x : α} (hx : l[k]? = some x) : (l.take (k + 1)).flatMap f = (l.take k).flatMap f ++ f x := by
 obtain ⟨hk, rfl⟩ := List.getElem?_eq_some_iff.1 hx
 rw [List.take_succ_eq_append_getElem hk, List.flatMap_append]; simp
theorem flatT_next {α : Type} (f : α → List ByteArray) {l : List α} {k : Nat} {x : α} (hx : l[k]? = some x) : tailSp ((l.take (k + 1)).flatMap f) = tailSp ((l.take k).flatMap f) ++ tailSp (f x) := by
 obtain ⟨hk, rfl⟩ := List.getElem?_eq_some_iff.1 hx
 rw [List.take_succ_eq_append_getElem hk, List.flatMap_append, tailSp_append]; simp
theorem bar_next {l : List Al} {k : Nat} {x : Al} (hx : l[k]? = some x) : tailSp (barL (l.take (k + 1))) = tailSp (barL (l.take k)) ++ (if k = 0 then [] else [32, 124]) ++ tailSp (altL x) := by
 cases l with
 | nil => simp at hx
 | cons a l =>
   cases k with
   | zero =>
     obtain rfl : a = x := by simpa using hx
     simp [barL, tailSp]
   | succ k =>
     have hx' : l[k]? = some x := by simpa using hx
     rw [List.take_succ_cons, List.take_succ_cons, barL, barL, tailSp_append, tailSp_append, flatT_next _ hx', if_neg (by omega)]
     rw [show (⟨#[124]⟩ : ByteArray) :: altL x = [⟨#[124]⟩] ++ altL x from rfl, tailSp_append, tailSp_one]
     simp
end
section
open Go.RowKit
set_option linter.unusedVariables false

section
variable {α : Type} {base : Nat} {E : TypeId} {size : Nat} {R : World → List Value → α → Prop} {S S' : Nat → Prop} {V w w5 : World} {v new : Value} {xs cs : List Value} {l : List α} {x : α} {B j : Nat} {cells : Array Value} {T : TypeId}
theorem GrowL.firm (h : GrowL base E size R S w v xs l) (hs : 0 < size) :
  Firm (fun b => S b ∨ v.ownBlock = some b) w (fun w' => ListV size R w' v l) := ⟨h.lt, fun w' hw => (h.keep hw).list hs⟩
theorem GrowL.box (h : GrowL base E size R S V v xs l) (hb : Below V.heap.size V w) (ho : w5.ownsRow base E size new (l.length + 1) (xs ++ cs)) (hg : w.grownBy w5 v.ownBlock)
  (hl : new.ownBlock = v.ownBlock ∨ new.ownBlock = some w.heap.size) (hc : cs.length = size) (hx : Firm S' w (fun w' => R w' cs x)) (hn : ∀ k, v.ownBlock = some k → ¬ S' k)
  (hB : B < base) (hbox : V.heap[B]? = some (.cells cells T (0, 0))) (hS : ∀ b, S b ∨ S' b → b ≠ B) :
  GrowL base E size R (fun b => S b ∨ S' b) (w5.setCell ⟨B, j, none⟩ new) new (xs ++ cs) (l ++ [x]) ∧
  (w5.setCell ⟨B, j, none⟩ new).heap[B]? = some (.cells (cells.setIfInBounds j new) T (0, 0)) ∧
  (∀ D, D ≤ B → Below D w (w5.setCell ⟨B, j, none⟩ new)) ∧ (∀ b, b < w.heap.size → b ≠ B → b < base → (w5.setCell ⟨B, j, none⟩ new).heap[b]? = w.heap[b]?) := by
 have hlt : B < V.heap.size := (Array.getElem?_eq_some_iff.1 hbox).1
 have hne : ∀ k, v.ownBlock = some k → B < k := fun k hk => Nat.lt_of_lt_of_le hB (own_base h.own (Nat.le_refl _) k hk)
 have p := (h.below hb).push ho hg hl hc hx hn
 refine ⟨p.keep (fun b hb' => Below.heap_setCell _ _ _ _ ?_), block_setCell ?_, fun D hD => ?_, fun b hb1 hb2 hb3 => (Below.heap_setCell _ _ _ _ hb2).trans (hg.block b hb1 (fun e => by have := own_base h.own (Nat.le_refl _) b e.symm; omega))⟩
 · show b ≠ B
   rcases hb' with hb' | hb'
   · exact hS b hb'
   · have := own_base ho (Nat.le_refl _) b hb'
     omega
 · exact (hg.block B (Nat.lt_of_lt_of_le hlt hb.size) (fun e => Nat.lt_irrefl _ (hne B e.symm))).trans ((hb.block B hlt).trans hbox)
 · have h1 := hb.size
   exact ((Below.refl D w).grown hg (by omega) (fun k hk => by have := hne k hk; omega)).setCell hD new
/-- elements that lead nowhere -/
theorem GrowL.box0 (h : GrowL base E size R (fun _ => False) V v xs l) (hb : Below V.heap.size V w) (ho : w5.ownsRow base E size new (l.length + 1) (xs ++ cs)) (hg : w.grownBy w5 v.ownBlock)
  (hl : new.ownBlock = v.ownBlock ∨ new.ownBlock = some w.heap.size) (hc : cs.length = size) (hx : ∀ w', R w' cs x)
  (hB : B < base) (hbox : V.heap[B]? = some (.cells cells T (0, 0))) :
  GrowL base E size R (fun _ => False) (w5.setCell ⟨B, j, none⟩ new) new (xs ++ cs) (l ++ [x]) ∧
  (w5.setCell ⟨B, j, none⟩ new).heap[B]? = some (.cells (cells.setIfInBounds j new) T (0, 0)) ∧
  (∀ D, D ≤ B → Below D w (w5.setCell ⟨B, j, none⟩ new)) ∧ (∀ b, b < w.heap.size → b ≠ B → b < base → (w5.setCell ⟨B, j, none⟩ new).heap[b]? = w.heap[b]?) := by
 have p := h.box (j := j) hb ho hg hl hc (Firm.pure hx) (fun _ _ h => h) hB hbox (fun b hb => (hb.elim id id).elim)
 rw [show (fun b : Nat => (fun _ => False) b ∨ (fun _ => False) b) = fun _ => False from funext (fun b => by simp)] at p
 exact p
/-- what the append's law tells of the new slice's block -/
theorem own_new {gg n cap H : Nat} (h : v.ownBlock = some gg ∨ gg = H) (hH : H = w.heap.size) : (Value.slice (some ⟨gg, 0, none⟩) n cap).ownBlock = v.ownBlock ∨ (Value.slice (some ⟨gg, 0, none⟩) n cap).ownBlock = some w.heap.size := by
 subst hH
 rcases h with h | h
 · exact .inl (by rw [h]; rfl)
 · exact .inr (by rw [h]; rfl)
end
end
end Go.Proofs.YtnoppoifepbchaaDoor
