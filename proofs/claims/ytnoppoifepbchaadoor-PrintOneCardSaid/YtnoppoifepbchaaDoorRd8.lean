/- The reader: the rules; the whole. -/
import Derived.Test.YtnoppoifepbchaaDoorRd7
namespace Go.Proofs.YtnoppoifepbchaaDoor

open Go.RowKit
set_option linter.unusedVariables false
set_option linter.unusedSimpArgs false

section
variable {L : Wds} {n : Nat}
theorem rules_bad {l : List Rl} {r : Wds} (h : ruleS (L.drop n) = .bad r) : rulesS l (L.drop n) = .bad r := by
 rw [rulesS]
 split
 · rename_i r' h2
   rw [h] at h2
   cases h2; rfl
 · rename_i x r' h2
   rw [h] at h2
   cases h2
theorem rules_end {l : List Rl} {x : Rl} {m : Nat} (h : ruleS (L.drop n) = .ok x (L.drop m)) (hk : (wAt L m).kind = 10) : rulesS l (L.drop n) = .ok (l ++ [x]) (L.drop m) := by
 rw [rulesS]
 split
 · rename_i r' h2
   rw [h] at h2
   cases h2
 · rename_i x' r' h2
   rw [h] at h2
   cases h2
   rw [if_pos (show (hdW (L.drop m)).kind = 10 from hk)]
theorem rules_next {l : List Rl} {x : Rl} {m : Nat} (h : ruleS (L.drop n) = .ok x (L.drop m)) (hk : (wAt L m).kind ≠ 10) : rulesS l (L.drop n) = rulesS (l ++ [x]) (L.drop m) := by
 rw [rulesS]
 split
 · rename_i r' h2
   rw [h] at h2
   cases h2
 · rename_i x' r' h2
   rw [h] at h2
   cases h2
   rw [if_neg (show ¬ (hdW (L.drop m)).kind = 10 from hk)]
end

def RulesGo (w0 : World) (a : Nat) (wv : Value) (hp : Bool) (pro : ByteArray) (dv : Value) (L : Wds) (B : Nat) (n : Nat) (RES : Rd (List Rl)) (w : World) (e : Ending) (w' : World) : Prop :=
 (∃ rs m rv xs S, RES = .ok rs (L.drop m) ∧ m < L.length ∧ e = .returned (.bool true) ∧ RdAt w0 w' a wv m hp pro dv rv ∧ GrowL B 37 3 rlR S w' rv xs rs ∧ (∀ b, S b → B ≤ b) ∧ Turns (beh a B) w w') ∨
 (∃ m rv, RES = .bad (L.drop m) ∧ m < L.length ∧ e = .returned (.bool false) ∧ RdAt w0 w' a wv m hp pro dv rv ∧ Turns (beh a B) w w')

section
variable {w0 w : World} {a : Nat} {wv : Value} {n : Nat} {hp : Bool} {pro : ByteArray} {dv rv : Value} {L : Wds}
set_option maxRecDepth 100000 in
set_option maxHeartbeats 4000000 in
theorem rules_any (hI : RdIn w0 wv L a) (h : RdAt w0 w a wv n hp pro dv (.slice none 0 0)) (hn : n < L.length) {B : Nat} (haB : a < B) (hB : B ≤ w.heap.size) :
  Calls Tryd.prog 27 #[.pointer (some ⟨a, 0, none⟩)] w (RulesGo w0 a wv hp pro dv L B n (rulesS [] (L.drop n)) w) := by
 have hL6 := hI.ok.len
 have HI := Lib.hid hI
 generalize hR : rulesS [] (L.drop n) = RES
 have HR := Lib.hid hR
 clear hR hI
 go_enter Tryd.func27, Tryd.ntmps27
 go_wp2_with fail
 go_loopg [] L.length (fun gg V => ∃ (rs : List Rl) (m : Nat) (rv : Value) (xs : List Value) (S : Nat → Prop), L.length ≤ m + gg ∧ rs.length ≤ m ∧ Hid (rulesS rs (L.drop m) = RES) ∧ m < L.length ∧ RdAt w0 V a wv m hp pro dv rv ∧ GrowL B 37 3 rlR S V rv xs rs ∧ Hid (∀ b, S b → B ≤ b) ∧ Turns (beh a B) w V)
 case atStart => exact ⟨_, n, _, [], _, by omega, by simp, HR, hn, h, GrowL.nil _ _ _ _ _, Lib.hid (fun _ h => h.elim), Turns.refl _ _⟩
 case round =>
  clear h hn HR
  obtain ⟨rs, m, rv, xs, S, hgg, hrl, HE, hm, hV, hG, hS, hT⟩ := hrel
  rename World => V
  have hVs := hT.size
  have HRu := Lib.hid (rule_any HI.out hV hm hG hS.out haB (by omega) (by omega))
  have HBad : Hid (∀ r, ruleS (L.drop m) = .bad r → RES = .bad r) := Lib.hid (fun r e => HE.out.symm.trans (rules_bad e))
  have HEnd : Hid (∀ x q, ruleS (L.drop m) = .ok x (L.drop q) → (wAt L q).kind = 10 → RES = .ok (rs ++ [x]) (L.drop q)) := Lib.hid (fun x q e e2 => HE.out.symm.trans (rules_end e e2))
  have HNx : Hid (∀ x q, ruleS (L.drop m) = .ok x (L.drop q) → (wAt L q).kind ≠ 10 → rulesS (rs ++ [x]) (L.drop q) = RES) := Lib.hid (fun x q e e2 => (rules_next e e2).symm.trans HE.out)
  clear HE hG
  go_upto_region 2 with (first | (go_at_call 57; (with_reducible refine HRu.out.mono ?_); rintro e w5 hpost; rcases hpost with ⟨x, q, rv', xs', S', e1, hq, hmq, rfl, h5, hg5, hs5, ht5⟩ | ⟨q, rv', e1, hq, rfl, h5, ht5⟩))
  · have hT2 := hT.trans ht5 (fun b _ h => h)
    have HS5 := Lib.hid hs5
    have hW := Lib.hid (word_any HI.out h5 hq)
    replace HEnd : Hid ((wAt L q).kind = 10 → _) := Lib.hid (HEnd.out x q e1)
    replace HNx : Hid ((wAt L q).kind ≠ 10 → _) := Lib.hid (HNx.out x q e1)
    unfold Wd.agg8 at hW
    generalize wAt L q = y at hW HEnd HNx
    obtain ⟨yk, yt, yp⟩ := y
    simp only at hW HEnd HNx
    have hfd := wfld0 yk yt yp
    have HG := Lib.hid hg5
    clear e1 hs5 hg5 HBad hT ht5 HRu hV
    by_cases h10 : yk = 10
    · have hb10 : (yk == 10) = true := by simp [h10]
      have HF := Lib.hid (HEnd.out h10)
      clear h10 HEnd HNx
      go_wp2_with (first | (go_at_call 28; (with_reducible refine hW.out.mono ?_); rintro e w6 ⟨rfl, hw6⟩))
      go_ret
      exact Or.inl ⟨_, q, rv', _, _, HF.out, hq, by simp, h5.ahead hw6, HG.out.below hw6, HS5.out, hT2.trans (Turns.of_below (S := only a) hw6) (fun b _ h => Or.inl h)⟩
    · have hb10 : (yk == 10) = false := by simp [h10]
      have HF := Lib.hid (HNx.out h10)
      clear h10 HEnd HNx
      go_wp2_with (first | (go_at_call 28; (with_reducible refine hW.out.mono ?_); rintro e w6 ⟨rfl, hw6⟩))
      go_roundg (L.length - q)
      case rel => exact ⟨_, q, rv', _, _, by omega, by simp; omega, HF, hq, h5.ahead hw6, HG.out.below hw6, HS5, hT2.trans (Turns.of_below (S := only a) hw6) (fun b _ h => Or.inl h)⟩
      case measure => omega
  · have HF := Lib.hid (HBad.out _ e1)
    clear e1 HBad HEnd HNx HRu
    go_wp2_with fail
    go_ret
    exact Or.inr ⟨q, rv', HF.out, hq, by simp, h5, hT.trans ht5 (fun b _ h => h)⟩

/-- what a text is read as: the source, the fault, its place -/
def readS (L : Wds) (e p : Int) : So × Int × Int :=
 if e ≠ 0 then (noSo, e, p) else match soS L with
  | .ok x _ => (x, 0, 0)
  | .bad r => (noSo, 2, (hdW r).place)
def LexGo (L : Wds) (e p : Int) (w : World) (r : Ending) (w' : World) : Prop :=
 (∃ v, r = .returned (.tuple #[v, .agg #[.int .i64 e, .int .i64 p, .string ByteArray.empty]]) ∧ WdL w' v L) ∧ Below w.heap.size w w'
def ReadGo (res : So × Int × Int) (w : World) (r : Ending) (w' : World) : Prop :=
 ∃ (d g : Option Addr) (n1 c1 n2 c2 : Nat) (S : Nat → Prop), r = .returned (.tuple #[.agg #[.string res.1.pro, .slice d n1 c1, .slice g n2 c2, .string res.1.tail], .agg #[.int .i64 res.2.1, .int .i64 res.2.2, .string ByteArray.empty]]) ∧
  Firm S w' (fun X => SoV X (.agg #[.string res.1.pro, .slice d n1 c1, .slice g n2 c2, .string res.1.tail]) res.1) ∧ (∀ b, S b → w.heap.size ≤ b) ∧ Below w.heap.size w w'

theorem results_cell_cell {fn : Func} {p q : Tmp} {ty ty2 : TypeId} {P : Program} (h : fn.results = #[.cell p ty, .cell q ty2]) (tmps : Array Value) (w : World) (g g2 : Nat) (t t2 : TypeId) (cs cs2 : Array Value) (fr fr2 : Nat × Nat) {fs fs2 : Array Field}
  (hp : tmps.getD p undef = .pointer (some ⟨g, 0, none⟩)) (hv : tmps.getD q undef = .pointer (some ⟨g2, 0, none⟩)) (hg : w.heap[g]? = some (.cells cs t fr)) (hg2 : w.heap[g2]? = some (.cells cs2 t2 fr2))
  (hu : P.underlying ty = some (.struct fs)) (hi : (P.info? ty).map (·.size) = some cs.size) (hu2 : P.underlying ty2 = some (.struct fs2)) (hi2 : (P.info? ty2).map (·.size) = some cs2.size) :
  (results fn tmps).run P w = .ok (.tuple #[.agg cs, .agg cs2]) w := by
 have hp' : tmps[p]?.getD undef = .pointer (some ⟨g, 0, none⟩) := by simpa using hp
 have hv' : tmps[q]?.getD undef = .pointer (some ⟨g2, 0, none⟩) := by simpa using hv
 simp [results, h, hp', hv', asAddr, run_loadVar_row w g t ty cs fr _ hg hu rfl hi, run_loadVar_row w g2 t2 ty2 cs2 fr2 _ hg2 hu2 rfl hi2]
theorem srcInfo8 : (Tryd.prog.info? 29).map (·.size) = some 4 := by kernel_rfl
theorem faultInfo8 : (Tryd.prog.info? 32).map (·.size) = some 3 := by kernel_rfl

theorem rdSet4_below {B q : Nat} {a w : World} (h : Below B a w) (hq : B ≤ q) (v0 v1 v2 v3 : Value) : Below B a ((((w.setCell ⟨q, 0, none⟩ v0).setCell ⟨q, 1, none⟩ v1).setCell ⟨q, 2, none⟩ v2).setCell ⟨q, 3, none⟩ v3) :=
 (((h.setCell (p := ⟨q, 0, none⟩) hq v0).setCell (p := ⟨q, 1, none⟩) hq v1).setCell (p := ⟨q, 2, none⟩) hq v2).setCell (p := ⟨q, 3, none⟩) hq v3
theorem set3_below {B q : Nat} {a w : World} (h : Below B a w) (hq : B ≤ q) (v0 v1 v2 : Value) : Below B a (((w.setCell ⟨q, 0, none⟩ v0).setCell ⟨q, 1, none⟩ v1).setCell ⟨q, 2, none⟩ v2) :=
 ((h.setCell (p := ⟨q, 0, none⟩) hq v0).setCell (p := ⟨q, 1, none⟩) hq v1).setCell (p := ⟨q, 2, none⟩) hq v2
theorem set4_far {w : World} {q b : Nat} (h : b ≠ q) (v0 v1 v2 v3 : Value) : ((((w.setCell ⟨q, 0, none⟩ v0).setCell ⟨q, 1, none⟩ v1).setCell ⟨q, 2, none⟩ v2).setCell ⟨q, 3, none⟩ v3).heap[b]? = w.heap[b]? :=
 (Below.heap_setCell _ _ _ _ h).trans ((Below.heap_setCell _ _ _ _ h).trans ((Below.heap_setCell _ _ _ _ h).trans (Below.heap_setCell _ _ _ _ h)))
theorem set3_far {w : World} {q b : Nat} (h : b ≠ q) (v0 v1 v2 : Value) : (((w.setCell ⟨q, 0, none⟩ v0).setCell ⟨q, 1, none⟩ v1).setCell ⟨q, 2, none⟩ v2).heap[b]? = w.heap[b]? :=
 (Below.heap_setCell _ _ _ _ h).trans ((Below.heap_setCell _ _ _ _ h).trans (Below.heap_setCell _ _ _ _ h))
theorem read_none {w w' : World} {e p : Int} (h : Below w.heap.size w w') : ReadGo (noSo, e, p) w (.returned (.tuple #[.agg #[.string ⟨#[]⟩, .slice none 0 0, .slice none 0 0, .string ⟨#[]⟩], .agg #[.int .i64 e, .int .i64 p, .string ByteArray.empty]])) w' :=
 ⟨none, none, 0, 0, 0, 0, fun _ => False, rfl, Firm.pure (fun X => ⟨_, _, rfl, ListV.nil _ _ _, ListV.nil _ _ _⟩), fun _ h => h.elim, h⟩

set_option maxRecDepth 100000 in
set_option maxHeartbeats 8000000 in
theorem read_any (HA : Hid AtoiOk) (s : ByteArray) (L : Wds) (e p : Int) (w : World) (hlo : -9223372036854775808 ≤ e) (hhi : e ≤ 9223372036854775807) (hL : e = 0 → LexOk L) (HLx : Hid (∀ W, Below w.heap.size w W → Calls Tryd.prog 25 #[.string s] W (LexGo L e p W))) :
  Calls Tryd.prog 11 #[.string s] w (ReadGo (readS L e p) w) := by
 have h1 := heap_keep (w.alloc (.cells #[.string ⟨#[]⟩, .slice none 0 0, .slice none 0 0, .string ⟨#[]⟩] 29)) (.cells #[.int .i64 0, .int .i64 0, .string ⟨#[]⟩] 32) (heap_made w #[.string ⟨#[]⟩, .slice none 0 0, .slice none 0 0, .string ⟨#[]⟩] 29 _ rfl)
 have h2 := heap_made (w.alloc (.cells #[.string ⟨#[]⟩, .slice none 0 0, .slice none 0 0, .string ⟨#[]⟩] 29)) #[.int .i64 0, .int .i64 0, .string ⟨#[]⟩] 32 (w.heap.size + 1) (World.size_alloc _ _).symm
 have hb2 := ((Below.refl w.heap.size w).alloc (Nat.le_refl _) (.cells #[.string ⟨#[]⟩, .slice none 0 0, .slice none 0 0, .string ⟨#[]⟩] 29)).alloc (by simp) (.cells #[.int .i64 0, .int .i64 0, .string ⟨#[]⟩] 32)
 have hs2 : ((w.alloc (.cells #[.string ⟨#[]⟩, .slice none 0 0, .slice none 0 0, .string ⟨#[]⟩] 29)).alloc (.cells #[.int .i64 0, .int .i64 0, .string ⟨#[]⟩] 32)).heap.size = w.heap.size + 2 := by rw [World.size_alloc, World.size_alloc]
 have HLx2 := Lib.hid (HLx.out _ hb2)
 unfold LexGo at HLx2
 have HR : Hid (readS L e p = if e ≠ 0 then (noSo, e, p) else match soS L with | .ok x _ => (x, 0, 0) | .bad r => (noSo, 2, (hdW r).place)) := Lib.hid rfl
 generalize readS L e p = RES at HR ⊢
 have HL := Lib.hid hL
 clear hL HLx
 by_cases he : e = 0
 · have hL := HL.out he
   have hbn : (e != 0) = false := by simp [he]
   have HR2 : Hid (RES = match soS L with | .ok x _ => (x, 0, 0) | .bad r => (noSo, 2, (hdW r).place)) := Lib.hid (by rw [HR.out]; exact if_neg (fun h => h he))
   have hpos := hL.pos
   have hHL := Lib.hid hL
   clear he HR HL hL
   go_enter Tryd.func11, Tryd.ntmps11
   go_upto_region 2 with (first | (go_at_call 25; (with_reducible refine HLx2.out.mono ?_); rintro r w1 ⟨⟨v, rfl, hv⟩, hw1⟩))
   obtain ⟨va, vn, vc, rfl, _⟩ := ListV.open hv
   have hs1 := hw1.size
   have a1 := (hw1.block w.heap.size (by omega)).trans h1
   have b1 := (hw1.block (w.heap.size + 1) (by omega)).trans h2
   have hb1 := hb2.trans (hw1.mono (by omega))
   have f2 := heap_made w1 #[.int .i64 e, .int .i64 p, .string ByteArray.empty] 32 _ rfl
   have a2 := heap_keep w1 (.cells #[.int .i64 e, .int .i64 p, .string ByteArray.empty] 32) a1
   have b2 := heap_keep w1 (.cells #[.int .i64 e, .int .i64 p, .string ByteArray.empty] 32) b1
   have hB2 := hb1.alloc hb1.size (.cells #[.int .i64 e, .int .i64 p, .string ByteArray.empty] 32)
   have hv2 := WdL.below hv ((Below.refl w1.heap.size w1).alloc (Nat.le_refl _) (.cells #[.int .i64 e, .int .i64 p, .string ByteArray.empty] 32))
   have hz2 : (w1.alloc (.cells #[.int .i64 e, .int .i64 p, .string ByteArray.empty] 32)).heap.size = w1.heap.size + 1 := World.size_alloc _ _
   obtain ⟨u0, u1, u2, _⟩ := box3 f2
   clear h1 h2 hb2 hw1 HLx2 a1 b1 hb1
   generalize w1.alloc (.cells #[.int .i64 e, .int .i64 p, .string ByteArray.empty] 32) = w2 at f2 a2 b2 hB2 hv2 hz2 u0 u1 u2 ⊢
   have hww : w.heap.size + 2 ≤ w2.heap.size := by omega
   clear hz2 hs1 hs2
   go_upto_region 5 with fail
   have hI : RdIn w2 (.slice va vn vc) L w2.heap.size := ⟨hv2, Nat.le_refl _, hHL.out⟩
   have h3 : RdAt w2 (w2.alloc (.cells #[.slice va vn vc, .int .i64 0, .bool false, .string ⟨#[]⟩, .slice none 0 0, .slice none 0 0, .string ⟨#[]⟩] 74)) w2.heap.size (.slice va vn vc) 0 false ByteArray.empty (.slice none 0 0) (.slice none 0 0) := ⟨(Below.refl w2.heap.size w2).alloc (Nat.le_refl _) (.cells #[.slice va vn vc, .int .i64 0, .bool false, .string ⟨#[]⟩, .slice none 0 0, .slice none 0 0, .string ⟨#[]⟩] 74), heap_made w2 _ _ _ rfl⟩
   have a3 := heap_keep w2 (.cells #[.slice va vn vc, .int .i64 0, .bool false, .string ⟨#[]⟩, .slice none 0 0, .slice none 0 0, .string ⟨#[]⟩] 74) a2
   have b3 := heap_keep w2 (.cells #[.slice va vn vc, .int .i64 0, .bool false, .string ⟨#[]⟩, .slice none 0 0, .slice none 0 0, .string ⟨#[]⟩] 74) b2
   have hB3 := hB2.alloc hB2.size (.cells #[.slice va vn vc, .int .i64 0, .bool false, .string ⟨#[]⟩, .slice none 0 0, .slice none 0 0, .string ⟨#[]⟩] 74)
   have hz3 : w2.heap.size + 1 ≤ (w2.alloc (.cells #[.slice va vn vc, .int .i64 0, .bool false, .string ⟨#[]⟩, .slice none 0 0, .slice none 0 0, .string ⟨#[]⟩] 74)).heap.size := by simp
   generalize hAA : w2.heap.size = A at h3 hI hz3 hww ⊢
   generalize w2.alloc (.cells #[.slice va vn vc, .int .i64 0, .bool false, .string ⟨#[]⟩, .slice none 0 0, .slice none 0 0, .string ⟨#[]⟩] 74) = w3 at h3 a3 b3 hB3 hz3 ⊢
   have hDs := Lib.hid (decls_any HA hI h3 hpos (Nat.lt_succ_self A) hz3)
   have HI := Lib.hid hI
   clear u0 u1 u2 f2 a2 b2 hB2 hv hv2 hI hAA
   have hgD : Hid (∀ r, declsS ByteArray.empty false [] (L.drop 0) = .bad r → RES = (noSo, 2, (hdW r).place)) := Lib.hid (fun r h => by rw [HR2.out]; unfold soS; rw [show L = L.drop 0 from rfl, h])
   have hgR : Hid (∀ P ds r r2, declsS ByteArray.empty false [] (L.drop 0) = .ok (P, ds) r → rulesS [] r = .bad r2 → RES = (noSo, 2, (hdW r2).place)) := Lib.hid (fun P ds r r2 h h2 => by rw [HR2.out]; unfold soS; rw [show L = L.drop 0 from rfl, h]; simp only; rw [h2])
   have hgO : Hid (∀ P ds r rs r2, declsS ByteArray.empty false [] (L.drop 0) = .ok (P, ds) r → rulesS [] r = .ok rs r2 → RES = (⟨P, ds, rs, (hdW r2).text⟩, 0, 0)) := Lib.hid (fun P ds r rs r2 h h2 => by rw [HR2.out]; unfold soS; rw [show L = L.drop 0 from rfl, h]; simp only; rw [h2])
   clear HR2
   have hww0 : w.heap.size < A := by omega
   have hww1 : w.heap.size + 1 < A := by omega
   have hwr : w.heap.size + 1 ≠ w.heap.size := by omega
   have haw : A ≠ w.heap.size := by omega
   have haw1 : A ≠ w.heap.size + 1 := by omega
   go_wp2_with (first | (go_at_call 26; (with_reducible refine hDs.out.mono ?_); rintro r w4 hpost; rcases hpost with ⟨P, b, ds, m, dv, xs, Sd, e1, hm, hnm, rfl, h4, hg4, hsd, ht4⟩ | ⟨m, b, P, dv, e1, hm, rfl, h4, ht4⟩) | (go_at_call 27; (with_reducible refine (rules_any HI.out h4 hm h4.lt (Nat.le_refl _)).mono ?_); rintro r w6 hpost; rcases hpost with ⟨rs, m6, rv, xs6, S6, e6, hm6, rfl, h6, hg6, hs6', ht6⟩ | ⟨m6, rv, e6, hm6, rfl, h6, ht6⟩))
   · obtain ⟨da, dc, rfl⟩ := rd_slice hg4.own
     obtain ⟨ga, gc, rfl⟩ := rd_slice hg6.own
     have hW := Lib.hid (word_any HI.out h6 hm6)
     have HF : Hid (RES = (⟨P, ds, rs, (wAt L m6).text⟩, 0, 0)) := Lib.hid (hgO.out P ds _ rs _ e1 e6)
     unfold Wd.agg8 at hW
     generalize wAt L m6 = y at hW HF
     obtain ⟨yk, yt, yp⟩ := y
     simp only at hW HF
     have hfd := wfld1 yk yt yp
     have a4 := ht4.heap a3 (fun h => by unfold beh at h; omega)
     have b4 := ht4.heap b3 (fun h => by unfold beh at h; omega)
     have hB4 := ht4.to_below hB3 (by omega) (fun b h => by unfold beh at h; omega)
     have hs4 := h4.lt
     have a6 := ht6.heap a4 (fun h => by unfold beh at h; omega)
     have b6 := ht6.heap b4 (fun h => by unfold beh at h; omega)
     have hB6 := ht6.to_below hB4 (by omega) (fun b h => by unfold beh at h; omega)
     have hs6 := h6.lt
     have FD := Lib.hid ((hg4.firm (by omega)).keep (w' := w6) (fun b hb => ht6.block b (hg4.lt b hb) (fun h => by
      have h1 := hg4.lt b hb
      have h2 : A + 1 ≤ b := hb.elim (hsd b) (fun h => own_base hg4.own (Nat.le_refl _) b h)
      unfold beh at h; omega)))
     have HFDb : Hid (∀ b, (Sd b ∨ (Value.slice da ds.length dc).ownBlock = some b) → A + 1 ≤ b) := Lib.hid (fun b hb => hb.elim (hsd b) (fun h => own_base hg4.own (Nat.le_refl _) b h))
     have FG := Lib.hid (hg6.firm (by omega))
     have HFGb : Hid (∀ b, (S6 b ∨ (Value.slice ga rs.length gc).ownBlock = some b) → A + 1 ≤ b) := Lib.hid (fun b hb => by have : w4.heap.size ≤ b := hb.elim (hs6' b) (fun h => own_base hg6.own (Nat.le_refl _) b h); omega)
     have HA6 := Lib.hid (And.intro a6 (And.intro b6 (And.intro hB6 h6)))
     clear e1 e6 a3 b3 a4 b4 hB3 hB4 ht4 ht6 hg4 hg6 hsd hs6' a6 b6 hB6 hgD hgR hgO h3 h4
     go_wp2_with (first | (go_at_call 28; (with_reducible refine hW.out.mono ?_); rintro r w7 ⟨rfl, hw7⟩; have a7 := block_below HA6.out.1 hw7 (by omega); have b7 := block_below HA6.out.2.1 hw7 (by omega); have h7 := HA6.out.2.2.2.ahead hw7; obtain ⟨x0, x1, x2, x3, y0, y1, y2, y3⟩ := box4 a7; obtain ⟨z0, z1, z2, t0, t1, t2⟩ := box3 b7; obtain ⟨c0, c1, c2, c3, c4, c5, c6⟩ := h7.cells; have f6 := h7.free 6))
     have a8 := (Below.heap_setCell w7 ⟨A, 6, none⟩ (.string yt) _ (Ne.symm haw)).trans a7
     have b8 := (Below.heap_setCell w7 ⟨A, 6, none⟩ (.string yt) _ (Ne.symm haw1)).trans b7
     have hB7 := HA6.out.2.2.1.trans (hw7.mono HA6.out.2.2.1.size)
     have hB8 := hB7.setCell (p := ⟨A, 6, none⟩) (show w.heap.size ≤ A by omega) (.string yt)
     have q1 := (set3_far (w := ((((w7.setCell ⟨A, 6, none⟩ (.string yt)).setCell ⟨w.heap.size, 0, none⟩ (.string P)).setCell ⟨w.heap.size, 1, none⟩ (.slice da ds.length dc)).setCell ⟨w.heap.size, 2, none⟩ (.slice ga rs.length gc)).setCell ⟨w.heap.size, 3, none⟩ (.string yt)) (Ne.symm hwr) (.int .i64 0) (.int .i64 0) (.string ⟨#[]⟩)).trans (set4_row8 a8 (.string P) (.slice da ds.length dc) (.slice ga rs.length gc) (.string yt))
     have q2 := set3_row ((set4_far hwr (.string P) (.slice da ds.length dc) (.slice ga rs.length gc) (.string yt)).trans b8) (.int .i64 0) (.int .i64 0) (.string ⟨#[]⟩)
     have q3 := set3_below (rdSet4_below hB8 (Nat.le_refl _) (.string P) (.slice da ds.length dc) (.slice ga rs.length gc) (.string yt)) (Nat.le_succ w.heap.size) (.int .i64 0) (.int .i64 0) (.string ⟨#[]⟩)
     have q4 : ∀ b, A + 1 ≤ b → (((((((((w7.setCell ⟨A, 6, none⟩ (.string yt)).setCell ⟨w.heap.size, 0, none⟩ (.string P)).setCell ⟨w.heap.size, 1, none⟩ (.slice da ds.length dc)).setCell ⟨w.heap.size, 2, none⟩ (.slice ga rs.length gc)).setCell ⟨w.heap.size, 3, none⟩ (.string yt)).setCell ⟨w.heap.size + 1, 0, none⟩ (.int .i64 0)).setCell ⟨w.heap.size + 1, 1, none⟩ (.int .i64 0)).setCell ⟨w.heap.size + 1, 2, none⟩ (.string ⟨#[]⟩))).heap[b]? = w7.heap[b]? := fun b hb =>
      (set3_far (show b ≠ w.heap.size + 1 by omega) _ _ _).trans ((set4_far (show b ≠ w.heap.size by omega) _ _ _ _).trans (Below.heap_setCell _ _ _ _ (show b ≠ A by omega)))
     generalize (((((((((w7.setCell ⟨A, 6, none⟩ (.string yt)).setCell ⟨w.heap.size, 0, none⟩ (.string P)).setCell ⟨w.heap.size, 1, none⟩ (.slice da ds.length dc)).setCell ⟨w.heap.size, 2, none⟩ (.slice ga rs.length gc)).setCell ⟨w.heap.size, 3, none⟩ (.string yt)).setCell ⟨w.heap.size + 1, 0, none⟩ (.int .i64 0)).setCell ⟨w.heap.size + 1, 1, none⟩ (.int .i64 0)).setCell ⟨w.heap.size + 1, 2, none⟩ (.string ⟨#[]⟩))) = y9 at q1 q2 q3 q4 ⊢
     have F1 := (FD.out.below hw7).keep (w' := y9) (fun b hb => q4 b (HFDb.out b hb))
     have F2 := (FG.out.below hw7).keep (w' := y9) (fun b hb => q4 b (HFGb.out b hb))
     exact bodyPost_ret (v := .tuple #[.agg #[.string P, .slice da ds.length dc, .slice ga rs.length gc, .string yt], .agg #[.int .i64 0, .int .i64 0, .string ⟨#[]⟩]])
      (results_cell_cell rfl _ _ w.heap.size (w.heap.size + 1) 29 32 #[.string P, .slice da ds.length dc, .slice ga rs.length gc, .string yt] #[.int .i64 0, .int .i64 0, .string ⟨#[]⟩] (0, 0) (0, 0) rfl rfl q1 q2 Tryd.underlying29 srcInfo8 Tryd.underlying32 faultInfo8) rfl
      (by rw [HF.out]; exact ⟨da, ga, ds.length, dc, rs.length, gc, _, rfl, Firm.imp (F1.and F2) (fun X hX => ⟨_, _, rfl, hX.1, hX.2⟩), fun b hb => by rcases hb with hb | hb; (have := HFDb.out b hb; omega); (have := HFGb.out b hb; omega), q3⟩)
   · have HF : Hid (RES = (noSo, 2, (wAt L m6).place)) := Lib.hid (hgR.out P ds _ _ e1 e6)
     have a4' := ht4.heap a3 (fun h => by unfold beh at h; omega)
     have b4' := ht4.heap b3 (fun h => by unfold beh at h; omega)
     have hB4' := ht4.to_below hB3 (by omega) (fun b h => by unfold beh at h; omega)
     have hs4 := h4.lt
     have a4 := ht6.heap a4' (fun h => by unfold beh at h; omega)
     have b4 := ht6.heap b4' (fun h => by unfold beh at h; omega)
     have hB4 := ht6.to_below hB4' (by omega) (fun b h => by unfold beh at h; omega)
     clear e1 e6 a3 b3 hB3 a4' b4' hB4' ht4 ht6 hg4 hsd hgD hgR hgO h3 h4 hm hnm
     have h4 := h6
     have hm := hm6
     clear h6 hm6
     have hW := Lib.hid (word_any HI.out h4 hm)
     unfold Wd.agg8 at hW
     generalize wAt L m6 = y at hW HF
     obtain ⟨yk, yt, yp⟩ := y
     simp only at hW HF
     have hfd := wfld2 yk yt yp
     obtain ⟨x0, x1, x2, x3, y0, y1, y2, y3⟩ := box4 a4
     obtain ⟨z0, z1, z2, t0, t1, t2⟩ := box3 b4
     clear x0 x1 x2 x3 y0 y1 y2 y3 z0 z1 z2 t0 t1 t2
     have HA4 := Lib.hid (And.intro a4 (And.intro b4 hB4))
     have hz4 : w.heap.size + 1 < w6.heap.size := by have := h4.lt; omega
     clear a4 b4 hB4
     go_wp2_with (first | (go_at_call 28; (with_reducible refine hW.out.mono ?_); rintro r w5 ⟨rfl, hw5⟩; have a5 := block_below HA4.out.1 hw5 (by omega); have b5 := block_below HA4.out.2.1 hw5 hz4; obtain ⟨x0, x1, x2, x3, y0, y1, y2, y3⟩ := box4 a5; obtain ⟨z0, z1, z2, t0, t1, t2⟩ := box3 b5))
     have hB5 := HA4.out.2.2.trans (hw5.mono HA4.out.2.2.size)
     have q1 := (set3_far (w := (((w5.setCell ⟨w.heap.size, 0, none⟩ (.string ⟨#[]⟩)).setCell ⟨w.heap.size, 1, none⟩ (.slice none 0 0)).setCell ⟨w.heap.size, 2, none⟩ (.slice none 0 0)).setCell ⟨w.heap.size, 3, none⟩ (.string ⟨#[]⟩)) (Ne.symm hwr) (.int .i64 2) (.int .i64 yp) (.string ⟨#[]⟩)).trans (set4_row8 a5 (.string ⟨#[]⟩) (.slice none 0 0) (.slice none 0 0) (.string ⟨#[]⟩))
     have q2 := set3_row ((set4_far hwr (.string ⟨#[]⟩) (.slice none 0 0) (.slice none 0 0) (.string ⟨#[]⟩)).trans b5) (.int .i64 2) (.int .i64 yp) (.string ⟨#[]⟩)
     have q3 := set3_below (rdSet4_below hB5 (Nat.le_refl _) (.string ⟨#[]⟩) (.slice none 0 0) (.slice none 0 0) (.string ⟨#[]⟩)) (Nat.le_succ w.heap.size) (.int .i64 2) (.int .i64 yp) (.string ⟨#[]⟩)
     generalize (((((((w5.setCell ⟨w.heap.size, 0, none⟩ (.string ⟨#[]⟩)).setCell ⟨w.heap.size, 1, none⟩ (.slice none 0 0)).setCell ⟨w.heap.size, 2, none⟩ (.slice none 0 0)).setCell ⟨w.heap.size, 3, none⟩ (.string ⟨#[]⟩)).setCell ⟨w.heap.size + 1, 0, none⟩ (.int .i64 2)).setCell ⟨w.heap.size + 1, 1, none⟩ (.int .i64 yp)).setCell ⟨w.heap.size + 1, 2, none⟩ (.string ⟨#[]⟩)) = y9 at q1 q2 q3 ⊢
     exact bodyPost_ret (v := .tuple #[.agg #[.string ⟨#[]⟩, .slice none 0 0, .slice none 0 0, .string ⟨#[]⟩], .agg #[.int .i64 2, .int .i64 yp, .string ⟨#[]⟩]])
      (results_cell_cell rfl _ _ w.heap.size (w.heap.size + 1) 29 32 #[.string ⟨#[]⟩, .slice none 0 0, .slice none 0 0, .string ⟨#[]⟩] #[.int .i64 2, .int .i64 yp, .string ⟨#[]⟩] (0, 0) (0, 0) rfl rfl q1 q2 Tryd.underlying29 srcInfo8 Tryd.underlying32 faultInfo8) rfl (by rw [HF.out]; exact read_none q3)
   · have HF : Hid (RES = (noSo, 2, (wAt L m).place)) := Lib.hid (hgD.out _ e1)
     have a4 := ht4.heap a3 (fun h => by unfold beh at h; omega)
     have b4 := ht4.heap b3 (fun h => by unfold beh at h; omega)
     have hB4 := ht4.to_below hB3 (by omega) (fun b h => by unfold beh at h; omega)
     clear e1 a3 b3 hB3 ht4 hgD hgR hgO h3
     have hW := Lib.hid (word_any HI.out h4 hm)
     unfold Wd.agg8 at hW
     generalize wAt L m = y at hW HF
     obtain ⟨yk, yt, yp⟩ := y
     simp only at hW HF
     have hfd := wfld2 yk yt yp
     obtain ⟨x0, x1, x2, x3, y0, y1, y2, y3⟩ := box4 a4
     obtain ⟨z0, z1, z2, t0, t1, t2⟩ := box3 b4
     clear x0 x1 x2 x3 y0 y1 y2 y3 z0 z1 z2 t0 t1 t2
     have HA4 := Lib.hid (And.intro a4 (And.intro b4 hB4))
     have hz4 : w.heap.size + 1 < w4.heap.size := by have := h4.lt; omega
     clear a4 b4 hB4
     go_wp2_with (first | (go_at_call 28; (with_reducible refine hW.out.mono ?_); rintro r w5 ⟨rfl, hw5⟩; have a5 := block_below HA4.out.1 hw5 (by omega); have b5 := block_below HA4.out.2.1 hw5 hz4; obtain ⟨x0, x1, x2, x3, y0, y1, y2, y3⟩ := box4 a5; obtain ⟨z0, z1, z2, t0, t1, t2⟩ := box3 b5))
     have hB5 := HA4.out.2.2.trans (hw5.mono HA4.out.2.2.size)
     have q1 := (set3_far (w := (((w5.setCell ⟨w.heap.size, 0, none⟩ (.string ⟨#[]⟩)).setCell ⟨w.heap.size, 1, none⟩ (.slice none 0 0)).setCell ⟨w.heap.size, 2, none⟩ (.slice none 0 0)).setCell ⟨w.heap.size, 3, none⟩ (.string ⟨#[]⟩)) (Ne.symm hwr) (.int .i64 2) (.int .i64 yp) (.string ⟨#[]⟩)).trans (set4_row8 a5 (.string ⟨#[]⟩) (.slice none 0 0) (.slice none 0 0) (.string ⟨#[]⟩))
     have q2 := set3_row ((set4_far hwr (.string ⟨#[]⟩) (.slice none 0 0) (.slice none 0 0) (.string ⟨#[]⟩)).trans b5) (.int .i64 2) (.int .i64 yp) (.string ⟨#[]⟩)
     have q3 := set3_below (rdSet4_below hB5 (Nat.le_refl _) (.string ⟨#[]⟩) (.slice none 0 0) (.slice none 0 0) (.string ⟨#[]⟩)) (Nat.le_succ w.heap.size) (.int .i64 2) (.int .i64 yp) (.string ⟨#[]⟩)
     generalize (((((((w5.setCell ⟨w.heap.size, 0, none⟩ (.string ⟨#[]⟩)).setCell ⟨w.heap.size, 1, none⟩ (.slice none 0 0)).setCell ⟨w.heap.size, 2, none⟩ (.slice none 0 0)).setCell ⟨w.heap.size, 3, none⟩ (.string ⟨#[]⟩)).setCell ⟨w.heap.size + 1, 0, none⟩ (.int .i64 2)).setCell ⟨w.heap.size + 1, 1, none⟩ (.int .i64 yp)).setCell ⟨w.heap.size + 1, 2, none⟩ (.string ⟨#[]⟩)) = y9 at q1 q2 q3 ⊢
     exact bodyPost_ret (v := .tuple #[.agg #[.string ⟨#[]⟩, .slice none 0 0, .slice none 0 0, .string ⟨#[]⟩], .agg #[.int .i64 2, .int .i64 yp, .string ⟨#[]⟩]])
      (results_cell_cell rfl _ _ w.heap.size (w.heap.size + 1) 29 32 #[.string ⟨#[]⟩, .slice none 0 0, .slice none 0 0, .string ⟨#[]⟩] #[.int .i64 2, .int .i64 yp, .string ⟨#[]⟩] (0, 0) (0, 0) rfl rfl q1 q2 Tryd.underlying29 srcInfo8 Tryd.underlying32 faultInfo8) rfl (by rw [HF.out]; exact read_none q3)
 · have hbn : (e != 0) = true := by simp [he]
   have HR2 : Hid (RES = (noSo, e, p)) := Lib.hid (by rw [HR.out]; exact if_pos he)
   clear he HR HL
   have hR2 := HR2.out
   subst hR2
   clear HR2
   go_enter Tryd.func11, Tryd.ntmps11
   go_upto_region 3 with (first | (go_at_call 25; (with_reducible refine HLx2.out.mono ?_); rintro r w1 ⟨⟨v, rfl, hv⟩, hw1⟩))
   have hs1 := hw1.size
   have a1 := (hw1.block w.heap.size (by omega)).trans h1
   have b1 := (hw1.block (w.heap.size + 1) (by omega)).trans h2
   have hb1 := hb2.trans (hw1.mono (by omega))
   have f2 := heap_made w1 #[.int .i64 e, .int .i64 p, .string ByteArray.empty] 32 _ rfl
   have a2 := heap_keep w1 (.cells #[.int .i64 e, .int .i64 p, .string ByteArray.empty] 32) a1
   have b2 := heap_keep w1 (.cells #[.int .i64 e, .int .i64 p, .string ByteArray.empty] 32) b1
   have hB2 := hb1.alloc hb1.size (.cells #[.int .i64 e, .int .i64 p, .string ByteArray.empty] 32)
   obtain ⟨u0, u1, u2, _⟩ := box3 f2
   obtain ⟨x0, x1, x2, x3, y0, y1, y2, y3⟩ := box4 a2
   obtain ⟨z0, z1, z2, t0, t1, t2⟩ := box3 b2
   have n1 : w1.heap.size ≠ w.heap.size := by omega
   have n2 : w1.heap.size ≠ w.heap.size + 1 := by omega
   clear hv h1 h2 hb2 hw1 HLx2 a1 b1
   generalize w1.alloc (.cells #[.int .i64 e, .int .i64 p, .string ByteArray.empty] 32) = w2 at f2 a2 b2 hB2 u0 u1 u2 x0 x1 x2 x3 y0 y1 y2 y3 z0 z1 z2 t0 t1 t2 ⊢
   have hwr : w.heap.size + 1 ≠ w.heap.size := by omega
   go_region
   all_goals
    go_wp2_with fail
    have hA4 := set4_row8 a2 (.string ⟨#[]⟩) (.slice none 0 0) (.slice none 0 0) (.string ⟨#[]⟩)
    have q1 := (set3_far (w := (((w2.setCell ⟨w.heap.size, 0, none⟩ (.string ⟨#[]⟩)).setCell ⟨w.heap.size, 1, none⟩ (.slice none 0 0)).setCell ⟨w.heap.size, 2, none⟩ (.slice none 0 0)).setCell ⟨w.heap.size, 3, none⟩ (.string ⟨#[]⟩)) (Ne.symm hwr) (.int .i64 e) (.int .i64 p) (.string ByteArray.empty)).trans hA4
    have q2 := set3_row ((set4_far hwr (.string ⟨#[]⟩) (.slice none 0 0) (.slice none 0 0) (.string ⟨#[]⟩)).trans b2) (.int .i64 e) (.int .i64 p) (.string ByteArray.empty)
    have q3 := set3_below (rdSet4_below hB2 (Nat.le_refl _) (.string ⟨#[]⟩) (.slice none 0 0) (.slice none 0 0) (.string ⟨#[]⟩)) (Nat.le_succ w.heap.size) (.int .i64 e) (.int .i64 p) (.string ByteArray.empty)
    generalize (((((((w2.setCell ⟨w.heap.size, 0, none⟩ (.string ⟨#[]⟩)).setCell ⟨w.heap.size, 1, none⟩ (.slice none 0 0)).setCell ⟨w.heap.size, 2, none⟩ (.slice none 0 0)).setCell ⟨w.heap.size, 3, none⟩ (.string ⟨#[]⟩)).setCell ⟨w.heap.size + 1, 0, none⟩ (.int .i64 e)).setCell ⟨w.heap.size + 1, 1, none⟩ (.int .i64 p)).setCell ⟨w.heap.size + 1, 2, none⟩ (.string ByteArray.empty)) = y at q1 q2 q3 ⊢
    have hA5 : y.drew.heap[w.heap.size]? = some (.cells #[.string ⟨#[]⟩, .slice none 0 0, .slice none 0 0, .string ⟨#[]⟩] 29 (0, 0)) := q1
    have hB5 : y.drew.heap[w.heap.size + 1]? = some (.cells #[.int .i64 e, .int .i64 p, .string ByteArray.empty] 32 (0, 0)) := q2
    have hB6 := q3.drew
    exact bodyPost_ret (v := .tuple #[.agg #[.string ⟨#[]⟩, .slice none 0 0, .slice none 0 0, .string ⟨#[]⟩], .agg #[.int .i64 e, .int .i64 p, .string ByteArray.empty]])
      (results_cell_cell rfl _ _ w.heap.size (w.heap.size + 1) 29 32 #[.string ⟨#[]⟩, .slice none 0 0, .slice none 0 0, .string ⟨#[]⟩] #[.int .i64 e, .int .i64 p, .string ByteArray.empty] (0, 0) (0, 0) rfl rfl hA5 hB5 Tryd.underlying29 srcInfo8 Tryd.underlying32 faultInfo8) rfl (read_none hB6)
end
end Go.Proofs.YtnoppoifepbchaaDoor
