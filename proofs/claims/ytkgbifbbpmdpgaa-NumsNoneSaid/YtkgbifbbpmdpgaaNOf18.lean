/- Of: the maker made; its first production. -/
import Derived.Test.YtkgbifbbpmdpgaaNOf17
set_option linter.unusedVariables false
set_option linter.unusedSimpArgs false
namespace Go.Proofs.Ytkgbifbbpmdpgaa
section
open Go.RowKit
section
variable {w w' : World} {B M : Nat} {T : TypeId} {cs : List Value} {rows : List Rw} {S : Nat → Prop}
theorem set_get {rows : List Rw} {i j : Nat} {r' r1 : Rw} (h : (rows.set i r')[j]? = some r1) : (j ≠ i ∧ rows[j]? = some r1) ∨ (j = i ∧ r1 = r') := by
 rw [List.getElem?_set] at h
 by_cases e : i = j
 · rw [if_pos e] at h
   split at h
   · exact .inr ⟨e.symm, (Option.some.inj h).symm⟩
   · cases h
 · rw [if_neg e] at h
   exact .inl ⟨fun e2 => e e2.symm, h⟩
theorem StW.fresh {i : Nat} {r' : Rw} (h : StW w B M T cs rows S) (ho : w.ownsRow B r'.E r'.size r'.v r'.n r'.xs) (hf : ∀ b, r'.v.ownBlock = some b → b ≠ M ∧ (∀ r ∈ rows, r.v.ownBlock ≠ some b) ∧ ¬ S b) : StW w B M T cs (rows.set i r') S := by
 have mem : ∀ r1 ∈ rows.set i r', r1 ∈ rows ∨ r1 = r' := fun r1 hr1 => by
  obtain ⟨j, hj⟩ := List.getElem?_of_mem hr1
  rcases set_get hj with ⟨_, e⟩ | ⟨_, e⟩
  · exact .inl (List.mem_of_getElem? e)
  · exact .inr e
 refine ⟨h.box, h.mB, fun r1 hr1 => ?_, fun r1 hr1 => ?_, fun j k r1 r2 hjk h1 h2 b hb1 hb2 => ?_, h.low, fun b hS r1 hr1 e => ?_⟩
 · rcases mem r1 hr1 with hr | rfl
   · exact h.own r1 hr
   · exact ho
 · rcases mem r1 hr1 with hr | rfl
   · exact h.notM r1 hr
   · exact fun e => (hf M e).1 rfl
 · rcases set_get h1 with ⟨q1, q2⟩ | ⟨q1, rfl⟩
   · rcases set_get h2 with ⟨p1, p2⟩ | ⟨p1, rfl⟩
     · exact h.two j k r1 r2 hjk q2 p2 b hb1 hb2
     · exact (hf b hb2).2.1 r1 (List.mem_of_getElem? q2) hb1
   · rcases set_get h2 with ⟨p1, p2⟩ | ⟨p1, rfl⟩
     · exact (hf b hb1).2.1 r2 (List.mem_of_getElem? p2) hb2
     · omega
 · rcases mem r1 hr1 with hr | rfl
   · exact h.apart b hS r1 hr e
   · exact (hf b e).2.2 hS
end
section
variable {w0 w : World} {M : Nat} {m : Mk}
theorem OfI.first (h : OfI w0 w M m) (x : Int) : OfI w0 (((w.alloc (.cells #[.int .i64 x] 3)).alloc (.cells #[.int .i64 0, .slice (some ⟨w.heap.size, 0, none⟩) 1 1, .int .i64 (-1), .string ⟨#[]⟩, .slice none 0 0, .int .i64 0] 87)).setCell ⟨M, 2, none⟩ (.slice (some ⟨w.heap.size + 1, 0, none⟩) 1 1)) M { m with prods := [⟨0, [x], -1, ⟨#[]⟩, [], 0⟩] } := by
 obtain ⟨F, S, h1, h2⟩ := h
 obtain ⟨tv, pv, gv, yv, lv, ys, hFi, hO⟩ := h1.opened
 have hM := hO.1.mlt
 have hB : w0.heap.size ≤ w.heap.size := h2.size
 have hb1 : Below w.heap.size w (w.alloc (.cells #[.int .i64 x] 3)) := (Below.refl _ _).alloc (Nat.le_refl _) _
 have hz1 : (w.alloc (.cells #[.int .i64 x] 3)).heap.size = w.heap.size + 1 := World.size_alloc _ _
 have ho1 : (w.alloc (.cells #[.int .i64 x] 3)).ownsRow w0.heap.size 3 1 (.slice (some ⟨w.heap.size, 0, none⟩) 1 1) 1 [.int .i64 x] := World.ownsRow_lit w #[.int .i64 x] 1 hB (by unfold maxLen; omega) rfl
 have hO1 := hO.below hb1
 generalize w.alloc (.cells #[.int .i64 x] 3) = w1 at *
 generalize hX : w.heap.size = X at *
 have hb2 : Below w1.heap.size w1 (w1.alloc (.cells #[.int .i64 0, .slice (some ⟨X, 0, none⟩) 1 1, .int .i64 (-1), .string ⟨#[]⟩, .slice none 0 0, .int .i64 0] 87)) := (Below.refl _ _).alloc (Nat.le_refl _) _
 have ho2 : (w1.alloc (.cells #[.int .i64 0, .slice (some ⟨X, 0, none⟩) 1 1, .int .i64 (-1), .string ⟨#[]⟩, .slice none 0 0, .int .i64 0] 87)).ownsRow w0.heap.size 87 6 (.slice (some ⟨X + 1, 0, none⟩) 1 1) 1 [.int .i64 0, .slice (some ⟨X, 0, none⟩) 1 1, .int .i64 (-1), .string ⟨#[]⟩, .slice none 0 0, .int .i64 0] := by
  have := World.ownsRow_lit (base := w0.heap.size) (size := 6) (e := 87) w1 #[.int .i64 0, .slice (some ⟨X, 0, none⟩) 1 1, .int .i64 (-1), .string ⟨#[]⟩, .slice none 0 0, .int .i64 0] 1 (by omega) (by unfold maxLen; omega) rfl
  rw [hz1] at this
  exact this
 have hO2 := hO1.below hb2
 have hI := (Firm.ints (l := [x]) ho1).below hb2
 generalize w1.alloc (.cells #[.int .i64 0, .slice (some ⟨X, 0, none⟩) 1 1, .int .i64 (-1), .string ⟨#[]⟩, .slice none 0 0, .int .i64 0] 87) = w2 at *
 have hs1 : X + 1 ≤ w2.heap.size := by have := hb2.size; omega
 have hW : StW w2 w0.heap.size M 99 (mkCells tv pv gv yv lv m) (mkRows tv pv gv yv lv ys m) (fun b => S b ∨ b = X) := hO2.1.widen (fun b hb => hb.elim (fun hb => ⟨(hO2.1.low b hb).1, (hO2.1.low b hb).2.1, hO2.1.sapart b hb⟩) (fun hb => by
  subst hb
  refine ⟨by omega, by omega, fun hf => ?_⟩
  have := (hO.1.lt b hf).2
  omega))
 have hR := hW.fresh (i := 1) (r' := ⟨87, 6, (.slice (some ⟨X + 1, 0, none⟩) 1 1), 1, [.int .i64 0, .slice (some ⟨X, 0, none⟩) 1 1, .int .i64 (-1), .string ⟨#[]⟩, .slice none 0 0, .int .i64 0]⟩) ho2 (fun b e => by
  have e3 : X + 1 = b := Option.some.inj e
  clear e
  subst e3
  refine ⟨by omega, fun r hr e2 => ?_, fun hS => ?_⟩
  · have := ((hO.1.own r hr).lt _ e2).2
    omega
  · rcases hS with hS | hS
    · have := (hO.1.low _ hS).2.1; omega
    · omega)
 have hP := hR.put 2 (.slice (some ⟨X + 1, 0, none⟩) 1 1)
 have hF : Fr (fun b => b = M) w2 (w2.setCell ⟨M, 2, none⟩ (.slice (some ⟨X + 1, 0, none⟩) 1 1)) := Fr.set _ _ _ rfl
 have hfirm : Firm (fun b => S b ∨ b = X) w2 (fun V => ∀ i p, ([⟨0, [x], -1, ⟨#[]⟩, [], 0⟩] : List Pd)[i]? = some p → pdR V ((([.int .i64 0, .slice (some ⟨X, 0, none⟩) 1 1, .int .i64 (-1), .string ⟨#[]⟩, .slice none 0 0, .int .i64 0] : List Value).drop (i * 6)).take 6) p) := by
  refine Firm.wide (Firm.imp hI (fun V hV i p hp => ?_)) (fun b hb => .inr (Option.some.inj hb).symm) (fun b hb => (hW.low b hb).2.1)
  match i, hp with
  | 0, hp => simp at hp; subst hp; exact ⟨_, _, rfl, hV, IntsV.nil V⟩
  | i + 1, hp => simp at hp
 refine ⟨_, fun b => S b ∨ b = X, ⟨⟨tv, .slice (some ⟨X + 1, 0, none⟩) 1 1, gv, yv, lv, _, fun _ => Iff.rfl, hP, hfirm.frame hF (fun b hS hb => (hW.low b hS).2.2 hb)⟩⟩, ?_⟩
 exact h2.trans (((hb1.trans (hb2.mono (by omega))).mono (by omega)).trans (hF.below (fun b hb => by rw [hb]; exact hO.1.mB) (by omega)))
end
end
section
open Go.RowKit
def tkEnd : Tk := ⟨⟨#[36, 101, 110, 100]⟩, false, 0, 0, 0, ⟨#[]⟩⟩
def tkErr : Tk := ⟨⟨#[101, 114, 114, 111, 114]⟩, false, -1, 0, 0, ⟨#[]⟩⟩
def tkUnk : Tk := ⟨⟨#[36, 117, 110, 107]⟩, false, -1, 0, 0, ⟨#[]⟩⟩
def mk00 : Mk := ⟨[], [], [false, false, false], [], [], 0, 0, ⟨#[]⟩, 0, 0⟩
def mk0 : Mk := ⟨[tkEnd, tkErr, tkUnk], [], [false, false, false], [], [], 0, 0, ⟨#[]⟩, 0, 0⟩
theorem mk0_n : MkN mk0 3 0 0 0 := ⟨Nat.le_refl _, rfl, Nat.le_refl _, Nat.le_refl _, Int.le_refl _, Int.le_refl _⟩
abbrev boxC (gv : Value) : Array Value := #[.slice none 0 0, .slice none 0 0, .slice none 0 0, .string ⟨#[]⟩, .string ⟨#[]⟩, gv, .slice none 0 0, .slice none 0 0, .int .i64 0, .int .i64 0, .string ⟨#[]⟩, .int .i64 0, .int .i64 0]
abbrev tokC : Array Value := #[.string ⟨#[36, 101, 110, 100]⟩, .bool false, .int .i64 0, .int .i64 0, .int .i64 0, .string ⟨#[]⟩, .string ⟨#[101, 114, 114, 111, 114]⟩, .bool false, .int .i64 (-1), .int .i64 0, .int .i64 0, .string ⟨#[]⟩, .string ⟨#[36, 117, 110, 107]⟩, .bool false, .int .i64 (-1), .int .i64 0, .int .i64 0, .string ⟨#[]⟩]
theorem OfI.start {w0 wg : World} {gv : Value} (hb : Below w0.heap.size w0 wg) (hg : wg.ownsRow w0.heap.size 4 1 gv 3 [.bool false, .bool false, .bool false]) :
  OfI w0 (((wg.alloc (.cells (boxC gv) 99)).alloc (.cells tokC 52)).setCell ⟨wg.heap.size, 0, none⟩ (.slice (some ⟨wg.heap.size + 1, 0, none⟩) 3 3)) wg.heap.size mk0 := by
 have hb1 : Below wg.heap.size wg (wg.alloc (.cells (boxC gv) 99)) := (Below.refl _ _).alloc (Nat.le_refl _) _
 have hz1 : (wg.alloc (.cells (boxC gv) 99)).heap.size = wg.heap.size + 1 := World.size_alloc _ _
 have hbx := heap_alloc_new wg (.cells (boxC gv) 99)
 have hg1 := row_kept (w' := wg.alloc (.cells (boxC gv) 99)) hg (fun k e => hb1.block k (hg.lt k e).2)
 have hgl := hg.lt
 have hB := hb.size
 generalize wg.alloc (.cells (boxC gv) 99) = w1 at *
 generalize hX : wg.heap.size = X at *
 have hW : StW w1 w0.heap.size X 99 (mkCells (.slice none 0 0) (.slice none 0 0) gv (.slice none 0 0) (.slice none 0 0) mk00) (mkRows (.slice none 0 0) (.slice none 0 0) gv (.slice none 0 0) (.slice none 0 0) [] mk00) (fun _ => False) := by
  have hn : ∀ (E : TypeId) (s : Nat), w1.ownsRow w0.heap.size E s (.slice none 0 0) 0 [] := fun E s => World.ownsRow_nil _ _ _ _
  refine ⟨hbx, hB, fun r hr => ?_, fun r hr => ?_, fun i j r r' hij h1 h2 b e1 e2 => ?_, fun b h => h.elim, fun b h => h.elim⟩
  · simp only [mkRows, List.mem_cons, List.not_mem_nil, or_false] at hr
    rcases hr with rfl | rfl | rfl | rfl | rfl
    · exact hn _ _
    · exact hn _ _
    · exact hg1
    · exact hn _ _
    · exact hn _ _
  · simp only [mkRows, List.mem_cons, List.not_mem_nil, or_false] at hr
    rcases hr with rfl | rfl | rfl | rfl | rfl
    · exact fun e => by cases e
    · exact fun e => by cases e
    · exact fun e => by have := (hgl X e).2; omega
    · exact fun e => by cases e
    · exact fun e => by cases e
  · have key : ∀ (i : Nat) (r : Rw), (mkRows (.slice none 0 0) (.slice none 0 0) gv (.slice none 0 0) (.slice none 0 0) [] mk00)[i]? = some r → r.v.ownBlock = some b → i = 2 := fun i r h e => by
     match i, h with
     | 0, h => simp [mkRows] at h; subst h; cases e
     | 1, h => simp [mkRows] at h; subst h; cases e
     | 2, h => rfl
     | 3, h => simp [mkRows] at h; subst h; cases e
     | 4, h => simp [mkRows] at h; subst h; cases e
     | i + 5, h => simp [mkRows] at h
    exact hij ((key i r h1 e1).trans (key j r' h2 e2).symm)
 have hb2 : Below w1.heap.size w1 (w1.alloc (.cells tokC 52)) := (Below.refl _ _).alloc (Nat.le_refl _) _
 have ho2 : (w1.alloc (.cells tokC 52)).ownsRow w0.heap.size 52 6 (.slice (some ⟨X + 1, 0, none⟩) 3 3) 3 ([tkEnd, tkErr, tkUnk].flatMap tkC) := by
  have := World.ownsRow_lit (base := w0.heap.size) (size := 6) (e := 52) w1 tokC 3 (by omega) (by unfold maxLen; omega) rfl
  rw [hz1] at this
  exact this
 have hW2 := hW.below hb2
 generalize w1.alloc (.cells tokC 52) = w2 at *
 have hs1 := hb2.size
 have hR := hW2.fresh (i := 0) (r' := ⟨52, 6, (.slice (some ⟨X + 1, 0, none⟩) 3 3), 3, [tkEnd, tkErr, tkUnk].flatMap tkC⟩) ho2 (fun b e => by
  have e3 : X + 1 = b := Option.some.inj e
  clear e
  subst e3
  refine ⟨by omega, fun r hr e2 => ?_, fun hS => hS⟩
  have := ((hW.own r hr).lt _ e2).2
  omega)
 have hP := hR.put 0 (.slice (some ⟨X + 1, 0, none⟩) 3 3)
 have hF : Fr (fun b => b = X) w2 (w2.setCell ⟨X, 0, none⟩ (.slice (some ⟨X + 1, 0, none⟩) 3 3)) := Fr.set _ _ _ rfl
 refine ⟨_, fun _ => False, ⟨⟨.slice (some ⟨X + 1, 0, none⟩) 3 3, .slice none 0 0, gv, .slice none 0 0, .slice none 0 0, [], fun _ => Iff.rfl, hP, Firm.pure (fun V i p hp => by simp [mk0] at hp)⟩⟩, ?_⟩
 have hb01 : Below w0.heap.size w0 w1 := hb.trans (hb1.mono (by omega))
 have hb02 : Below w0.heap.size w0 w2 := hb01.trans (hb2.mono (by omega))
 exact hb02.trans (hF.below (fun b hb => by rw [hb]; exact hB) (by omega))
end
section
def noGm : Gm := ⟨[], [], [], ⟨#[]⟩, ⟨#[]⟩⟩
def ofD (so : So) : Mk × ByteArray := dclTo so.decls (mk0, ⟨#[]⟩) so.decls.length
def ofR (so : So) : Mk := ruTo so.rules (ofD so).1 so.rules.length
def ofT (so : So) : Mk := tydTo so.decls (ofR so) so.decls.length
def ofS (so : So) : ByteArray := if (ofD so).2.toList.isEmpty then (so.rules.getD 0 noRl).left else (ofD so).2
def ofF (so : So) : Mk := { ofT so with prods := [⟨0, [1001 + (ofT so).left (ofS so)], -1, ⟨#[]⟩, [], 0⟩] }
def ofA (so : So) : Mk := rulTo so.rules (ofF so) so.rules.length
def ofN (so : So) : List Nn := innTo (nsTo (ofA so) [⟨⟨#[36, 97, 99, 99, 101, 112, 116]⟩, ⟨#[]⟩⟩] (ofA so).lefts.length) (ofA so).inner.toNat
def ofK (so : So) : Mk := (numTo (ofA so) 57346 ((ofA so).toks.length - 3)).1
def ofLong (so : So) : Bool := longTo (ofK so) (decide (40 < (ofK so).toks.length) || (decide (24 < (ofN so).length) || decide (60 < (ofK so).prods.length))) (ofK so).prods.length
def ofG (so : So) : Gm × Int × Int × ByteArray :=
 if (ofA so).e ≠ 0 then (noGm, (ofA so).e, (ofA so).pos, (ofA so).name)
 else if ofLong so = true then (noGm, 4, 0, ⟨#[]⟩)
 else (⟨(ofK so).toks, ofN so, (ofK so).prods, so.pro, so.tail⟩, 0, 0, ⟨#[]⟩)
theorem inner_failIf (m : Mk) (b : Bool) (p : Int) (n : ByteArray) : (m.failIf b p n).inner = m.inner := (m.failIf_same b p n).2.2.2.2.2.2
theorem inner_declare (m : Mk) (d : Dc) (x : Sm) : (m.declare d x).inner = m.inner := by
 unfold Mk.declare
 split
 · unfold Mk.dType
   split
   · rfl
   · exact inner_failIf _ _ _ _
 · have h1 := (m.put_more x).2.2.2.1
   have h2 : ((m.put x).1.dLevel d.kind x (m.put x).2.toNat).inner = m.inner := by
    unfold Mk.dLevel; split
    · exact h1
    · exact (inner_failIf _ _ _ _).trans h1
   have h3 : (((m.put x).1.dLevel d.kind x (m.put x).2.toNat).dNum x (m.put x).2.toNat).inner = m.inner := by
    unfold Mk.dNum; split
    · exact (inner_failIf _ _ _ _).trans h2
    · exact h2
   unfold Mk.dTag; split
   · exact h3
   · exact (inner_failIf _ _ _ _).trans h3
theorem inner_symTo (d : Dc) (s : Mk × ByteArray) : ∀ k, (symTo d s k).1.inner = s.1.inner
 | 0 => rfl
 | k + 1 => by
   show (symStep d (d.syms.getD k noSm) (symTo d s k)).1.inner = _
   unfold symStep
   split
   · exact (inner_failIf _ _ _ _).trans (inner_symTo d s k)
   · exact (inner_declare _ _ _).trans (inner_symTo d s k)
theorem inner_dclTo (ds : List Dc) (s : Mk × ByteArray) : ∀ i, (dclTo ds s i).1.inner = s.1.inner
 | 0 => rfl
 | i + 1 => by
   show (symTo (ds.getD i noDc) (levUp (ds.getD i noDc) (dclTo ds s i).1, (dclTo ds s i).2) (ds.getD i noDc).syms.length).1.inner = _
   rw [inner_symTo]
   show (levUp (ds.getD i noDc) (dclTo ds s i).1).inner = _
   unfold levUp
   split <;> exact inner_dclTo ds s i
structure SoB (so : So) : Prop where
 dl : so.decls.length ≤ 300
 sl : ∀ d ∈ so.decls, d.syms.length ≤ 300
 rl : so.rules.length ≤ 300
 al : ∀ r ∈ so.rules, r.alts.length ≤ 20 ∧ ∀ a ∈ r.alts, a.parts.length ≤ 100
theorem ofD_n {so : So} (h : SoB so) : MkN (ofD so).1 90003 90000 0 300 := by
 have := (MkN.dclTo (ds := so.decls) (s := (mk0, ⟨#[]⟩)) mk0_n h.sl so.decls.length)
 have hd := h.dl
 exact this.wide (by omega) (by omega) (Nat.le_refl _) (by omega)
theorem ofF_n {so : So} (h : SoB so) : MkP (ofF so) 100000 300 1 := by
 have h1 := ofD_n h
 obtain ⟨a1, a2, a3, a4, a5, a6, a7⟩ := ruTo_same so.rules (ofD so).1 so.rules.length
 obtain ⟨b1, b2, b3, b4, b5, b6, b7⟩ := tydTo_same so.decls (ofR so) so.decls.length
 have hi : (ofD so).1.inner = 0 := inner_dclTo so.decls (mk0, ⟨#[]⟩) so.decls.length
 have ht := h1.tk
 have hg := h1.gv
 have hl := h1.lf
 have hr := h.rl
 refine ⟨?_, ?_, ?_, Nat.le_refl _, ?_⟩
 · show (ofT so).toks.length ≤ _
   have : (ofT so).toks = (ofD so).1.toks := b1.trans a1
   rw [this]; omega
 · show (ofT so).given.length = (ofT so).toks.length
   have e1 : (ofT so).toks = (ofD so).1.toks := b1.trans a1
   have e2 : (ofT so).given = (ofD so).1.given := b3.trans a3
   rw [e1, e2]; exact hg
 · show (ofT so).lefts.length ≤ _
   have e : (ofT so).lefts = (ofR so).lefts := b5
   rw [e]
   have e2 : (ofR so).lefts.length ≤ (ofD so).1.lefts.length + so.rules.length := a5
   omega
 · show 0 ≤ (ofT so).inner ∧ (ofT so).inner ≤ _
   have e : (ofT so).inner = 0 := (b7.trans a7).trans hi
   rw [e]; exact ⟨Int.le_refl _, by decide⟩
theorem ofA_n {so : So} (h : SoB so) : MkP (ofA so) 706000 300 606001 := by
 have := (ofF_n h).rulTo h.al so.rules.length
 have hr := h.rl
 exact this.wide (by omega) (Nat.le_refl _) (by omega)
end
end Go.Proofs.Ytkgbifbbpmdpgaa
