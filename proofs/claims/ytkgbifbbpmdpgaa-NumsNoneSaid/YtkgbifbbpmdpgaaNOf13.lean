/- The maker with its Nons. -/
import Derived.Test.YtkgbifbbpmdpgaaNOf12
set_option linter.unusedVariables false
set_option linter.unusedSimpArgs false
namespace Go.Proofs.Ytkgbifbbpmdpgaa

open Go.RowKit
section
variable {w w' w2 w5 : World} {B M : Nat} {T : TypeId} {cs : List Value} {rows : List Rw} {S : Nat → Prop}
theorem StW.addRow {r : Rw} (h : StW w B M T cs rows S) (ho : w.ownsRow B r.E r.size r.v r.n r.xs) (hf : ∀ b, r.v.ownBlock = some b → b ≠ M ∧ (∀ r' ∈ rows, r'.v.ownBlock ≠ some b) ∧ ¬ S b) : StW w B M T cs (rows ++ [r]) S := by
 refine ⟨h.box, h.mB, fun r1 hr1 => ?_, fun r1 hr1 => ?_, fun i j r1 r2 hij h1 h2 b hb1 hb2 => ?_, h.low, fun b hS r1 hr1 e => ?_⟩
 · rcases List.mem_append.1 hr1 with hr | hr
   · exact h.own r1 hr
   · simp at hr; subst hr; exact ho
 · rcases List.mem_append.1 hr1 with hr | hr
   · exact h.notM r1 hr
   · simp at hr; subst hr; exact fun e => (hf M e).1 rfl
 · have key : ∀ (i : Nat) (r1 : Rw), (rows ++ [r])[i]? = some r1 → rows[i]? = some r1 ∨ (i = rows.length ∧ r1 = r) := fun i r1 h1 => by
    by_cases hi : i < rows.length
    · rw [List.getElem?_append_left hi] at h1; exact .inl h1
    · rw [List.getElem?_append_right (by omega)] at h1
      have hl := (List.getElem?_eq_some_iff.1 h1).1
      simp only [List.length_singleton] at hl
      have e : i = rows.length := by omega
      subst e
      simp at h1
      exact .inr ⟨rfl, h1.symm⟩
   rcases key i r1 h1 with q1 | ⟨q1, rfl⟩
   · rcases key j r2 h2 with q2 | ⟨q2, rfl⟩
     · exact h.two i j r1 r2 hij q1 q2 b hb1 hb2
     · exact (hf b hb2).2.1 r1 (List.mem_of_getElem? q1) hb1
   · rcases key j r2 h2 with q2 | ⟨q2, rfl⟩
     · exact (hf b hb1).2.1 r2 (List.mem_of_getElem? q2) hb2
     · omega
 · rcases List.mem_append.1 hr1 with hr | hr
   · exact h.apart b hS r1 hr e
   · simp at hr; subst hr; exact (hf b e).2.2 hS
end
def gCells (tv nv pv gv yv lv : Value) (m : Mk) : List Value := [tv, nv, pv, .string ⟨#[]⟩, .string ⟨#[]⟩, gv, yv, lv, .int .i64 m.e, .int .i64 m.pos, .string m.name, .int .i64 m.level, .int .i64 m.inner]
def gRows (tv nv pv gv yv lv : Value) (ys : List Value) (m : Mk) (ns : List Nn) : List Rw := mkRows tv pv gv yv lv ys m ++ [⟨106, 2, nv, ns.length, ns.flatMap nnC⟩]
def MkGO (w : World) (B M : Nat) (S : Nat → Prop) (m : Mk) (ns : List Nn) (tv nv pv gv yv lv : Value) (ys : List Value) : Prop :=
 StW w B M 99 (gCells tv nv pv gv yv lv m) (gRows tv nv pv gv yv lv ys m ns) S ∧ Firm S w (fun W => ∀ i p, m.prods[i]? = some p → pdR W ((ys.drop (i * 6)).take 6) p)
structure MkG (w : World) (B M : Nat) (F S : Nat → Prop) (m : Mk) (ns : List Nn) : Prop where
 is : ∃ tv nv pv gv yv lv ys, (∀ b, F b ↔ footS M (gRows tv nv pv gv yv lv ys m ns) b) ∧ MkGO w B M S m ns tv nv pv gv yv lv ys
section
variable {w w' W w5 : World} {B M : Nat} {F S : Nat → Prop} {m : Mk} {ns : List Nn} {tv nv pv gv yv lv y : Value} {ys : List Value}
theorem MkGO.below (h : MkGO w B M S m ns tv nv pv gv yv lv ys) (hb : Below w.heap.size w w') : MkGO w' B M S m ns tv nv pv gv yv lv ys := ⟨h.1.below hb, h.2.below hb⟩
theorem MkG.below (h : MkG w B M F S m ns) (hb : Below w.heap.size w w') : MkG w' B M F S m ns := by
 obtain ⟨tv, nv, pv, gv, yv, lv, ys, h1, h2⟩ := h.is
 exact ⟨⟨tv, nv, pv, gv, yv, lv, ys, h1, h2.below hb⟩⟩
theorem MkG.lt (h : MkG w B M F S m ns) : ∀ b, F b ∨ S b → B ≤ b ∧ b < w.heap.size := by
 obtain ⟨tv, nv, pv, gv, yv, lv, ys, h1, h2⟩ := h.is
 rintro b (hb | hb)
 · exact h2.1.lt b ((h1 b).1 hb)
 · exact ⟨(h2.1.low b hb).1, (h2.1.low b hb).2.1⟩
theorem MkO.nons {k : Nn} (h : MkO W B M S m tv pv gv yv lv ys) : MkGO ((W.alloc (.cells (nnC k).toArray 106)).setCell ⟨M, 1, none⟩ (.slice (some ⟨W.heap.size, 0, none⟩) 1 1)) B M S m [k] tv (.slice (some ⟨W.heap.size, 0, none⟩) 1 1) pv gv yv lv ys ∧
  Fr (fun b => b = M) W ((W.alloc (.cells (nnC k).toArray 106)).setCell ⟨M, 1, none⟩ (.slice (some ⟨W.heap.size, 0, none⟩) 1 1)) := by
 have hb : Below W.heap.size W (W.alloc (.cells (nnC k).toArray 106)) := (Below.refl _ _).alloc (Nat.le_refl _) _
 have h2 := h.below hb
 have hM := h.1.mlt
 have hB : B ≤ W.heap.size := Nat.le_trans h.1.mB (Nat.le_of_lt hM)
 have ho : (W.alloc (.cells (nnC k).toArray 106)).ownsRow B 106 2 (.slice (some ⟨W.heap.size, 0, none⟩) 1 1) 1 (nnC k) := by
  have := World.ownsRow_lit (e := 106) (size := 2) (base := B) W (nnC k).toArray 1 hB (by unfold maxLen; omega) rfl
  simpa using this
 have hr := StW.addRow (r := ⟨106, 2, (.slice (some ⟨W.heap.size, 0, none⟩) 1 1), 1, nnC k⟩) h2.1 ho (fun b e => by
  have e3 : W.heap.size = b := Option.some.inj e
  clear e
  subst e3
  refine ⟨by omega, fun r' hr' e2 => ?_, fun hS => ?_⟩
  · have := ((h.1.own r' hr').lt _ e2).2; omega
  · have := (h.1.low _ hS).2.1; omega)
 have hp := hr.put 1 (.slice (some ⟨W.heap.size, 0, none⟩) 1 1)
 have hf : Fr (fun b => b = M) (W.alloc (.cells (nnC k).toArray 106)) ((W.alloc (.cells (nnC k).toArray 106)).setCell ⟨M, 1, none⟩ (.slice (some ⟨W.heap.size, 0, none⟩) 1 1)) := Fr.set _ _ _ rfl
 refine ⟨⟨?_, h2.2.frame hf (fun b hS e => (h2.1.low b hS).2.2 e)⟩, (Fr.of_below hb).trans hf (fun b hb => .inl hb)⟩
 have e : ([k] : List Nn).flatMap nnC = nnC k := by simp
 unfold gRows
 rw [e]
 exact hp
theorem MkGO.push {k : Nn} (h : MkGO W B M S m ns tv nv pv gv yv lv ys) (hg : W.grownBy w5 nv.ownBlock) (ho : w5.ownsRow B 106 2 y (ns.length + 1) (ns.flatMap nnC ++ nnC k)) (hl : y.ownBlock = nv.ownBlock ∨ y.ownBlock = some W.heap.size) :
  MkGO (w5.setCell ⟨M, 1, none⟩ y) B M S m (ns ++ [k]) tv y pv gv yv lv ys ∧ (∀ b, footS M (gRows tv y pv gv yv lv ys m (ns ++ [k])) b → footS M (gRows tv nv pv gv yv lv ys m ns) b ∨ W.heap.size ≤ b) ∧ Fr (footS M (gRows tv nv pv gv yv lv ys m ns)) W (w5.setCell ⟨M, 1, none⟩ y) := by
 obtain ⟨h2, h3⟩ := h
 have hG := h2.grow (i := 5) (r := ⟨106, 2, nv, ns.length, ns.flatMap nnC⟩) rfl hg ho hl
 have hP := hG.put 1 y
 have hF : Fr (footS M (gRows tv nv pv gv yv lv ys m ns)) W (w5.setCell ⟨M, 1, none⟩ y) := (StW.fr_grow (i := 5) (r := ⟨106, 2, nv, ns.length, ns.flatMap nnC⟩) rfl hg).trans (Fr.set (D := fun b => b = M) w5 ⟨M, 1, none⟩ y rfl) (fun b hb => .inl (.inl hb))
 have e1 : (ns ++ [k]).length = ns.length + 1 := by simp
 have e2 : (ns ++ [k]).flatMap nnC = ns.flatMap nnC ++ nnC k := by simp
 have eR : (gRows tv nv pv gv yv lv ys m ns).set 5 ⟨106, 2, y, ns.length + 1, ns.flatMap nnC ++ nnC k⟩ = gRows tv y pv gv yv lv ys m (ns ++ [k]) := by
  unfold gRows mkRows; rw [e1, e2]; rfl
 have hfo := StW.foot_grow (M := M) (w := W) (rows := gRows tv nv pv gv yv lv ys m ns) (i := 5) (r := ⟨106, 2, nv, ns.length, ns.flatMap nnC⟩) (v' := y) (n' := ns.length + 1) (xs' := ns.flatMap nnC ++ nnC k) rfl hl
 rw [eR] at hP hfo
 exact ⟨⟨hP, h3.frame hF h2.sapart⟩, hfo, hF⟩
theorem MkG.read (h : MkG w B M F S m ns) : ∃ tv nv pv gv yv lv, TksV w tv m.toks ∧ BlsV w gv m.given ∧ NnsV w yv m.types ∧ StsV w lv m.lefts ∧ (∀ j, w.cell? ⟨M, j, none⟩ = (gCells tv nv pv gv yv lv m)[j]?) := by
 obtain ⟨tv, nv, pv, gv, yv, lv, ys, h1, h2, h3⟩ := h.is
 exact ⟨tv, nv, pv, gv, yv, lv, own_list (fun _ => rfl) (by omega) (h2.own ⟨52, 6, tv, m.toks.length, m.toks.flatMap tkC⟩ (by simp [gRows, mkRows])), own_list (fun _ => rfl) (by omega) (h2.own ⟨4, 1, gv, m.given.length, m.given.flatMap blC⟩ (by simp [gRows, mkRows])), own_list (fun _ => rfl) (by omega) (h2.own ⟨106, 2, yv, m.types.length, m.types.flatMap nnC⟩ (by simp [gRows, mkRows])), own_list (fun _ => rfl) (by omega) (h2.own ⟨9, 1, lv, m.lefts.length, m.lefts.flatMap stC⟩ (by simp [gRows, mkRows])), fun j => h2.cell j⟩
end
set_option maxRecDepth 100000 in
theorem typeOf_g {w : World} {B M : Nat} {F S : Nat → Prop} {m : Mk} {ns : List Nn} (h : MkG w B M F S m ns) (n : ByteArray) : Calls Try.prog 49 #[.pointer (some ⟨M, 0, none⟩), .string n] w fun e w' => e = .returned (.int .i64 (m.typeOf n)) ∧ Below w.heap.size w w' := by
 obtain ⟨tv, nv, pv, gv, yv, lv, h1, h2, h3, h4, h5⟩ := h.read
 obtain ⟨a, len, c, rfl, hl, hlc, hc, hx⟩ := h3.open
 have x7 := h5 6
 simp only [gCells, List.getElem?_cons_succ, List.getElem?_cons_zero] at x7
 have HR : Hid (m.typeOf n = firstN (typP m.types n) m.types.length 0) := Lib.hid rfl
 rw [← hl.out] at HR
 clear h h1 h2 h3 h4 h5
 generalize m.typeOf n = R at HR ⊢
 generalize m.types = L at hl hx HR
 go_enter Try.func49, Try.ntmps49
 go_wp2_with fail
 go_loop [5] (fun x => ∃ k : Nat, k ≤ len ∧ x = .int .i64 k ∧ Hid (R = firstN (typP L n) len k)) (fun x => len - (intOf x).toNat)
 case atStart => exact ⟨0, Nat.zero_le _, rfl, HR⟩
 case round =>
  obtain ⟨k, hk, rfl, HK⟩ := hrel
  by_cases hlt : k < len
  · obtain ⟨b, o, rfl, y0, y1⟩ := hx.out k hlt
    have i1 : (k : Int) < (len : Int) := by omega
    generalize hq : (L.getD k noNn).name = s at y0
    cases ht : eqB s n with
    | true =>
      have ht2 : (s.toList == n.toList) = true := ht
      have hp : typP L n k = true := by unfold typP; rw [hq]; exact ht
      have he := HK.out
      rw [firstN_hit _ hlt hp] at he
      clear hx HK HR hq ht hp
      subst he
      go_wp2_with fail
      go_ret
      exact ⟨rfl, Below.refl _ _⟩
    | false =>
      have ht2 : (s.toList == n.toList) = false := ht
      have hp : typP L n k = false := by unfold typP; rw [hq]; exact ht
      have he := HK.out
      rw [firstN_miss _ hlt hp] at he
      clear hx HK HR hq ht hp
      go_wp2_with fail
      go_round
      case rel => exact ⟨k + 1, by omega, by go_num, Lib.hid he⟩
      case measure => simp [intOf]; omega
  · have he := HK.out
    rw [firstN_out _ (by omega)] at he
    have i1 : ¬ (k : Int) < (len : Int) := by omega
    clear hx HK HR
    subst he
    go_wp2_with fail
    go_ret
    exact ⟨rfl, Below.refl _ _⟩
end Go.Proofs.Ytkgbifbbpmdpgaa
