/- What the small machine's values and heap have to do with a world's. Of no program. -/
import Derived.Test.YtmfjpdlegaimlaaGreatDoorSh2
import Derived.Below
import Derived.Maps.AppendAt
namespace Go.Proofs.YtmfjpdlegaimlaaGreatDoor
open Go.RowKit
set_option linter.unusedVariables false
set_option linter.unusedSimpArgs false

/-- where a block lies: its row, how many cells that has, of how many an element is -/
structure Bk where
  blk : Nat
  cap : Nat
  size : Nat
abbrev Bij := Nat → Option Bk

inductive VR (β : Bij) : Value → Value → Prop
  | any (v : Value) : VR β unknownS v
  | atom {v : Value} (h : atomB v = true) : VR β v v
  | ptr {b off : Nat} {k : Bk} (h : β b = some k) : VR β (.pointer (some ⟨b, off, none⟩)) (.pointer (some ⟨k.blk, off, none⟩))
  | slice {b off n c : Nat} {k : Bk} (h : β b = some k) (hn : n ≤ c) (hc : c ≤ 9223372036854775807) (h0 : off = 0 → c * k.size = k.cap) : VR β (.slice (some ⟨b, off, none⟩) n n) (.slice (some ⟨k.blk, off, none⟩) n c)
  | map {b : Nat} {k : Bk} (h : β b = some k) : VR β (.map (some b)) (.map (some k.blk))
  | void (a : Addr) (c : Nat) : VR β (.slice (some ⟨0, 0, none⟩) 0 0) (.slice (some a) 0 c)
  | agg {xs ys : Array Value} (hl : xs.toList.length = ys.toList.length) (h : ∀ (i : Nat) (x y : Value), xs.toList[i]? = some x → ys.toList[i]? = some y → VR β x y) : VR β (.agg xs) (.agg ys)
  | tuple {xs ys : Array Value} (hl : xs.toList.length = ys.toList.length) (h : ∀ (i : Nat) (x y : Value), xs.toList[i]? = some x → ys.toList[i]? = some y → VR β x y) : VR β (.tuple xs) (.tuple ys)
  | func {f : Fn} {xs ys xs' ys' : Array Value} (hl : xs.toList.length = ys.toList.length) (h : ∀ (i : Nat) (x y : Value), xs.toList[i]? = some x → ys.toList[i]? = some y → VR β x y)
      (hl' : xs'.toList.length = ys'.toList.length) (h' : ∀ (i : Nat) (x y : Value), xs'.toList[i]? = some x → ys'.toList[i]? = some y → VR β x y) : VR β (.func f xs xs') (.func f ys ys')
/-- lists of values -/
def VL (β : Bij) (l m : List Value) : Prop := l.length = m.length ∧ ∀ (i : Nat) (x y : Value), l[i]? = some x → m[i]? = some y → VR β x y
def Ext (β β' : Bij) : Prop := ∀ b k, β b = some k → β' b = some k
theorem Ext.refl (β : Bij) : Ext β β := fun _ _ h => h
theorem Ext.trans {a b c : Bij} (h : Ext a b) (h' : Ext b c) : Ext a c := fun i k e => h' i k (h i k e)
theorem VR.mono {β β' : Bij} (hb : Ext β β') {x y : Value} (h : VR β x y) : VR β' x y := by
  induction h with
  | any v => exact .any v
  | atom h => exact .atom h
  | ptr h => exact .ptr (hb _ _ h)
  | slice h hn hc h0 => exact .slice (hb _ _ h) hn hc h0
  | map h => exact .map (hb _ _ h)
  | void a c => exact .void a c
  | agg hl h ih => exact .agg hl ih
  | tuple hl h ih => exact .tuple hl ih
  | func hl h hl' h' ih ih' => exact .func hl ih hl' ih'
theorem VL.mono {β β' : Bij} (hb : Ext β β') {l m : List Value} (h : VL β l m) : VL β' l m := ⟨h.1, fun i x y a b => (h.2 i x y a b).mono hb⟩
theorem VL.nil (β : Bij) : VL β [] [] := ⟨rfl, fun i x y h => by simp at h⟩
theorem VL.cons {β : Bij} {x y : Value} {l m : List Value} (h : VR β x y) (hl : VL β l m) : VL β (x :: l) (y :: m) := by
  refine ⟨by simp [hl.1], fun i a b ha hb => ?_⟩
  cases i with
  | zero => simp at ha hb; subst ha; subst hb; exact h
  | succ i => simp at ha hb; exact hl.2 i a b ha hb
theorem VL.uncons {β : Bij} {x : Value} {l m : List Value} (h : VL β (x :: l) m) : ∃ y r, m = y :: r ∧ VR β x y ∧ VL β l r := by
  cases m with
  | nil => simp [VL] at h
  | cons y r =>
    refine ⟨y, r, rfl, h.2 0 x y rfl rfl, by have := h.1; simpa using this, fun i a b ha hb => h.2 (i + 1) a b (by simpa using ha) (by simpa using hb)⟩
theorem VL.append {β : Bij} {l m l' m' : List Value} (h : VL β l m) (h' : VL β l' m') : VL β (l ++ l') (m ++ m') := by
  refine ⟨by simp [h.1, h'.1], fun i x y hx hy => ?_⟩
  by_cases hi : i < l.length
  · rw [List.getElem?_append_left hi] at hx
    rw [List.getElem?_append_left (by rw [← h.1]; exact hi)] at hy
    exact h.2 i x y hx hy
  · rw [List.getElem?_append_right (by omega)] at hx
    rw [List.getElem?_append_right (by rw [← h.1]; omega), ← h.1] at hy
    exact h'.2 _ x y hx hy
theorem VL.take {β : Bij} {l m : List Value} (h : VL β l m) (n : Nat) : VL β (l.take n) (m.take n) := by
  refine ⟨by simp [h.1], fun i x y hx hy => ?_⟩
  rw [List.getElem?_take] at hx hy
  split at hx
  · rename_i hi; rw [if_pos hi] at hy; exact h.2 i x y hx hy
  · cases hx
theorem VL.drop {β : Bij} {l m : List Value} (h : VL β l m) (n : Nat) : VL β (l.drop n) (m.drop n) := by
  refine ⟨by simp [h.1], fun i x y hx hy => ?_⟩
  rw [List.getElem?_drop] at hx hy
  exact h.2 _ x y hx hy
theorem VL.get {β : Bij} {l m : List Value} (h : VL β l m) {i : Nat} {x : Value} (hx : l[i]? = some x) : ∃ y, m[i]? = some y ∧ VR β x y := by
  have hi : i < l.length := (List.getElem?_eq_some_iff.1 hx).1
  have hi' : i < m.length := by rw [← h.1]; exact hi
  exact ⟨m[i], List.getElem?_eq_getElem hi', h.2 i x _ hx (List.getElem?_eq_getElem hi')⟩
theorem VL.map {β : Bij} {α : Type} {f g : α → Value} (h : ∀ x, VR β (f x) (g x)) : ∀ l : List α, VL β (l.map f) (l.map g)
  | [] => VL.nil β
  | x :: r => VL.cons (h x) (VL.map h r)

/-! ### values without places -/
theorem flat1_atom {v : Value} (h : flat1 v = true) : atomB v = true := by cases v <;> simp_all [flat1, atomB]
theorem VR.of_atom {β : Bij} {v y : Value} (h : VR β v y) (ha : flat1 v = true) : y = v := by
  cases h with
  | atom h => rfl
  | any v => cases ha
  | _ => cases ha
theorem flatL_mem : ∀ (l : List Value), flatL l = true → ∀ x ∈ l, flat1 x = true
  | [], _, x, hx => by cases hx
  | a :: r, h, x, hx => by
    have h' : cond (flat1 a) (flatL r) false = true := h
    cases ha : flat1 a with
    | false => rw [ha] at h'; cases h'
    | true =>
      rw [ha] at h'
      rcases List.mem_cons.1 hx with rfl | hx
      · exact ha
      · exact flatL_mem r h' x hx
theorem VL.of_flat {β : Bij} {l m : List Value} (h : VL β l m) (hf : ∀ x ∈ l, flat1 x = true) : m = l := by
  refine List.ext_getElem? (fun i => ?_)
  by_cases hi : i < l.length
  · obtain ⟨y, hy, hr⟩ := h.get (List.getElem?_eq_getElem hi)
    rw [hy, List.getElem?_eq_getElem hi, hr.of_atom (hf _ (List.getElem_mem hi))]
  · have := h.1
    rw [List.getElem?_eq_none (by omega), List.getElem?_eq_none (by omega)]
theorem VR.of_flat {β : Bij} {v y : Value} (h : VR β v y) (hf : flatV v = true) : y = v := by
  cases h with
  | atom h => rfl
  | any v => cases hf
  | agg hl h =>
    rename_i xs ys
    have := VL.of_flat (β := β) (l := xs.toList) (m := ys.toList) ⟨hl, h⟩ (flatL_mem _ hf)
    rw [Array.toList_inj.1 this]
  | _ => cases hf
theorem VR.flat {β : Bij} {v : Value} (h : flatV v = true) : VR β v v := by
  cases v <;> first | exact .atom rfl | cases h | skip
  rename_i cs
  refine .agg rfl (fun i x y hx hy => ?_)
  rw [hx] at hy
  cases hy
  exact .atom (flat1_atom (flatL_mem _ h x (List.mem_of_getElem? hx)))
theorem atomL_mem : ∀ (l : List Value), atomL l = true → ∀ x ∈ l, atomB x = true
  | [], _, x, hx => by cases hx
  | a :: r, h, x, hx => by
    have h' : cond (atomB a) (atomL r) false = true := h
    cases ha : atomB a with
    | false => rw [ha] at h'; cases h'
    | true =>
      rw [ha] at h'
      rcases List.mem_cons.1 hx with rfl | hx
      · exact ha
      · exact atomL_mem r h' x hx
theorem VL.atoms (β : Bij) {l : List Value} (h : ∀ x ∈ l, atomB x = true) : VL β l l :=
  ⟨rfl, fun i x y hx hy => by rw [hx] at hy; cases hy; exact .atom (h x (List.mem_of_getElem? hx))⟩
theorem VR.const {β : Bij} {v : Value} (h : constB v = true) : VR β v v := by
  cases v <;> first | exact .atom h | skip
  rename_i cs
  exact .agg rfl (VL.atoms β (atomL_mem _ h)).2

/-! ### slots -/
def RR (β : Bij) (R : Regs) (tmps : Array Value) : Prop := ∀ t, VR β (getR R t) (tmps.getD t undef)
theorem VR.undef (β : Bij) : VR β undefS undef := .tuple rfl (fun i x y h => by simp at h)
theorem RR.mono {β β' : Bij} (hb : Ext β β') {R : Regs} {a : Array Value} (h : RR β R a) : RR β' R a := fun t => (h t).mono hb
theorem RR.eval {β : Bij} {R : Regs} {a : Act} (h : RR β R a.tmps) (x : Operand) : VR β (evS R x) (a.eval x) := by
  cases x with
  | tmp t => exact h t
  | const v =>
    show VR β (cond (constB v) v unknownS) v
    cases hc : constB v with
    | true => exact .const hc
    | false => exact .any _
  | global g => exact .any _
  | func f => exact .func rfl (fun i x y h => by simp at h) rfl (fun i x y h => by simp at h)
theorem getR_set (R : Regs) (t j : Nat) (v : Value) (h : R.inb (t + 1) = true) : getR (R.set v (Nat.succ t)) j = if j = t then v else getR R j := by
  unfold getR
  rw [Tr.get_set v R (Nat.succ t) (Nat.succ j) h]
  by_cases e : j = t
  · subst e; simp
  · rw [if_neg (by omega), if_neg e]
/-- slots that there are -/
def Wide (R : Regs) : Prop := ∀ t, t < 1000 → R.inb (t + 1) = true
theorem Wide.put {R : Regs} (h : Wide R) (v : Value) (d : Option Tmp) : Wide (putR R v d) := by
  cases d with
  | none => exact h
  | some t => intro j hj; show (R.set v (Nat.succ t)).inb (j + 1) = true; rw [Tr.inb_set]; exact h j hj
theorem RR.set {β : Bij} {R : Regs} {a : Array Value} {v v' : Value} (h : RR β R a) (t : Nat) (ht : t < 1000) (hs : t < a.size) (hw : Wide R) (hv : VR β v v') : RR β (R.set v (Nat.succ t)) (a.setIfInBounds t v') := by
  intro j
  rw [getR_set R t j v (hw t ht)]
  by_cases e : j = t
  · subst e
    rw [if_pos rfl]
    have : (a.setIfInBounds j v').getD j undef = v' := by
      simp [Array.getD_eq_getD_getElem?, Array.getElem?_setIfInBounds, hs]
    rw [this]; exact hv
  · rw [if_neg e]
    have : (a.setIfInBounds t v').getD j undef = a.getD j undef := by
      simp [Array.getD_eq_getD_getElem?, Array.getElem?_setIfInBounds, Ne.symm e]
    rw [this]; exact h j
theorem RR.put {β : Bij} {R : Regs} {a : Act} {v v' : Value} {n : Nat} (h : RR β R a.tmps) (hw : Wide R) (hn : n ≤ 1000) (hs : n ≤ a.tmps.size) (hv : VR β v v') (d : Option Tmp) (hd : dstOk n d = true) : RR β (putR R v d) (a.put d v').tmps := by
  cases d with
  | none => exact h
  | some t =>
    have ht := Nat.le_of_ble_eq_true (show Nat.ble (Nat.succ t) n = true from hd)
    exact h.set t (Nat.lt_of_lt_of_le ht hn) (Nat.lt_of_lt_of_le ht hs) hw hv
theorem put_size (a : Act) (d : Option Tmp) (v : Value) : (a.put d v).tmps.size = a.tmps.size := by cases d <;> simp [Act.put]
theorem put_defers (a : Act) (d : Option Tmp) (v : Value) : (a.put d v).defers = a.defers := by cases d <;> rfl
end Go.Proofs.YtmfjpdlegaimlaaGreatDoor
