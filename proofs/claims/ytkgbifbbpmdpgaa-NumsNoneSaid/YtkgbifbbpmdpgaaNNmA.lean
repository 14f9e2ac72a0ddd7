/- Pairs by their first numbers: the program's own comparison, its search; two lists of pairs that are the same. -/
import Derived.Test.YtkgbifbbpmdpgaaChecked
import Derived.Test.YtkgbifbbpmdpgaaNBox
import Derived.Test.YtkgbifbbpmdpgaaNOfW
import Derived.Test.YtkgbifbbpmdpgaaNOfP
import Derived.Sort.Grow
import Derived.BigQuiet
import Derived.IntWalk
import Derived.Deep.CutBlock
import Derived.Deep.CutRange
import Derived.Deep.RegionWith
import Derived.Outline
import Derived.Test.YtkgbifbbpmdpgaaNPr1
import Derived.Test.YtkgbifbbpmdpgaaNGrQ
set_option linter.unusedVariables false
set_option linter.unusedSimpArgs false
namespace Go.Proofs.Ytkgbifbbpmdpgaa
section
open Go.RowKit Go.Sort
def nmC (p : Int × Int) : List Value := [.int .i64 p.1, .int .i64 p.2]
def nmR (w : World) (cs : List Value) (p : Int × Int) : Prop := cs = nmC p
def NmsV (w : World) (v : Value) (l : List (Int × Int)) : Prop := ListV 2 nmR w v l
theorem NmsV.below {w w' : World} {v : Value} {l : List (Int × Int)} (h : NmsV w v l) (hb : Below w.heap.size w w') : NmsV w' v l := ListV.below h (fun cs x e => e) hb
theorem NmsV.open {w : World} {v : Value} {l : List (Int × Int)} (h : NmsV w v l) : ∃ a n c, v = .slice a n c ∧ Hid (n = l.length) ∧ n ≤ c ∧ c ≤ 9223372036854775807 ∧
  Hid (∀ i, i < n → ∃ b o, a = some ⟨b, o, none⟩ ∧ w.cell? ⟨b, o + i * 2, none⟩ = some (.int .i64 (l.getD i (0, 0)).1) ∧ w.cell? ⟨b, o + i * 2 + 1, none⟩ = some (.int .i64 (l.getD i (0, 0)).2)) := by
 obtain ⟨a, n, c, h1, h2, h3, h4, h5⟩ := ListV.open h
 refine ⟨a, n, c, h1, h2, h3, h4, Lib.hid (fun i hi => ?_)⟩
 obtain ⟨b, o, cs, x, e1, e2, e3, e4, e5⟩ := h5.out i hi
 have e4' : cs = nmC x := e4
 subst e4'
 have ex : l.getD i (0, 0) = x := by rw [List.getD_eq_getElem?_getD, e2]; rfl
 rw [ex]
 exact ⟨b, o, e1, e5 0 (by omega), e5 1 (by omega)⟩
def nmAt (ts : List Tk) (i : Nat) : Int := (ts.getD i noTk).num
def cmpI (x y : Int) : Int := if x < y then -1 else if y < x then 1 else 0
theorem isNaN_any (x : Int) (w : World) : Calls Try.prog 70 #[.int .i64 x] w fun e w' => e = .returned (.bool false) ∧ w' = w := by
 have h : (x == x) = true := by simp
 go_enter Try.func70, Try.ntmps70
 go_wp2_with fail
 go_ret
 exact ⟨by simp, rfl⟩
set_option maxRecDepth 100000 in
theorem compare_any (x y : Int) (w : World) : Calls Try.prog 53 #[.int .i64 x, .int .i64 y] w fun e w' => e = .returned (.int .i64 (cmpI x y)) ∧ w' = w := by
 unfold cmpI
 by_cases h1 : x < y
 · rw [if_pos h1]
   go_enter Try.func53, Try.ntmps53
   go_wp2_with (go_at_call 70; refine (isNaN_any _ _).mono ?_; rintro e w' ⟨rfl, rfl⟩)
   go_ret
   exact ⟨rfl, rfl⟩
 · rw [if_neg h1]
   by_cases h2 : y < x
   · have h3 : x > y := h2
     rw [if_pos h2]
     go_enter Try.func53, Try.ntmps53
     go_wp2_with (go_at_call 70; refine (isNaN_any _ _).mono ?_; rintro e w' ⟨rfl, rfl⟩)
     go_ret
     exact ⟨rfl, rfl⟩
   · have h3 : ¬ x > y := h2
     rw [if_neg h2]
     go_enter Try.func53, Try.ntmps53
     go_wp2_with (go_at_call 70; refine (isNaN_any _ _).mono ?_; rintro e w' ⟨rfl, rfl⟩)
     go_ret
     exact ⟨rfl, rfl⟩
theorem byNum_any (x y : Int × Int) (W : World) : Calls Try.prog 40 #[.agg #[.int .i64 x.1, .int .i64 x.2], .agg #[.int .i64 y.1, .int .i64 y.2]] W fun e w' => e = .returned (.int .i64 (cmpI x.1 y.1)) ∧ ∃ q os', w' = grow (W.drewN q) os' := by
 have hcon := fun W' => compare_any x.1 y.1 W'
 generalize cmpI x.1 y.1 = r at hcon ⊢
 go_enter Try.func40, Try.ntmps40
 go_wp2_with (go_at_call 53; refine (hcon _).mono ?_; rintro e w' ⟨rfl, rfl⟩)
 go_ret
 exact ⟨rfl, 0, _, by rw [alloc_eq_grow, alloc_eq_grow, grow_grow]; rfl⟩
theorem byNum_below (x y : Int × Int) (W : World) : Calls Try.prog 40 #[.agg #[.int .i64 x.1, .int .i64 x.2], .agg #[.int .i64 y.1, .int .i64 y.2]] W fun e w' => e = .returned (.int .i64 (cmpI x.1 y.1)) ∧ Below W.heap.size W w' := by
 refine (byNum_any x y W).mono ?_
 rintro e w' ⟨rfl, q, os, rfl⟩
 refine ⟨rfl, rfl, rfl, rfl, ?_, fun k hk => ?_⟩
 · show W.heap.size ≤ (W.heap ++ os).size
   simp
 · exact heap_grow_old (W.drewN q) os hk
set_option maxRecDepth 100000 in
theorem eqPairs_any {v v' : Value} {l : List (Int × Int)} {w : World} (h : NmsV w v l) (h' : NmsV w v' l) : Calls Try.prog 23 #[v, v'] w fun e w' => e = .returned (.bool true) ∧ Below w.heap.size w w' := by
 obtain ⟨a, n, c, rfl, hn, hnc, hcm, hx⟩ := h.open
 obtain ⟨a', n', c', rfl, hn', hnc', hcm', hx'⟩ := h'.open
 obtain rfl : n' = n := by rw [hn'.out, hn.out]
 clear h h' hn hn'
 have hnn : ((n' : Int) == (n' : Int)) = true := by simp
 go_enter Try.func23, Try.ntmps23
 go_wp2_with fail
 go_loopw [5] (fun x5 X => ∃ k : Nat, k ≤ n' ∧ x5 = .int .i64 k ∧ Below w.heap.size w X) (fun x5 _ => n' - (intOf x5).toNat)
 case atStart => exact ⟨0, Nat.zero_le _, rfl, Below.refl _ _⟩
 case round =>
  obtain ⟨k, hk, rfl, hb⟩ := hrel
  by_cases hlt : k < n'
  · obtain ⟨b, o, rfl, y0, y1⟩ := hx.out k hlt
    obtain ⟨b', o', rfl, z0, z1⟩ := hx'.out k hlt
    have i1 : (k : Int) < (n' : Int) := by omega
    have e0 := (hb.cell (World.block_lt_of_cell? _ _ y0)).trans y0
    have e1 := (hb.cell (World.block_lt_of_cell? _ _ y1)).trans y1
    have e2 := (hb.cell (World.block_lt_of_cell? _ _ z0)).trans z0
    have e3 := (hb.cell (World.block_lt_of_cell? _ _ z1)).trans z1
    clear y0 y1 z0 z1 hx hx'
    generalize (l.getD k (0, 0)).1 = p1 at *
    generalize (l.getD k (0, 0)).2 = p2 at *
    go_upto_region 6 with fail
    go_quiet (fail)
    go_wp2_with fail
    go_round
    case rel => exact ⟨k + 1, by omega, by go_num, ⟨hb.os, hb.tape, hb.output, hb.size, hb.block⟩⟩
    case measure => simp [intOf]; omega
  · have i1 : ¬ (k : Int) < (n' : Int) := by omega
    go_wp2_with fail
    go_ret
    exact ⟨rfl, hb⟩
end
section
def LvOk (m : Mk) : Prop := (∀ k ∈ m.toks, 0 ≤ k.level) ∧ 0 ≤ m.level
theorem getD_lv {l : List Tk} (h : ∀ k ∈ l, 0 ≤ k.level) (i : Nat) : 0 ≤ (l.getD i noTk).level := by
 rw [List.getD_eq_getElem?_getD]
 cases hi : l[i]? with
 | none => exact Int.le_refl _
 | some x => exact h x (List.mem_of_getElem? hi)
theorem LvOk.failIf {m : Mk} (h : LvOk m) (b : Bool) (p : Int) (n : ByteArray) : LvOk (m.failIf b p n) := by
 obtain ⟨a1, a2, a3, a4, a5, a6, a7⟩ := m.failIf_same b p n
 exact ⟨by rw [a1]; exact h.1, by rw [a6]; exact h.2⟩
theorem LvOk.fail {m : Mk} (h : LvOk m) (p : Int) (n : ByteArray) : LvOk (m.fail p n) := by
 obtain ⟨a1, a2, a3, a4, a5, a6, a7⟩ := m.fail_same p n
 exact ⟨by rw [a1]; exact h.1, by rw [a6]; exact h.2⟩
theorem LvOk.setTok {m : Mk} (h : LvOk m) (i : Nat) (f : Tk → Tk) (hf : ∀ k, 0 ≤ k.level → 0 ≤ (f k).level) : LvOk (m.setTok i f) := by
 refine ⟨fun k hk => ?_, h.2⟩
 rcases List.mem_or_eq_of_mem_set (show k ∈ m.toks.set i (f (m.toks.getD i noTk)) from hk) with h2 | rfl
 · exact h.1 k h2
 · exact hf _ (getD_lv h.1 i)
theorem LvOk.put {m : Mk} (h : LvOk m) (x : Sm) : LvOk (m.put x).1 := by
 by_cases ht : 0 ≤ m.tok x
 · rw [Mk.put_old ht]; exact h
 · rw [Mk.put_new ht]
   have h2 := h.failIf (x.lit && decide (0 ≤ m.owner (byte0 x.name))) x.pos x.name
   refine ⟨fun k hk => ?_, h2.2⟩
   rcases List.mem_append.1 (show k ∈ (m.failIf _ _ _).toks ++ [_] from hk) with hk | hk
   · exact h2.1 k hk
   · simp at hk; subst hk; exact Int.le_refl _
theorem LvOk.declare {m : Mk} (h : LvOk m) (d : Dc) (x : Sm) : LvOk (m.declare d x) := by
 unfold Mk.declare
 split
 · unfold Mk.dType
   split
   · exact h
   · exact h.failIf _ _ _
 · have h1 := h.put x
   have hl : (m.put x).1.level = m.level := by
    by_cases ht : 0 ≤ m.tok x
    · rw [Mk.put_old ht]
    · rw [Mk.put_new ht]; exact (m.failIf_same _ _ _).2.2.2.2.2.1
   have h2 : LvOk ((m.put x).1.dLevel d.kind x (m.put x).2.toNat) := by
    unfold Mk.dLevel; split
    · exact h1
    · exact (h1.failIf _ _ _).setTok _ _ (fun k hk => by show 0 ≤ (m.put x).1.level; rw [hl]; exact h.2)
   have h3 : LvOk (((m.put x).1.dLevel d.kind x (m.put x).2.toNat).dNum x (m.put x).2.toNat) := by
    unfold Mk.dNum; split
    · exact (show LvOk _ from ⟨((h2.failIf _ _ _).setTok (m.put x).2.toNat (fun q => { q with num := x.num }) (fun k hk => hk)).1, (h2.failIf _ _ _).2⟩)
    · exact h2
   unfold Mk.dTag; split
   · exact h3
   · exact (h3.failIf _ _ _).setTok _ _ (fun k hk => hk)
theorem LvOk.symTo {d : Dc} {s : Mk × ByteArray} (h : LvOk s.1) : ∀ k, LvOk (symTo d s k).1
 | 0 => h
 | k + 1 => by
   show LvOk (symStep d (d.syms.getD k noSm) (Go.Proofs.Ytkgbifbbpmdpgaa.symTo d s k)).1
   unfold symStep
   split
   · exact (LvOk.symTo h k).failIf _ _ _
   · exact (LvOk.symTo h k).declare _ _
theorem LvOk.dclTo {ds : List Dc} {s : Mk × ByteArray} (h : LvOk s.1) : ∀ i, LvOk (dclTo ds s i).1
 | 0 => h
 | i + 1 => by
   refine LvOk.symTo (d := ds.getD i noDc) (s := (levUp (ds.getD i noDc) (Go.Proofs.Ytkgbifbbpmdpgaa.dclTo ds s i).1, (Go.Proofs.Ytkgbifbbpmdpgaa.dclTo ds s i).2)) ?_ _
   have h2 := LvOk.dclTo (ds := ds) h i
   show LvOk (levUp _ _)
   unfold levUp
   split
   · exact ⟨h2.1, by show 0 ≤ (Go.Proofs.Ytkgbifbbpmdpgaa.dclTo ds s i).1.level + 1; have := h2.2; omega⟩
   · exact h2
theorem LvOk.symbol {m : Mk} (h : LvOk m) (x : Sm) : LvOk (m.symbol x).1 := by
 unfold Mk.symbol
 split
 · exact h.put x
 · split
   · exact h
   · split
     · exact h.fail _ _
     · exact h
theorem LvOk.auTo {m : Mk} (h : LvOk m) (a : Al) : ∀ i, LvOk (auTo m a i).m
 | 0 => h
 | i + 1 => by
   show LvOk (auStep _ i _ (Go.Proofs.Ytkgbifbbpmdpgaa.auTo m a i)).m
   unfold auStep
   split
   · exact (LvOk.auTo h a i).symbol _
   · split
     · exact LvOk.auTo h a i
     · exact LvOk.auTo h a i
theorem LvOk.alt {m : Mk} (h : LvOk m) (ln : ByteArray) (a : Al) : LvOk (m.alt ln a) := by
 unfold Mk.alt
 have hs := LvOk.auTo h a a.parts.length
 generalize Go.Proofs.Ytkgbifbbpmdpgaa.auTo m a a.parts.length = s at hs ⊢
 have hq : LvOk (s.m.altPrec a.prec s.right).1 := by
  unfold Mk.altPrec
  split
  · exact hs
  · split
    · exact hs.symbol _
    · split
      · exact hs.symbol _
      · exact hs.fail _ _
 exact hq
theorem LvOk.altsTo {r : Rl} {m : Mk} (h : LvOk m) : ∀ k, LvOk (altsTo r m k)
 | 0 => h
 | k + 1 => (LvOk.altsTo h k).alt _ _
theorem LvOk.rulTo {rs : List Rl} {m : Mk} (h : LvOk m) : ∀ i, LvOk (rulTo rs m i)
 | 0 => h
 | i + 1 => LvOk.altsTo (LvOk.rulTo h i) _
theorem LvOk.numTo {m : Mk} (h : LvOk m) (nx : Int) : ∀ j, LvOk (numTo m nx j).1
 | 0 => h
 | j + 1 => by
   show LvOk (numSt _ (Go.Proofs.Ytkgbifbbpmdpgaa.numTo m nx j)).1
   unfold numSt
   split
   · exact LvOk.numTo h nx j
   · exact (LvOk.numTo h nx j).setTok _ _ (fun k hk => hk)
end
section
abbrev TkV := ByteArray × Bool × Int
def tokV (k : Tk) : TkV := (k.name, k.lit, k.num)
def litV (c : Nat) : TkV := (gLetB c, true, 112 + (c : Int))
def baseV : List TkV := [tokV tkEnd, tokV tkErr, tokV tkUnk]
structure MI (m : Mk) (L : List Nat) : Prop where
 e : m.e = 0
 b : ∀ i ∈ L, i < 4
 nd : L.Nodup
 tk : m.toks.map tokV = baseV ++ L.map litV
theorem firstF_some (p : Nat → Bool) : ∀ f i j, i ≤ j → j < i + f → p j = true → 0 ≤ firstF p f i
 | 0, i, j, h1, h2, _ => by omega
 | f + 1, i, j, h1, h2, h3 => by
   unfold firstF
   split
   · exact Int.natCast_nonneg _
   · rename_i hn
     by_cases e : i = j
     · subst e; exact absurd h3 hn
     · exact firstF_some p f (i + 1) j (by omega) (by omega) h3
theorem firstN_some {p : Nat → Bool} {n i j : Nat} (h1 : i ≤ j) (h2 : j < n) (h3 : p j = true) : 0 ≤ firstN p n i := firstF_some p (n - i) i j h1 (by omega) h3
theorem firstN_none {p : Nat → Bool} {n i : Nat} (h : ∀ j, i ≤ j → j < n → p j = false) : firstN p n i = -1 := by
 rcases firstN_lt p n i with e | ⟨k, e, h1, h2, h3⟩
 · exact e
 · rw [h k h1 h2] at h3; cases h3
theorem let_eq (i j : Nat) : eqB (gLetB i) (gLetB j) = decide (i % 4 = j % 4) := by
 have key : ∀ a b : Fin 4, eqB (gLetB a.val) (gLetB b.val) = decide (a.val = b.val) := by decide +kernel
 have e : ∀ k, gLetB k = gLetB (k % 4) := fun k => by unfold gLetB; rw [Nat.mod_mod]
 rw [e i, e j]
 exact key ⟨i % 4, by omega⟩ ⟨j % 4, by omega⟩
theorem let_byte (i : Nat) : byte0 (gLetB i) = 112 + ((i % 4 : Nat) : Int) := by
 have key : ∀ a : Fin 4, byte0 (gLetB a.val) = 112 + (a.val : Int) := by decide +kernel
 have e : gLetB i = gLetB (i % 4) := by unfold gLetB; rw [Nat.mod_mod]
 rw [e]
 exact key ⟨i % 4, by omega⟩
section
variable {m : Mk} {L : List Nat}
theorem MI.at (h : MI m L) {j : Nat} (hj : j < m.toks.length) : tokV (m.toks.getD j noTk) ∈ baseV ∨ ∃ i, i ∈ L ∧ tokV (m.toks.getD j noTk) = litV i := by
 have h1 : m.toks.getD j noTk ∈ m.toks := by rw [List.getD_eq_getElem?_getD, List.getElem?_eq_getElem hj]; exact List.getElem_mem _
 have h2 := List.mem_map_of_mem (f := tokV) h1
 rw [h.tk] at h2
 rcases List.mem_append.1 h2 with h3 | h3
 · exact .inl h3
 · obtain ⟨i, hi, e⟩ := List.mem_map.1 h3
   exact .inr ⟨i, hi, e.symm⟩
theorem MI.len (h : MI m L) : m.toks.length = 3 + L.length := by
 have := congrArg List.length h.tk
 simp [baseV] at this
 omega
theorem MI.lit_new (h : MI m L) {k : Nat} (hk : k % 4 ∉ L) : m.tok (litG k) = -1 ∧ m.owner (byte0 (litG k).name) = -1 := by
 constructor
 · refine firstN_none (fun j h1 h2 => ?_)
   rcases h.at h2 with h3 | ⟨i, hi, e⟩
   · have : (m.toks.getD j noTk).lit = false := by
      have key : ∀ v ∈ baseV, v.2.1 = false := by decide
      exact key _ h3
     unfold tokP
     rw [this]
     show (_ && ((false == true) && _)) = false
     simp
   · have e1 : (m.toks.getD j noTk).name = gLetB i := congrArg Prod.fst e
     unfold tokP
     rw [e1]
     show (eqB (gLetB i) (gLetB k) && _) = false
     rw [let_eq]
     have hb := h.b i hi
     have : ¬ i % 4 = k % 4 := fun hh => hk (by rw [← hh, Nat.mod_eq_of_lt hb]; exact hi)
     simp [this]
 · refine firstN_none (fun j h1 h2 => ?_)
   show ((m.toks.getD j noTk).num == byte0 (gLetB k)) = false
   rw [let_byte]
   rcases h.at h2 with h3 | ⟨i, hi, e⟩
   · have key : ∀ v ∈ baseV, v.2.2 ≤ 0 := by decide
     have := key _ h3
     have h4 : (m.toks.getD j noTk).num ≤ 0 := this
     rw [beq_eq_false_iff_ne]
     intro hh
     rw [hh] at h4
     omega
   · have e1 : (m.toks.getD j noTk).num = 112 + (i : Int) := congrArg (fun v => v.2.2) e
     have hb := h.b i hi
     have : ¬ i = k % 4 := fun hh => hk (by rw [← hh]; exact hi)
     rw [e1, beq_eq_false_iff_ne]
     omega
theorem MI.lit_old (h : MI m L) {k : Nat} (hk : k % 4 ∈ L) : 0 ≤ m.tok (litG k) := by
 obtain ⟨j, hj⟩ := List.getElem?_of_mem hk
 have hjl := (List.getElem?_eq_some_iff.1 hj).1
 have hl := h.len
 refine firstN_some (j := 3 + j) (by omega) (by omega) ?_
 have h1 : (m.toks.map tokV)[3 + j]? = some (litV (k % 4)) := by
  rw [h.tk, List.getElem?_append_right (by simp [baseV])]
  have : 3 + j - baseV.length = j := by simp [baseV]
  rw [this, List.getElem?_map, hj]; rfl
 rw [List.getElem?_map] at h1
 obtain ⟨t, ht, e⟩ := Option.map_eq_some_iff.1 h1
 have hg : m.toks.getD (3 + j) noTk = t := by rw [List.getD_eq_getElem?_getD, ht]; rfl
 have e1 : t.name = gLetB (k % 4) := congrArg Prod.fst e
 have e2 : t.lit = true := congrArg (fun v => v.2.1) e
 unfold tokP
 rw [hg, e1, e2]
 show (eqB (gLetB (k % 4)) (gLetB k) && (true == true && !(3 + j == 2))) = true
 rw [let_eq, Nat.mod_mod]
 have : (3 + j == 2) = false := by simp; omega
 simp [this]
theorem MI.non (h : MI m L) {i : Nat} (hi : i < 4) : m.tok ⟨gNonB i, false, 0, 0⟩ = -1 := by
 refine firstN_none (fun j h1 h2 => ?_)
 unfold tokP
 rcases h.at h2 with h3 | ⟨c, hc, e⟩
 · have key : ∀ a : Fin 4, ∀ v ∈ baseV, eqB v.1 (gNonB a.val) = false := by decide +kernel
   have := key ⟨i, hi⟩ _ h3
   show (eqB (m.toks.getD j noTk).name (gNonB i) && _) = false
   rw [show eqB (m.toks.getD j noTk).name (gNonB i) = false from this]
   rfl
 · have e2 : (m.toks.getD j noTk).lit = true := congrArg (fun v => v.2.1) e
   rw [e2]
   show (_ && ((true == false) && _)) = false
   simp
theorem MI.put_new (h : MI m L) {k : Nat} (hk : k % 4 ∉ L) : m.put (litG k) = (m.push ⟨gLetB k, true, byte0 (gLetB k), 0, 0, ⟨#[]⟩⟩ true, (m.toks.length : Int)) ∧ MI (m.push ⟨gLetB k, true, byte0 (gLetB k), 0, 0, ⟨#[]⟩⟩ true) (L ++ [k % 4]) := by
 obtain ⟨h1, h2⟩ := h.lit_new hk
 have hp : ¬ 0 ≤ m.tok (litG k) := by rw [h1]; decide
 rw [Mk.put_lit hp rfl, h2]
 refine ⟨rfl, h.e, fun i hi => ?_, ?_, ?_⟩
 · rcases List.mem_append.1 hi with hi | hi
   · exact h.b i hi
   · simp at hi; omega
 · rw [List.nodup_append]
   exact ⟨h.nd, by simp, fun a ha c hc => by simp at hc; subst hc; exact fun e => hk (e ▸ ha)⟩
 · show (m.toks ++ [_]).map tokV = _
   rw [List.map_append, h.tk, List.map_append, List.append_assoc]
   congr 2
   show [(gLetB k, true, byte0 (gLetB k))] = [(gLetB (k % 4), true, 112 + ((k % 4 : Nat) : Int))]
   rw [let_byte, show gLetB (k % 4) = gLetB k by unfold gLetB; rw [Nat.mod_mod]]
theorem MI.put_old (h : MI m L) {k : Nat} (hk : k % 4 ∈ L) : m.put (litG k) = (m, m.tok (litG k)) := Mk.put_old (h.lit_old hk)
end
theorem map_set_same {α β : Type} (l : List α) (i : Nat) (d : α) (f : α → α) (g : α → β) (hf : ∀ x, g (f x) = g x) : (l.set i (f (l.getD i d))).map g = l.map g := by
 apply List.ext_getElem?
 intro j
 rw [List.getElem?_map, List.getElem?_map, List.getElem?_set]
 by_cases e : i = j
 · subst e
   rw [if_pos rfl]
   split
   · rename_i hi
     rw [List.getD_eq_getElem?_getD, List.getElem?_eq_getElem hi]
     simp [hf]
   · rename_i hi
     rw [List.getElem?_eq_none (by omega)]
 · rw [if_neg e]
theorem MI.setTok {m : Mk} {L : List Nat} (h : MI m L) (i : Nat) (f : Tk → Tk) (hf : ∀ k, tokV (f k) = tokV k) : MI (m.setTok i f) L :=
 ⟨h.e, h.b, h.nd, (map_set_same m.toks i noTk f tokV hf).trans h.tk⟩
theorem MI.declare {m : Mk} {L : List Nat} (h : MI m L) {d : Dc} {k : Nat} (hk : k % 4 ∉ L) (hd : d.kind ≠ 5) (ht : d.tag.size = 0) : MI (m.declare d (litG k)) (L ++ [k % 4]) := by
 unfold Mk.declare
 rw [if_neg hd]
 obtain ⟨e, h1⟩ := h.put_new hk
 rw [e]
 simp only
 generalize hM : m.push ⟨gLetB k, true, byte0 (gLetB k), 0, 0, ⟨#[]⟩⟩ true = M at h1 ⊢
 have hlv : (M.toks.getD (m.toks.length : Int).toNat noTk).level = 0 := by
  rw [← hM]
  show ((m.toks ++ [_]).getD _ noTk).level = 0
  rw [Int.toNat_natCast, List.getD_eq_getElem?_getD, List.getElem?_append_right (Nat.le_refl _)]
  simp
 generalize (m.toks.length : Int).toNat = t at hlv ⊢
 have h2 : MI (M.dLevel d.kind (litG k) t) (L ++ [k % 4]) := by
  unfold Mk.dLevel
  split
  · exact h1
  · rw [hlv]
    exact h1.setTok _ _ (fun _ => rfl)
 unfold Mk.dNum
 rw [if_neg (show ¬ 0 < (litG k).num from by show ¬ (0 : Int) < 0; decide)]
 unfold Mk.dTag
 rw [if_pos ht]
 exact h2
end
end Go.Proofs.Ytkgbifbbpmdpgaa
