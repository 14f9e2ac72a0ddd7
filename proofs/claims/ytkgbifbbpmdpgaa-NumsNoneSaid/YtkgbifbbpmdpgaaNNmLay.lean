/- Contracts of the library's functions, laid at this program: tables of numbers, each fact the program's own or the kernel's comparison. -/
import Derived.Shelf.SlSortCmp.NoneTotal
import Derived.Test.YtkgbifbbpmdpgaaChecked
import Derived.Test.YtkgbifbbpmdpgaaNNmC
import Derived.Test.YtkgbifbbpmdpgaaNBox
import Derived.Outline
set_option linter.unusedVariables false
set_option linter.unusedSimpArgs false
namespace Go.Proofs.Ytkgbifbbpmdpgaa
section
open Go.Shelf
def Try.sortNums_ren : Go.Shelf.Ren := ⟨fun | 6 => 39 | 15 => 52 | 14 => 51 | 28 => 68 | 29 => 69 | 20 => 60 | 21 => 61 | 22 => 62 | 23 => 63 | 24 => 64 | 25 => 65 | 26 => 66 | 27 => 67 | 46 => 75 | 47 => 76 | 48 => 77 | 49 => 78 | 50 => 79 | 57 => 84 | n => n, fun | 22 => 54 | 24 => 60 | 25 => 90 | 3 => 3 | 39 => 109 | 0 => 0 | 53 => 123 | 55 => 93 | 4 => 4 | 46 => 117 | 45 => 116 | 50 => 91 | 5 => 5 | 9 => 9 | 66 => 129 | 70 => 133 | 76 => 138 | 77 => 41 | n => n, fun | n => n⟩
theorem Try.sortNums : Go.Proofs.SlLaysF0.n6 Try.prog Try.sortNums_ren := {
 mixed := by kernel_rfl
 f6 := ⟨Try.f39.name, by decide, Try.func39.trans (congrArg some (by kernel_rfl))⟩
 f14 := ⟨Try.f51.name, by decide, Try.func51.trans (congrArg some (by kernel_rfl))⟩
 f15 := Try.func52.trans (congrArg some (by kernel_rfl))
 f20 := ⟨Try.f60.name, by decide, Try.func60.trans (congrArg some (by kernel_rfl))⟩
 f21 := ⟨Try.f61.name, by decide, Try.func61.trans (congrArg some (by kernel_rfl))⟩
 f22 := ⟨Try.f62.name, by decide, Try.func62.trans (congrArg some (by kernel_rfl))⟩
 f23 := ⟨Try.f63.name, by decide, Try.func63.trans (congrArg some (by kernel_rfl))⟩
 f24 := ⟨Try.f64.name, by decide, Try.func64.trans (congrArg some (by kernel_rfl))⟩
 f25 := ⟨Try.f65.name, by decide, Try.func65.trans (congrArg some (by kernel_rfl))⟩
 f26 := ⟨Try.f66.name, by decide, Try.func66.trans (congrArg some (by kernel_rfl))⟩
 f27 := ⟨Try.f67.name, by decide, Try.func67.trans (congrArg some (by kernel_rfl))⟩
 f28 := Try.func68.trans (congrArg some (by kernel_rfl))
 f29 := Try.func69.trans (congrArg some (by kernel_rfl))
 f46 := ⟨Try.f75.name, by decide, Try.func75.trans (congrArg some (by kernel_rfl))⟩
 f47 := Try.func76.trans (congrArg some (by kernel_rfl))
 f48 := Try.func77.trans (congrArg some (by kernel_rfl))
 f49 := ⟨Try.f78.name, by decide, Try.func78.trans (congrArg some (by kernel_rfl))⟩
 f50 := ⟨Try.f79.name, by decide, Try.func79.trans (congrArg some (by kernel_rfl))⟩
 f57 := ⟨Try.f84.name, by decide, Try.func84.trans (congrArg some (by kernel_rfl))⟩
 t0 := Try.underlying0
 a0 := Try.isAgg0
 z0 := Try.sizeOf0
 v0 := Try.zeroValue0
 t3 := Try.underlying3
 a3 := Try.isAgg3
 z3 := Try.sizeOf3
 v3 := Try.zeroValue3
 t4 := Try.underlying4
 a4 := Try.isAgg4
 z4 := Try.sizeOf4
 v4 := Try.zeroValue4
 t5 := Try.underlying5
 a5 := Try.isAgg5
 z5 := Try.sizeOf5
 v5 := Try.zeroValue5
 t9 := Try.underlying9
 a9 := Try.isAgg9
 z9 := Try.sizeOf9
 v9 := Try.zeroValue9
 t22 := Try.underlying54
 a22 := Try.isAgg54
 z22 := Try.sizeOf54
 v22 := Try.zeroValue54
 t25 := Try.underlying90
 a25 := Try.isAgg90
 z25 := Try.sizeOf90
 v25 := Try.zeroValue90
 t39 := Try.underlying109
 a39 := Try.isAgg109
 z39 := Try.sizeOf109
 v39 := Try.zeroValue109
 t45 := Try.underlying116
 a45 := Try.isAgg116
 z45 := Try.sizeOf116
 v45 := Try.zeroValue116
 t46 := Try.underlying117
 a46 := Try.isAgg117
 z46 := Try.sizeOf117
 v46 := Try.zeroValue117
 t50 := Try.underlying91
 a50 := Try.isAgg91
 z50 := Try.sizeOf91
 v50 := Try.zeroValue91
 t53 := Try.underlying123
 a53 := Try.isAgg123
 z53 := Try.sizeOf123
 v53 := Try.zeroValue123
 t55 := Try.underlying93
 a55 := Try.isAgg93
 z55 := Try.sizeOf93
 v55 := Try.zeroValue93
 t66 := Try.underlying129
 a66 := Try.isAgg129
 z66 := Try.sizeOf129
 v66 := Try.zeroValue129
 t70 := Try.underlying133
 a70 := Try.isAgg133
 z70 := Try.sizeOf133
 v70 := Try.zeroValue133
 t76 := Try.underlying138
 a76 := Try.isAgg138
 z76 := Try.sizeOf138
 v76 := Try.zeroValue138
 t77 := Try.underlying41
 a77 := Try.isAgg41
 z77 := Try.sizeOf41
 v77 := Try.zeroValue41 }
end
section
open Go.RowKit Go.Sort
theorem ltNum (x y : Int × Int) : ltOf (fun x y : Int × Int => cmpI x.1 y.1) x y = decide (x.1 < y.1) := by
 unfold ltOf
 rw [Bool.eq_iff_iff, decide_eq_true_iff, decide_eq_true_iff]
 exact cmpI_lt x.1 y.1
theorem swoNum : SWO (ltOf fun x y : Int × Int => cmpI x.1 y.1) where
 irrefl x := by rw [ltNum]; simp
 trans x y z h1 h2 := by rw [ltNum] at *; simp at *; omega
 ntrans x y z h1 h2 := by rw [ltNum] at *; simp at *; omega
theorem nmLays (blk off size : Nat) (w : World) : CmpLays Try.prog 40 #[] nmC 2 (fun x y => cmpI x.1 y.1) blk off size w :=
 fun _ _ _ _ x y => byNum_any x y _
theorem sortK_below (w : World) (B blk m : Nat) (dk : Array (Int × Int)) (os : Array Obj) (hB : B ≤ blk) (hblk : blk < w.heap.size) : Below B w (sortWorldK nmC 2 w blk 0 m dk os) := by
 have e : sortWorldK nmC 2 w blk 0 m dk os = sortWorld id w blk 0 m (flatK nmC 2 dk) os := rfl
 rw [e]
 refine ⟨rfl, rfl, rfl, ?_, fun k hk => ?_⟩
 · show w.heap.size ≤ ((putRow id (Sort.ahead w m) blk 0 (flatK nmC 2 dk)).heap ++ os).size
   simp [putRow, mapBlock, Sort.ahead]
 · unfold sortWorld
   rw [heap_grow_old _ _ (by simp [putRow, mapBlock, Sort.ahead]; omega)]
   show (w.heap.modify blk _)[k]? = w.heap[k]?
   rw [Array.getElem?_modify, if_neg (by omega)]
theorem getA (l : List (Int × Int)) (i : Nat) : l.toArray[i]! = l.getD i default := by
 rw [List.getD_eq_getElem?_getD]; simp [getElem!_def]; rfl
theorem sortNums_any {B : Nat} {v : Value} {xs : List Value} {l : List (Int × Int)} {w : World} (h : GrowL B 60 2 nmR (fun _ => False) w v xs l) (hl : l.length ≤ 1000000) :
  Calls Try.prog 39 #[v, .func (.func 40) #[] #[]] w fun e w' => e = .returned (.tuple #[]) ∧ Below B w w' ∧ ∃ l', l'.Perm l ∧ (∀ i j, i < j → j < l'.length → (l'.getD i (0, 0)).1 ≤ (l'.getD j (0, 0)).1) ∧ NmsV w' v l' := by
 have hL := h.list (by omega)
 rcases h.own.2 with ⟨e, h0⟩ | ⟨g, cap, cur, e, hg, hh, hn, hc, hsz, ht⟩
 · obtain rfl := List.eq_nil_of_length_eq_zero h0
   subst e
   refine (AnyF.slices_SortFunc_none { Try.sortNums with } none 0 _ w).mono ?_
   rintro e w' ⟨rfl, rfl⟩
   exact ⟨rfl, Below.refl _ _, [], List.Perm.refl _, fun i j hij hj => absurd hj (Nat.not_lt_zero _), hL⟩
 · have hgl := h.own.lt g (by rw [e]; rfl)
   have hlen := h.own.1
   have eg : ∀ args w, (callFunc 40 args).run Try.prog w = .ok (.enter 40 args) w := enters_of Try.func40 (by kernel_rfl) rfl
   have hfr := h.own
   rw [e] at hfr
   have hH : HoldsK nmC 2 w g 0 l.toArray := fun j hj => by
    rw [size_flatK] at hj
    have hj2 : j < l.length * 2 := by simpa using hj
    have hjx : j < xs.length := by omega
    refine ⟨?_, by rw [Nat.zero_add]; exact hfr.frozenAt j⟩
    rw [Nat.zero_add, hfr.cellAt j (by omega), get_flatK _ _ _ _ (by simpa using hj2), getA]
    have hi : j / 2 < l.length := by omega
    have hr := h.rows.self (j / 2) l[j / 2] (List.getElem?_eq_getElem hi)
    have hr2 : (xs.drop (j / 2 * 2)).take 2 = nmC l[j / 2] := hr
    have hgx := getElem?_flat (size := 2) (xs := xs) (j / 2) (j % 2) (by omega)
    rw [hr2, show j / 2 * 2 + j % 2 = j by omega] at hgx
    rw [List.getD_eq_getElem?_getD, ← hgx, List.getElem?_eq_getElem hi]
    have h2 : j % 2 = 0 ∨ j % 2 = 1 := by omega
    rcases h2 with h2 | h2 <;> rw [h2] <;> rfl
   have hcon := AnyQ.slices_SortFunc Try.sortNums 2 Try.isAgg60 Try.sizeOf60 nmC (fun _ => rfl) (fun x v hv => by simp [nmC] at hv; rcases hv with rfl | rfl <;> rfl) (fun x y => cmpI x.1 y.1) swoNum 40 #[] g 0 cap l.toArray w eg (nmLays g 0 _ w) hH hgl.2 (by simp; omega)
   subst e
   have hcon2 : Calls Try.prog 39 #[.slice (some ⟨g, 0, none⟩) l.length cap, .func (.func 40) #[] #[]] w _ := hcon
   refine hcon2.mono ?_
   rintro e w' ⟨rfl, d', n, os, hp, hs, rfl⟩
   have hsz2 : d'.size = l.length := by have := hp.1; simpa using this
   refine ⟨rfl, sortK_below w B g n d' os hgl.1 hgl.2, d'.toList, ?_, fun i j hij hj => ?_, ?_⟩
   · have h3 := hp.2.2
     have e1 : d'.extract 0 l.toArray.size = d' := by
      have : l.toArray.size = d'.size := by simp [hsz2]
      rw [this]; simp
     have e2 : l.toArray.extract 0 l.toArray.size = l.toArray := by simp
     rw [e1, e2] at h3
     simpa using h3
   · have hj2 : j < d'.size := by simpa using hj
     have h4 := hs i j (Nat.zero_le _) hij (by simp; omega)
     rw [ltNum] at h4
     have h5 : ¬ d'[j]!.1 < d'[i]!.1 := by simpa using h4
     have e3 : ∀ k (hk : k < d'.size), (d'.toList.getD k (0, 0)) = d'[k]! := fun k hk => by
      rw [List.getD_eq_getElem?_getD, getElem!_pos d' k hk, Array.getElem?_toList, Array.getElem?_eq_getElem hk]; rfl
     rw [e3 i (by omega), e3 j hj2]
     omega
   · have hS : SWK nmC 2 w g 0 d' (sortWorldK nmC 2 w g 0 n d' os) := ⟨n, os, rfl⟩
     have hH2 := hS.holds hgl.2 hH (by simp [hsz2])
     have hl2 : d'.toList.length = l.length := by simp [hsz2]
     refine ⟨some ⟨g, 0, none⟩, cap, by rw [hl2], by rw [hl2]; exact hn, by unfold maxLen at hc; omega, fun e => (by cases e), fun i x hx => ?_⟩
     have hi : i < d'.size := by have := (List.getElem?_eq_some_iff.1 hx).1; simpa using this
     have hx2 : d'[i]! = x := by
      rw [getElem!_pos d' i hi]
      have := (List.getElem?_eq_some_iff.1 hx).2
      simpa using this
     refine ⟨g, 0, nmC x, rfl, rfl, rfl, fun j hj => ?_⟩
     have := (HoldsK.cell hH2 (i := i) (c := j) hi hj).1
     rw [hx2] at this
     rw [this]
     have h2 : j = 0 ∨ j = 1 := by omega
     rcases h2 with h2 | h2 <;> rw [h2] <;> rfl
end
section
open Go.RowKit Go.Sort
theorem Try.infoPair : (Try.prog.info? 60).map (fun i => (i.zero, i.size, i.bytes)) = some (some (.agg #[.int .i64 0, .int .i64 0]), 2, 16) := by kernel_rfl
theorem GrowL.no {α : Type} {base : Nat} {E : TypeId} {size : Nat} {R : World → List Value → α → Prop} {w : World} {v : Value} {xs : List Value} {l : List α} (h : GrowL base E size R (fun b => (fun _ => False) b ∨ (fun _ => False) b) w v xs l) : GrowL base E size R (fun _ => False) w v xs l := by
 rw [show (fun b : Nat => (fun _ => False) b ∨ (fun _ => False) b) = fun _ => False from funext (fun b => by simp)] at h
 exact h
theorem GrowL.slice {α : Type} {base : Nat} {E : TypeId} {size : Nat} {R : World → List Value → α → Prop} {S : Nat → Prop} {w : World} {v : Value} {xs : List Value} {l : List α} (h : GrowL base E size R S w v xs l) : ∃ a c, v = .slice a l.length c := by
 rcases h.own.2 with ⟨e, h0⟩ | ⟨g, cap, cur, e, _⟩
 · exact ⟨none, 0, by rw [h0]; exact e⟩
 · exact ⟨_, _, e⟩
section
variable {w : World} {t n p : Option Addr} {n1 c1 n2 c2 n3 c3 : Nat} {pr tl : ByteArray} {g : Gm}
set_option maxRecDepth 100000 in
set_option maxHeartbeats 8000000 in
theorem numsOf_any (h : GmO w t n p n1 c1 n2 c2 n3 c3 pr tl g) (hW : NumW g.toks) (h40 : g.toks.length ≤ 1000) :
  Calls Try.prog 24 #[(.agg #[.slice t n1 c1, .slice n n2 c2, .slice p n3 c3, .string pr, .string tl])] w fun e w' => ∃ v l, e = .returned v ∧ IsNums g.toks l ∧ l.length = g.toks.length - 3 ∧ NmsV w' v l ∧ Below w.heap.size w w' := by
 obtain ⟨a1, l1, d1, e1, hl1, hd1, hm1, hx1⟩ := h.tk.open
 cases e1
 have hbx := ofMade w #[(.slice t n1 c1 : Value), .slice n n2 c2, .slice p n3 c3, .string pr, .string tl] 38 w.heap.size rfl
 have hb1 := (Below.refl w.heap.size w).alloc (Nat.le_refl _) (.cells #[.slice t n1 c1, .slice n n2 c2, .slice p n3 c3, .string pr, .string tl] 38)
 have g0 := cell_of_row _ _ 0 _ _ _ hbx
 simp only [List.getElem?_toArray, List.getElem?_cons_succ, List.getElem?_cons_zero] at g0
 have HY : Hid (∀ i, i < n1 → ∃ b o va vb, t = some ⟨b, o, none⟩ ∧ ∀ X, Below w.heap.size w X → X.cell? ⟨b, o + i * 6, none⟩ = some (.string va) ∧ X.cell? ⟨b, o + i * 6 + 1, none⟩ = some (.bool vb) ∧ X.cell? ⟨b, o + i * 6 + 2, none⟩ = some (.int .i64 (nmAt g.toks i)) ∧ X.cell? ⟨b, o + i * 6 + 3, none⟩ = some (.int .i64 (g.toks.getD i noTk).level) ∧ X.cell? ⟨b, o + i * 6 + 4, none⟩ = some (.int .i64 (g.toks.getD i noTk).assoc) ∧ X.cell? ⟨b, o + i * 6 + 5, none⟩ = some (.string (g.toks.getD i noTk).tag)) := Lib.hid (fun i hi => by
  obtain ⟨b, o, e, y0, y1, y2, y3, y4, y5⟩ := hx1.out i hi
  exact ⟨b, o, _, _, e, fun X hX => ⟨cell_up hX y0, cell_up hX y1, cell_up hX y2, cell_up hX y3, cell_up hX y4, cell_up hX y5⟩⟩)
 have HE := Lib.hid (fun (l : List (Int × Int)) hp hs => @isNums_of g.toks hW l hp hs)
 have HA := Lib.hid (pairsTo_all hW)
 have HL : Hid (g.toks.length = n1) := Lib.hid hl1.out.symm
 have h40' : n1 ≤ 1000 := by rw [← HL.out]; exact h40
 have HLe := Lib.hid (fun k => pairsTo_le g.toks k)
 have HS : Hid (∀ k, pairsTo g.toks (k + 1) = if 0 < nmAt g.toks k then pairsTo g.toks k ++ [(nmAt g.toks k, (k : Int))] else pairsTo g.toks k) := Lib.hid (fun _ => rfl)
 obtain ⟨i0, hi, iz0, iz1, iz2⟩ := rd_info Try.infoPair
 clear h hx1 hl1 hbx hW h40
 go_enter Try.func24, Try.ntmps24
 go_wp2_with fail
 generalize hw1 : w.alloc (.cells #[.slice t n1 c1, .slice n n2 c2, .slice p n3 c3, .string pr, .string tl] 38) = w1 at *
 clear hw1 g0
 go_loopw [3, 9] (fun x3 x9 X => ∃ (k : Nat) (xs : List Value), k ≤ n1 ∧ x9 = .int .i64 k ∧ Below w.heap.size w X ∧ GrowL w.heap.size 60 2 nmR (fun _ => False) X x3 xs (pairsTo g.toks k)) (fun _ x9 _ => n1 - (intOf x9).toNat)
 case atStart => exact ⟨0, [], Nat.zero_le _, rfl, hb1, GrowL.nil _ _ _ _ _⟩
 case round =>
  obtain ⟨k, xs, hk, rfl, hb, hG⟩ := hrel
  rename World => W
  by_cases hlt : k < n1
  · have i1 : (k : Int) < (n1 : Int) := by omega
    obtain ⟨b, o, va, vb, rfl, hcs⟩ := HY.out k hlt
    obtain ⟨y0, y1, y2, y3, y4, y5⟩ := hcs W hb
    have hSk := HS.out k
    have hLk := HLe.out k
    generalize nmAt g.toks k = q at *
    generalize (g.toks.getD k noTk).level = q3 at *
    generalize (g.toks.getD k noTk).assoc = q4 at *
    generalize (g.toks.getD k noTk).tag = q5 at *
    clear HY HS HE HA HLe hcs
    go_upto_region 5 with fail
    have hk5 : Below W.heap.size W (W.alloc (.cells #[.string va, .bool vb, .int .i64 q, .int .i64 q3, .int .i64 q4, .string q5] 52)) := (Below.refl _ _).alloc (Nat.le_refl _) _
    have hr5 := heap_alloc_new W (.cells #[.string va, .bool vb, .int .i64 q, .int .i64 q3, .int .i64 q4, .string q5] 52)
    have t2 := cell_of_row _ _ 2 _ _ _ hr5
    simp only [List.getElem?_toArray, List.getElem?_cons_succ, List.getElem?_cons_zero] at t2
    have hb5 := hb.trans (hk5.mono hb.size)
    have hG5 := hG.below hk5
    clear hr5 hG y0 y1 y2 y3 y4 y5
    generalize hbt : W.heap.size = Bt at *
    generalize W.alloc (.cells #[.string va, .bool vb, .int .i64 q, .int .i64 q3, .int .i64 q4, .string q5] 52) = W5 at *
    by_cases hq : 0 < q
    · have i2 : q > 0 := hq
      rw [if_pos hq] at hSk
      obtain ⟨sa, sc, hsl⟩ := hG5.slice
      have hown := hG5.own
      subst hsl
      have hSK := Lib.hid hSk
      clear hSk
      generalize hPk : pairsTo g.toks k = PK at *
      have hln : PK.length ≤ 1000 := by omega
      have hwb := hb5.size
      have ho6 := own_below hown ((Below.refl W5.heap.size W5).alloc (Nat.le_refl _) (.cells #[.int .i64 q, .int .i64 (k : Int)] 60))
      go_wp2_with (first | (refine wpList_append_lies _ (by rfl) _ _ _ (by rfl) w.heap.size 60 i0 (.agg #[.int .i64 0, .int .i64 0]) 2 16 Try.underlying54 hi iz0 iz1 iz2 rfl (by omega) (.slice sa PK.length sc) PK.length xs (by rfl) ho6 ⟨W5.heap.size, 0, none⟩ 1 1 [.int .i64 q, .int .i64 (k : Int)] (by rfl) (by rfl) (rd_news W5 _ _) (by simp [Value.oneCell']) (by omega) (by unfold maxLen; omega) (by omega) (by simp; omega) (W5.heap.size + 1) (by simp) ?_; intro gg cap2 w6 hown6 hgrow6 hat hlt6))
      have hk6 : Below W5.heap.size W5 (W5.alloc (.cells #[.int .i64 q, .int .i64 (k : Int)] 60)) := (Below.refl _ _).alloc (Nat.le_refl _) _
      have hG6 := hG5.below hk6
      have hb6 := (hb5.trans (hk6.mono hwb)).grown hgrow6 (by have := hk6.size; omega) (fun b hb => (hG6.own.lt b hb).1)
      have hp := (hG6.push (x := (q, (k : Int))) (cs := [.int .i64 q, .int .i64 (k : Int)]) (S' := fun _ => False) hown6 hgrow6 (own_new hat (by simp)) rfl (Firm.pure (fun w' => rfl)) (fun b hb h => h.elim)).no
      clear hown6 hgrow6 hG5 hG6 ho6 hown t2 hk6
      go_round
      case rel => exact ⟨k + 1, _, by omega, by go_num, hb6, by rw [hSK.out]; exact hp⟩
      case measure => simp [intOf]; omega
    · have i2 : ¬ q > 0 := hq
      rw [if_neg hq] at hSk
      have hSK := Lib.hid hSk
      clear hSk
      go_wp2_with fail
      go_round
      case rel => exact ⟨k + 1, xs, by omega, by go_num, hb5, by rw [hSK.out]; exact hG5⟩
      case measure => simp [intOf]; omega
  · obtain rfl : k = n1 := by omega
    have i1 : ¬ (k : Int) < (k : Int) := by omega
    have hlen := HLe.out k
    have hso := Lib.hid (fun (B : Nat) (X : World) (v : Value) (xs : List Value) (h : GrowL B 60 2 nmR (fun _ => False) X v xs (pairsTo g.toks k)) => sortNums_any h (by omega))
    obtain ⟨sa, sc, hsl⟩ := hG.slice
    have HC := Lib.hid (hso.out _ _ _ _ hG)
    subst hsl
    clear hso HY HS hG
    go_wp2_with (first | (go_at_call 39; (with_reducible refine HC.out.mono ?_); rintro e w7 ⟨rfl, hb7, l', hp, hs, hv⟩))
    go_ret
    rw [← HL.out] at hp
    exact ⟨_, l', rfl, HE.out l' hp hs, hp.length_eq.trans HA.out, hv, hb.trans hb7⟩
end
end
end Go.Proofs.Ytkgbifbbpmdpgaa
