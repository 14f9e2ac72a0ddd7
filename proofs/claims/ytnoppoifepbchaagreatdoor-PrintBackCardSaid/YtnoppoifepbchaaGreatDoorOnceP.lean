/- What was read of a short text: it may be printed, and is read back. -/
import Derived.Test.YtnoppoifepbchaaGreatDoorPlD
import Derived.Test.YtnoppoifepbchaaGreatDoorLRd9
import Derived.IntWalk
import Derived.Test.YtnoppoifepbchaaGreatDoorTxt7
namespace Go.Proofs.YtnoppoifepbchaaGreatDoor

section
open Go.RowKit
set_option linter.unusedVariables false
set_option linter.unusedSimpArgs false
theorem small_bare {s y : So} (h : y.bare = s.bare) (hs : SoSmall s) : SoSmall y := by
 have e0 : y.pro = s.pro := (congrArg So.pro h :)
 have e1 : y.tail = s.tail := (congrArg So.tail h :)
 have e2 : y.decls.map Dc.bare = s.decls.map Dc.bare := (congrArg So.decls h :)
 have e3 : y.rules.map Rl.bare = s.rules.map Rl.bare := (congrArg So.rules h :)
 obtain ⟨h0, h1, h2, h3⟩ := hs
 refine ⟨by rw [e0]; exact h0, by rw [e1]; exact h1, fun d hd => ?_, fun r hr => ?_⟩
 · have := List.mem_map_of_mem (f := Dc.bare) hd
   rw [e2] at this
   obtain ⟨d', hd', e⟩ := List.mem_map.1 this
   obtain ⟨g1, g2⟩ := h2 d' hd'
   refine ⟨by rw [← show d'.tag = d.tag from (congrArg Dc.tag e :)]; exact g1, fun x hx => ?_⟩
   have := List.mem_map_of_mem (f := Sm.bare) hx
   rw [← show d'.syms.map Sm.bare = d.syms.map Sm.bare from (congrArg Dc.syms e :)] at this
   obtain ⟨x', hx', e'⟩ := List.mem_map.1 this
   have := g2 x' hx'
   unfold SmSmall at this ⊢
   rw [← show x'.name = x.name from (congrArg Sm.name e' :)]; exact this
 · have := List.mem_map_of_mem (f := Rl.bare) hr
   rw [e3] at this
   obtain ⟨r', hr', e⟩ := List.mem_map.1 this
   obtain ⟨g1, g2⟩ := h3 r' hr'
   refine ⟨by rw [← show r'.left = r.left from (congrArg Rl.left e :)]; exact g1, fun a ha => ?_⟩
   have := List.mem_map_of_mem (f := Al.bare) ha
   rw [← show r'.alts.map Al.bare = r.alts.map Al.bare from (congrArg Rl.alts e :)] at this
   obtain ⟨a', ha', e'⟩ := List.mem_map.1 this
   obtain ⟨k1, k2⟩ := g2 a' ha'
   refine ⟨fun p hp => ?_, ?_⟩
   · have := List.mem_map_of_mem (f := Pt.bare) hp
     rw [← show a'.parts.map Pt.bare = a.parts.map Pt.bare from (congrArg Al.parts e' :)] at this
     obtain ⟨p', hp', e2'⟩ := List.mem_map.1 this
     obtain ⟨j1, j2⟩ := k1 p' hp'
     refine ⟨?_, by rw [← show p'.code = p.code from (congrArg Pt.code e2' :)]; exact j2⟩
     unfold SmSmall at j1 ⊢
     rw [← show p'.sym.name = p.sym.name from (congrArg (fun q => q.sym.name) e2' :)]; exact j1
   · unfold SmSmall at k2 ⊢
     rw [← show a'.prec.name = a.prec.name from (congrArg (fun q => q.prec.name) e' :)]; exact k2
theorem len_map {α β : Type} {f : α → β} {a b : List α} (h : a.map f = b.map f) : a.length = b.length := by
 have := congrArg List.length h; simpa using this
theorem few_bare {s y : So} (h : y.bare = s.bare) (hs : SoFew s) : SoFew y := by
 have e2 : y.decls.map Dc.bare = s.decls.map Dc.bare := (congrArg So.decls h :)
 have e3 : y.rules.map Rl.bare = s.rules.map Rl.bare := (congrArg So.rules h :)
 obtain ⟨h0, h1, h2, h3⟩ := hs
 refine ⟨by rw [len_map e2]; exact h0, by rw [len_map e3]; exact h1, fun d hd => ?_, fun r hr => ?_⟩
 · have := List.mem_map_of_mem (f := Dc.bare) hd
   rw [e2] at this
   obtain ⟨d', hd', e⟩ := List.mem_map.1 this
   rw [← len_map (show d'.syms.map Sm.bare = d.syms.map Sm.bare from (congrArg Dc.syms e :))]; exact h2 d' hd'
 · have := List.mem_map_of_mem (f := Rl.bare) hr
   rw [e3] at this
   obtain ⟨r', hr', e⟩ := List.mem_map.1 this
   obtain ⟨g1, g2⟩ := h3 r' hr'
   have ea : r'.alts.map Al.bare = r.alts.map Al.bare := (congrArg Rl.alts e :)
   refine ⟨by rw [← len_map ea]; exact g1, fun a ha => ?_⟩
   have := List.mem_map_of_mem (f := Al.bare) ha
   rw [← ea] at this
   obtain ⟨a', ha', e'⟩ := List.mem_map.1 this
   rw [← len_map (show a'.parts.map Pt.bare = a.parts.map Pt.bare from (congrArg Al.parts e' :))]; exact g2 a' ha'
theorem text_len {s : So} (hm : maySo s = true) (hs : SoSmall s) (hf : SoFew s) : (soT s).length ≤ 140737488355328 := by
 obtain ⟨d0, r0⟩ := so_of hm
 have h1 := flat_len (fun d => declT d ++ [10]) s.decls 900000001 (fun d hd => by
  have := (declT_len d (hs.2.2.1 d hd) (d0 d hd) (hf.2.2.1 d hd)).1
  simp only [List.length_append, List.length_singleton]; omega)
 have h2 := flat_len (fun r => ruleT r ++ [10]) s.rules 170000000001 (fun r hr => by
  have := (ruleT_len r (hs.2.2.2 r hr) (hf.2.2.2 r hr)).1
  simp only [List.length_append, List.length_singleton]; omega)
 have h3 : s.decls.length * 900000001 ≤ 401 * 900000001 := Nat.mul_le_mul_right _ hf.1
 have h4 : s.rules.length * 170000000001 ≤ 401 * 170000000001 := Nat.mul_le_mul_right _ hf.2.1
 have h5 : (proT s.pro).length ≤ 1000010 := by
  have := hs.1
  have e : s.pro.data.toList.length = s.pro.size := rfl
  unfold proT; split
  · simp
  · simp only [List.length_append, List.length_cons, List.length_nil]; omega
 have h6 : (tailT s.tail).length ≤ 1000010 := by
  have := hs.2.1
  have e : s.tail.data.toList.length = s.tail.size := rfl
  unfold tailT; split
  · simp
  · simp only [List.length_append, List.length_cons, List.length_nil]; omega
 unfold soT
 rw [if_pos hm]
 simp only [List.length_append, List.length_cons, List.length_nil] at h1 h2 ⊢
 omega
theorem ext_le (s : ByteArray) (B : Nat) (h : s.size ≤ B) (a b : Nat) : (s.extract a b).size ≤ B := by rw [ByteArray.size_extract]; omega
/-- all of what law PrintOnce asks of a text -/
theorem once_facts {u : ByteArray} {x : So} {p : Int} (hu : u.size ≤ 400) (h : readT u = (x, 0, p)) :
 SoSmall x ∧ SoFew x ∧ soT x ≠ [] ∧ (soT x).length ≤ 140737488355328 ∧ ((⟨(soT x).toArray⟩ : ByteArray).size ≤ 4000 → ∃ y, readT ⟨(soT x).toArray⟩ = (y, 0, 0) ∧ x.same y = true ∧ soT y = soT x ∧ SoSmall y ∧ SoFew y) := by
 obtain ⟨hm, hne⟩ := read_may h
 have hx : ∃ r, soS (wordsS u).1 = .ok x r ∧ (wordsS u).2.1 = 0 := by
  unfold readT readS at h
  split at h
  · rename_i he
    simp only [Prod.mk.injEq] at h
    exact absurd h.2.1 he
  · rename_i he
    split at h
    · rename_i y r hy
      simp only [Prod.mk.injEq] at h
      exact ⟨r, by rw [← h.1]; exact hy, by simpa using he⟩
    · simp only [Prod.mk.injEq] at h
      exact absurd h.2.1 (by decide)
 obtain ⟨r, hr, h0⟩ := hx
 have hl := wordsS_many u
 have hok := (words_bounds u).2 h0
 have hsz := so_sz (B := 1000000) (fun w hw => Nat.le_trans (hok.text w hw) (by decide)) hr
 obtain ⟨f1, f2, f3, f4⟩ := so_few hr
 have hS := so_small hm hsz.1 hsz.2.1 hsz.2.2
 have hF : SoFew x := ⟨by omega, by omega, fun d hd => by have := f3 d hd; omega, fun r hr => ⟨by have := (f4 r hr).1; omega, fun a ha => by have := (f4 r hr).2 a ha; omega⟩⟩
 refine ⟨hS, hF, hne, text_len hm hS hF, fun hs => ?_⟩
 obtain ⟨y, e1, e2, e3, _, e5⟩ := text_back hm hs
 exact ⟨y, e1, e3, e5, small_bare e2 hS, few_bare e2 hF⟩
end
section
open Go.RowKit
set_option linter.unusedVariables false
set_option linter.unusedSimpArgs false

set_option maxRecDepth 100000 in
theorem lwords_big (s : ByteArray) (w : World) (hs : s.size ≤ 4611686018427387904) (hlim : 4000 < s.size) :
 Calls Tryz.prog 45 #[.string s] w (LWordsTells ([], 4, 0) w) := by
 go_enter Tryz.func45, Tryz.ntmps45
 go_wp2_with fail
 exact bodyPost_ret (v := .tuple #[.slice none 0 0, .agg #[.int .i64 4, .int .i64 0, .string ByteArray.empty]]) (by simp [results, Tryz.results45, go_sem]; rfl) rfl ⟨⟨_, rfl, World.ownsRow_nil _ _ _ _⟩, (Below.refl _ _).alloc (Nat.le_refl _) _⟩
theorem readA_any (s : ByteArray) (w : World) (hs : s.size ≤ 4611686018427387904) (hE : LexEnv w) : Calls Tryz.prog 19 #[.string s] w (ReadGo (readT s) w) := by
 by_cases h : 4000 < s.size
 · have e : wordsS s = ([], 4, 0) := by unfold wordsS; rw [if_pos h]
   unfold readT
   rw [e]
   refine read_any (Lib.hid atoi_ok) s _ _ _ w (by decide) (by decide) (fun h => absurd h (by decide)) (Lib.hid (fun W hb => ?_))
   refine (lwords_big s W hs h).mono ?_
   rintro e w' ⟨⟨v, rfl, h⟩, hb⟩
   exact ⟨⟨v, rfl, wdl_of_own h⟩, hb⟩
 · exact readL_any s w (by omega) hE
end
section
open Go.RowKit
set_option linter.unusedVariables false
set_option linter.unusedSimpArgs false

theorem list_one {α : Type} {R : World → List Value → α → Prop} {w : World} {B size : Nat} {cs : Array Value} {T : TypeId} {x : α} (h : w.heap[B]? = some (.cells cs T (0, 0))) (hs : cs.size = size) (hR : R w cs.toList x) : ListV size R w (.slice (some ⟨B, 0, none⟩) 1 1) [x] := by
 refine ⟨_, 1, rfl, Nat.le_refl _, by omega, fun e => (by cases e), fun i y hy => ?_⟩
 obtain rfl : i = 0 := by have := (List.getElem?_eq_some_iff.1 hy).1; simp at this; omega
 obtain rfl : x = y := by simpa using hy
 refine ⟨B, 0, cs.toList, rfl, by simpa using hs, hR, fun j hj => ?_⟩
 rw [show 0 + 0 * size + j = j by omega, cell_of_row w B j cs T (0, 0) h, List.getD_eq_getElem?_getD, Array.getElem?_toList, Array.getElem?_eq_getElem (by omega)]; rfl
theorem list_two {α : Type} {R : World → List Value → α → Prop} {w : World} {B size : Nat} {cs : Array Value} {T : TypeId} {x y : α} (h : w.heap[B]? = some (.cells cs T (0, 0))) (hs : cs.size = 2 * size) (hx : R w (cs.toList.take size) x) (hy : R w (cs.toList.drop size) y) : ListV size R w (.slice (some ⟨B, 0, none⟩) 2 2) [x, y] := by
 have hl : cs.toList.length = 2 * size := by simpa using hs
 refine ⟨_, 2, rfl, Nat.le_refl _, by omega, fun e => (by cases e), fun i z hz => ?_⟩
 have hi : i < 2 := by have := (List.getElem?_eq_some_iff.1 hz).1; simpa using this
 match i, hi with
 | 0, _ =>
   obtain rfl : x = z := by simpa using hz
   refine ⟨B, 0, _, rfl, by simp [hs]; omega, hx, fun j hj => ?_⟩
   rw [show 0 + 0 * size + j = j by omega, cell_of_row w B j cs T (0, 0) h, List.getD_eq_getElem?_getD, List.getElem?_take, if_pos hj, Array.getElem?_toList, Array.getElem?_eq_getElem (by omega)]; rfl
 | 1, _ =>
   obtain rfl : y = z := by simpa using hz
   refine ⟨B, 0, _, rfl, by rw [List.length_drop, hl]; omega, hy, fun j hj => ?_⟩
   rw [show 0 + 1 * size + j = size + j by omega, cell_of_row w B (size + j) cs T (0, 0) h, List.getD_eq_getElem?_getD, List.getElem?_drop, Array.getElem?_toList, Array.getElem?_eq_getElem (by omega)]; rfl

theorem heap_put (w : World) (o : Obj) {b : Nat} {x : Obj} (h : w.heap[b]? = some x) : (w.alloc o).heap[b]? = some x := by
 rw [Below.heap_alloc w o b (by rcases Nat.lt_or_ge b w.heap.size with h' | h'; exact h'; rw [Array.getElem?_eq_none h'] at h; cases h)]; exact h
theorem heap_new (w : World) (cs : Array Value) (T : TypeId) (b : Nat) (hb : b = w.heap.size) : (w.alloc (.cells cs T)).heap[b]? = some (.cells cs T (0, 0)) := by subst hb; exact heap_alloc_new w _

/-- the rule of one alternative of one byte in quotes -/
def ruleOf (nm x : ByteArray) : Rl := ⟨nm, [⟨[⟨⟨x, true, 0, 0⟩, ⟨#[]⟩, 0⟩], ⟨⟨#[]⟩, false, 0, 0⟩, 0⟩], 0⟩
theorem rule_laid {W : World} {bp ba br : Nat} {nm x : ByteArray}
 (hp : W.heap[bp]? = some (.cells #[.string x, .bool true, .int .i64 0, .int .i64 0, .string ⟨#[]⟩, .int .i64 0] 67 (0, 0)))
 (ha : W.heap[ba]? = some (.cells #[.slice (some ⟨bp, 0, none⟩) 1 1, .string ⟨#[]⟩, .bool false, .int .i64 0, .int .i64 0, .int .i64 0] 62 (0, 0)))
 (hr : W.heap[br]? = some (.cells #[.string nm, .slice (some ⟨ba, 0, none⟩) 1 1, .int .i64 0] 57 (0, 0))) :
 RlsV W (.slice (some ⟨br, 0, none⟩) 1 1) [ruleOf nm x] :=
 list_one hr rfl ⟨_, rfl, list_one ha rfl ⟨_, rfl, list_one hp rfl rfl⟩⟩

def w8s : So := ⟨⟨#[]⟩, [], [ruleOf ⟨#[97]⟩ ⟨#[120]⟩], ⟨#[]⟩⟩
def w8n : So := ⟨⟨#[]⟩, [], [], ⟨#[]⟩⟩
theorem w8k1 : soT w8s = [37, 37, 10, 97, 32, 58, 32, 39, 120, 39, 32, 59, 10] := by decide +kernel
theorem w8k2 : maySo w8s = true := by decide +kernel
theorem w8k3 : maySo w8n = false := by decide +kernel
theorem w8k4 : soT w8n = [] := by decide +kernel
theorem w8k5 : w8s.same w8s = true := by decide +kernel
theorem w8k6 : w8s.same w8n = false := by decide +kernel
theorem none_laid (W : World) : SoV W (.agg #[.string ⟨#[]⟩, .slice none 0 0, .slice none 0 0, .string ⟨#[]⟩]) w8n := ⟨_, _, rfl, ListV.nil _ _ _, ListV.nil _ _ _⟩
theorem w8n_small : SoSmall w8n ∧ SoFew w8n := by
 refine ⟨⟨by decide, by decide, fun d hd => (by cases hd), fun r hr => (by cases hr)⟩, by decide, by decide, fun d hd => (by cases hd), fun r hr => (by cases hr)⟩
theorem ruleOf_small (nm x : ByteArray) (hn : nm.size ≤ 1000000) (hx : x.size ≤ 1000000) : RlSmall (ruleOf nm x) ∧ RlFew (ruleOf nm x) := by
 refine ⟨⟨hn, fun a ha => ?_⟩, by simp [ruleOf], fun a ha => ?_⟩
 · obtain rfl : a = _ := by simpa [ruleOf] using ha
   refine ⟨fun p hp => ?_, by show (⟨#[]⟩ : ByteArray).size ≤ _; decide⟩
   obtain rfl : p = _ := by simpa using hp
   exact ⟨hx, by show (⟨#[]⟩ : ByteArray).size ≤ _; decide⟩
 · obtain rfl : a = _ := by simpa [ruleOf] using ha
   simp
theorem w8s_small : SoSmall w8s ∧ SoFew w8s := by
 have h := ruleOf_small ⟨#[97]⟩ ⟨#[120]⟩ (by decide) (by decide)
 refine ⟨⟨by decide, by decide, fun d hd => (by cases hd), fun r hr => ?_⟩, by decide, by decide, fun d hd => (by cases hd), fun r hr => ?_⟩
 · obtain rfl : r = _ := by simpa [w8s] using hr
   exact h.1
 · obtain rfl : r = _ := by simpa [w8s] using hr
   exact h.2
theorem text_is {S : ByteArray} {l : List UInt8} (h : S.data.toList = l) : S.toList = l := by rw [Lib.toList_data]; exact h

set_option maxRecDepth 100000 in
set_option maxHeartbeats 8000000 in
theorem wakes8_any (w : World) (hE : Env w) : Calls Tryz.prog 15 #[] w fun e w' => e = .returned (.bool true) ∧ Below w.heap.size w w' := by
 have HE := Lib.hid hE
 clear hE
 go_enter Tryz.func15, Tryz.ntmps15
 go_upto_region 2 with fail
 have P0 := heap_new w #[.string ⟨#[120]⟩, .bool true, .int .i64 0, .int .i64 0, .string ⟨#[]⟩, .int .i64 0] 67 w.heap.size rfl
 have hb0 := (Below.refl w.heap.size w).alloc (Nat.le_refl _) (.cells #[.string ⟨#[120]⟩, .bool true, .int .i64 0, .int .i64 0, .string ⟨#[]⟩, .int .i64 0] 67)
 have hs0 : (w.alloc (.cells #[.string ⟨#[120]⟩, .bool true, .int .i64 0, .int .i64 0, .string ⟨#[]⟩, .int .i64 0] 67)).heap.size = w.heap.size + 1 := World.size_alloc _ _
 generalize w.alloc (.cells #[.string ⟨#[120]⟩, .bool true, .int .i64 0, .int .i64 0, .string ⟨#[]⟩, .int .i64 0] 67) = w1 at P0 hb0 hs0 ⊢
 have A0 := heap_new w1 #[.slice (some ⟨w.heap.size, 0, none⟩) 1 1, .string ⟨#[]⟩, .bool false, .int .i64 0, .int .i64 0, .int .i64 0] 62 (w.heap.size + 1) hs0.symm
 have P1 := heap_put w1 (.cells #[.slice (some ⟨w.heap.size, 0, none⟩) 1 1, .string ⟨#[]⟩, .bool false, .int .i64 0, .int .i64 0, .int .i64 0] 62) P0
 have hb1 := hb0.alloc hb0.size (.cells #[.slice (some ⟨w.heap.size, 0, none⟩) 1 1, .string ⟨#[]⟩, .bool false, .int .i64 0, .int .i64 0, .int .i64 0] 62)
 have hs1 : (w1.alloc (.cells #[.slice (some ⟨w.heap.size, 0, none⟩) 1 1, .string ⟨#[]⟩, .bool false, .int .i64 0, .int .i64 0, .int .i64 0] 62)).heap.size = w.heap.size + 1 + 1 := by rw [World.size_alloc, hs0]
 generalize w1.alloc (.cells #[.slice (some ⟨w.heap.size, 0, none⟩) 1 1, .string ⟨#[]⟩, .bool false, .int .i64 0, .int .i64 0, .int .i64 0] 62) = w2 at A0 P1 hb1 hs1 ⊢
 have R0 := heap_new w2 #[.string ⟨#[97]⟩, .slice (some ⟨w.heap.size + 1, 0, none⟩) 1 1, .int .i64 0] 57 (w.heap.size + 1 + 1) hs1.symm
 have P2 := heap_put w2 (.cells #[.string ⟨#[97]⟩, .slice (some ⟨w.heap.size + 1, 0, none⟩) 1 1, .int .i64 0] 57) P1
 have A1 := heap_put w2 (.cells #[.string ⟨#[97]⟩, .slice (some ⟨w.heap.size + 1, 0, none⟩) 1 1, .int .i64 0] 57) A0
 have hb2 := hb1.alloc hb1.size (.cells #[.string ⟨#[97]⟩, .slice (some ⟨w.heap.size + 1, 0, none⟩) 1 1, .int .i64 0] 57)
 have hs2 : (w2.alloc (.cells #[.string ⟨#[97]⟩, .slice (some ⟨w.heap.size + 1, 0, none⟩) 1 1, .int .i64 0] 57)).heap.size = w.heap.size + 1 + 1 + 1 := by rw [World.size_alloc, hs1]
 generalize w2.alloc (.cells #[.string ⟨#[97]⟩, .slice (some ⟨w.heap.size + 1, 0, none⟩) 1 1, .int .i64 0] 57) = w3 at R0 P2 A1 hb2 hs2 ⊢
 have hR := rule_laid P2 A1 R0
 have C : Hid (∀ W, Below (w3.alloc (.cells #[.string ⟨#[]⟩, .slice none 0 0, .slice (some ⟨w.heap.size + 1 + 1, 0, none⟩) 1 1, .string ⟨#[]⟩] 36)).heap.size (w3.alloc (.cells #[.string ⟨#[]⟩, .slice none 0 0, .slice (some ⟨w.heap.size + 1 + 1, 0, none⟩) 1 1, .string ⟨#[]⟩] 36)) W → ∀ i u, (#[.string ⟨#[]⟩, .slice none 0 0, .slice (some ⟨w.heap.size + 1 + 1, 0, none⟩) 1 1, .string ⟨#[]⟩] : Array Value)[i]? = some u → W.cell? ⟨w.heap.size + 1 + 1 + 1, i, none⟩ = some u) := Lib.hid (fun W hW i u hu => by
  have := box1 (w := w3) hW i u hu
  rwa [hs2] at this)
 have hb3 := hb2.alloc hb2.size (.cells #[.string ⟨#[]⟩, .slice none 0 0, .slice (some ⟨w.heap.size + 1 + 1, 0, none⟩) 1 1, .string ⟨#[]⟩] 36)
 have hR2 := hR.below ((Below.refl w3.heap.size w3).alloc (Nat.le_refl _) (.cells #[.string ⟨#[]⟩, .slice none 0 0, .slice (some ⟨w.heap.size + 1 + 1, 0, none⟩) 1 1, .string ⟨#[]⟩] 36))
 have hS : SoV (w3.alloc (.cells #[.string ⟨#[]⟩, .slice none 0 0, .slice (some ⟨w.heap.size + 1 + 1, 0, none⟩) 1 1, .string ⟨#[]⟩] 36)) (.agg #[.string ⟨#[]⟩, .slice none 0 0, .slice (some ⟨w.heap.size + 1 + 1, 0, none⟩) 1 1, .string ⟨#[]⟩]) w8s := ⟨_, _, rfl, ListV.nil _ _ _, hR2⟩
 generalize w3.alloc (.cells #[.string ⟨#[]⟩, .slice none 0 0, .slice (some ⟨w.heap.size + 1 + 1, 0, none⟩) 1 1, .string ⟨#[]⟩] 36) = w4 at C hb3 hS ⊢
 clear P0 hb0 hs0 A0 P1 hb1 hs1 R0 P2 A1 hb2 hR hR2 hs2
 have q0 := fun (W : World) hW => C.out W hW 0 _ rfl
 have q1 := fun (W : World) hW => C.out W hW 1 _ rfl
 have q2 := fun (W : World) hW => C.out W hW 2 _ rfl
 have q3 := fun (W : World) hW => C.out W hW 3 _ rfl
 have Q0 := Lib.hid q0
 have Q1 := Lib.hid q1
 have Q2 := Lib.hid q2
 have Q3 := Lib.hid q3
 have c0 := q0 w4 (Below.refl _ _)
 have c1 := q1 w4 (Below.refl _ _)
 have c2 := q2 w4 (Below.refl _ _)
 have c3 := q3 w4 (Below.refl _ _)
 clear q0 q1 q2 q3
 have HT := Lib.hid (ptext_any _ w8s w4 hS w8s_small.1 w8s_small.2 (HE.out.below hb3))
 have HM := Lib.hid (fun (W : World) (hW : Below w4.heap.size w4 W) => pmay_any _ w8s W (hS.below hW) w8s_small.1 (HE.out.below (hb3.trans (hW.mono hb3.size))).max)
 have HN := Lib.hid (fun (W : World) (hW : Below w4.heap.size w4 W) => pmay_any _ w8n W (none_laid W) w8n_small.1 (HE.out.below (hb3.trans (hW.mono hb3.size))).max)
 have HX := Lib.hid (fun (W : World) (hW : Below w4.heap.size w4 W) => ptext_any _ w8n W (none_laid W) w8n_small.1 w8n_small.2 (HE.out.below (hb3.trans (hW.mono hb3.size))))
 have HS1 := Lib.hid (fun (W : World) (hW : Below w4.heap.size w4 W) => psame_any _ _ w8s w8s W (hS.below hW) (hS.below hW))
 have HS2 := Lib.hid (fun (W : World) (hW : Below w4.heap.size w4 W) => psame_any _ _ w8s w8n W (hS.below hW) (none_laid W))
 rw [w8k1] at HT
 rw [w8k2] at HM
 rw [w8k3] at HN
 rw [w8k4] at HX
 rw [w8k5] at HS1
 rw [w8k6] at HS2
 clear hS
 go_wp2_with (first
  | (go_at_call 18; (with_reducible refine HT.out.mono ?_); rintro e w5 ⟨T5, rfl, hT5, hb5⟩; have t5 := text_is hT5; have a0 := Q0.out _ hb5; have a1 := Q1.out _ hb5; have a2 := Q2.out _ hb5; have a3 := Q3.out _ hb5)
  | (go_at_call 35; (with_reducible refine (HM.out _ hb5).mono ?_); rintro e w6 ⟨rfl, hb6⟩; have h46 := hb5.trans (hb6.mono hb5.size))
  | (go_at_call 35; (with_reducible refine (HN.out _ h46).mono ?_); rintro e w7 ⟨rfl, hb7⟩; have h47 := h46.trans (hb7.mono h46.size))
  | (go_at_call 18; (with_reducible refine (HX.out _ h47).mono ?_); rintro e w8 ⟨T8, rfl, hT8, hb8⟩; have t8 := text_is hT8; have h48 := h47.trans (hb8.mono h47.size); have b0 := Q0.out _ h48; have b1 := Q1.out _ h48; have b2 := Q2.out _ h48; have b3 := Q3.out _ h48)
  | (go_at_call 21; (with_reducible refine (HS1.out _ h48).mono ?_); rintro e w9 ⟨rfl, hb9⟩; have h49 := h48.trans (hb9.mono h48.size); have d0 := Q0.out _ h49; have d1 := Q1.out _ h49; have d2 := Q2.out _ h49; have d3 := Q3.out _ h49)
  | (go_at_call 21; (with_reducible refine (HS2.out _ h49).mono ?_); rintro e w10 ⟨rfl, hb10⟩; have h410 := h49.trans (hb10.mono h49.size)))
 go_ret
 exact ⟨ret_bool (by simp [t5, t8]), hb3.trans (h410.mono hb3.size)⟩
end
end Go.Proofs.YtnoppoifepbchaaGreatDoor
