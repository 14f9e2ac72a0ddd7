/- What the document's reader makes of a rule's first alternative: a rule in a box, its alternatives in a row. -/
import Derived.Test.YtnoppoifepbchaaGreatDoorRfI
import Derived.Test.YtnoppoifepbchaaGreatDoorRf2
import Derived.Test.YtnoppoifepbchaaGreatDoorBaseA
import Derived.Test.YtnoppoifepbchaaGreatDoorRd8
import Derived.Lib.Strings
namespace Go.Proofs.YtnoppoifepbchaaGreatDoor
open Go.RowKit
set_option linter.unusedVariables false
set_option linter.unusedSimpArgs false

theorem altBox_D {BC : Nat} {V6 : World} {Sa : Nat → Prop} {cs rs : Array Value} {A T : TypeId} (hB : BC ≤ V6.heap.size) (hS : ∀ b, Sa b → b < V6.heap.size) :
  AltBox BC V6 ((V6.alloc (.cells rs T)).alloc (.cells cs A)) Sa V6.heap.size (V6.heap.size + 1) (.cells rs T (0, 0)) (.cells cs A (0, 0)) := by
 have h1 := (Below.refl BC V6).alloc hB (.cells rs T)
 have hs : (V6.alloc (.cells rs T)).heap.size = V6.heap.size + 1 := World.size_alloc _ _
 have h3 := heap_alloc_new (V6.alloc (.cells rs T)) (.cells cs A)
 rw [hs] at h3
 refine ⟨h1.alloc (by omega) _, heap_keep7 _ _ (heap_alloc_new V6 _), h3, hB, by omega, by omega, fun b hb => ?_⟩
 have h2 := hS b hb
 exact ⟨(Below.heap_alloc _ _ b (by omega)).trans (Below.heap_alloc V6 _ b h2), by omega, by omega⟩
theorem altBox_E {BC : Nat} {V6 : World} {Sa : Nat → Prop} {cs rs : Array Value} {A T : TypeId} (hB : BC ≤ V6.heap.size) (hS : ∀ b, Sa b → b < V6.heap.size) :
  AltBox BC V6 ((V6.alloc (.cells cs A)).alloc (.cells rs T)) Sa (V6.heap.size + 1) V6.heap.size (.cells rs T (0, 0)) (.cells cs A (0, 0)) := by
 obtain ⟨h1, h2, h3, h4, h5, h6, h7⟩ := altBox_D (cs := rs) (rs := cs) (A := T) (T := A) hB hS
 exact ⟨h1, h3, h2, h5, h4, h6.symm, fun b hb => ⟨(h7 b hb).1, (h7 b hb).2.2, (h7 b hb).2.1⟩⟩

def AltTold (L : Wds) (n : Nat) (al : Al) (q : Nat) (bd : Int) : Prop := (bd = -1 ∧ n ≤ q ∧ altS (L.drop n) = .ok al (L.drop q)) ∨ (0 ≤ bd ∧ bd ≤ 100000 ∧ ∃ r, altS (L.drop n) = .bad r ∧ bd = (hdW r).place)
def AltMade (w0 : World) (a : Nat) (wv : Value) (L : Wds) (n : Nat) (V5 : World) (yt : ByteArray) (yp : Int) (x : Value) (wx : World) : Prop :=
 ∃ (V6 : World) (al : Al) (q : Nat) (bd : Int) (pva : Option Addr) (pvn pvc : Nat) (Sa : Nat → Prop) (Bx SB : Nat), x = .pointer (some ⟨Bx, 0, none⟩) ∧ Firm Sa V6 (fun X => PtsV X (.slice pva pvn pvc) al.parts) ∧ (∀ b, Sa b → V5.heap.size ≤ b) ∧ q < L.length ∧ RfAt w0 V6 a wv q bd ∧ Turns (only a) V5 V6 ∧ AltTold L n al q bd ∧
  AltBox V5.heap.size V6 wx Sa Bx SB (.cells #[.string yt, .slice (some ⟨SB, 0, none⟩) 1 1, .int .i64 yp] 57 (0, 0)) (.cells #[.slice pva pvn pvc, .string al.prec.name, .bool al.prec.lit, .int .i64 al.prec.num, .int .i64 al.prec.pos, .int .i64 al.pos] 62 (0, 0))
section
variable {w0 V5 V6 : World} {a : Nat} {wv : Value} {L : Wds} {n q : Nat} {bd : Int} {al : Al} {pva : Option Addr} {pvn pvc : Nat} {Sa : Nat → Prop} {yt : ByteArray} {yp : Int}
theorem altMade_A {c0 c1 c2 : Value} (hFa : Firm Sa V6 (fun X => PtsV X (.slice pva pvn pvc) al.parts)) (hSa : ∀ b, Sa b → (V5.alloc (.cells #[c0, c1, c2] 57)).drew.heap.size ≤ b) (hq : q < L.length) (h6 : RfAt w0 V6 a wv q bd) (ht6 : Turns (only a) (V5.alloc (.cells #[c0, c1, c2] 57)).drew V6) (hor : AltTold L n al q bd) (ha : ¬ only a V5.heap.size) :
  AltMade w0 a wv L n V5 yt yp (.pointer (some ⟨V5.heap.size, 0, none⟩)) ((((V6.alloc (.cells #[.slice pva pvn pvc, .string al.prec.name, .bool al.prec.lit, .int .i64 al.prec.num, .int .i64 al.prec.pos, .int .i64 al.pos] 62)).setCell ⟨V5.heap.size, 0, none⟩ (.string yt)).setCell ⟨V5.heap.size, 1, none⟩ (.slice (some ⟨V6.heap.size, 0, none⟩) 1 1)).setCell ⟨V5.heap.size, 2, none⟩ (.int .i64 yp)) := by
 have hs : (V5.alloc (.cells #[c0, c1, c2] 57)).drew.heap.size = V5.heap.size + 1 := World.size_alloc _ _
 have hrow : (V5.alloc (.cells #[c0, c1, c2] 57)).drew.heap[V5.heap.size]? = some (.cells #[c0, c1, c2] 57 (0, 0)) := heap_made V5 _ _ _ rfl
 have hT : Turns (only a) V5 V6 := (Turns.of_below (((Below.refl V5.heap.size V5).alloc (Nat.le_refl _) _).drew)).trans ht6 (fun b _ h => h)
 exact ⟨V6, al, q, bd, pva, pvn, pvc, Sa, _, _, rfl, hFa, fun b hb => by have := hSa b hb; omega, hq, h6, hT, hor, altBox_A (ht6.heap hrow ha) (fun b hb => ⟨by have := hSa b hb; omega, hFa.1 b hb⟩)⟩
theorem altMade_B (hFa : Firm Sa V6 (fun X => PtsV X (.slice pva pvn pvc) al.parts)) (hSa : ∀ b, Sa b → V5.drew.heap.size ≤ b) (hq : q < L.length) (h6 : RfAt w0 V6 a wv q bd) (ht6 : Turns (only a) V5.drew V6) (hor : AltTold L n al q bd) :
  AltMade w0 a wv L n V5 yt yp (.pointer (some ⟨V6.heap.size, 0, none⟩)) ((V6.alloc (.cells #[.string yt, .slice (some ⟨V6.heap.size + 1, 0, none⟩) 1 1, .int .i64 yp] 57)).alloc (.cells #[.slice pva pvn pvc, .string al.prec.name, .bool al.prec.lit, .int .i64 al.prec.num, .int .i64 al.prec.pos, .int .i64 al.pos] 62)) :=
 ⟨V6, al, q, bd, pva, pvn, pvc, Sa, _, _, rfl, hFa, hSa, hq, h6, (Turns.of_below (Below.refl V5.heap.size V5).drew).trans ht6 (fun b _ h => h), hor, altBox_D ht6.size hFa.1⟩
theorem altMade_C (hFa : Firm Sa V6 (fun X => PtsV X (.slice pva pvn pvc) al.parts)) (hSa : ∀ b, Sa b → V5.drew.heap.size ≤ b) (hq : q < L.length) (h6 : RfAt w0 V6 a wv q bd) (ht6 : Turns (only a) V5.drew V6) (hor : AltTold L n al q bd) :
  AltMade w0 a wv L n V5 yt yp (.pointer (some ⟨V6.heap.size + 1, 0, none⟩)) ((V6.alloc (.cells #[.slice pva pvn pvc, .string al.prec.name, .bool al.prec.lit, .int .i64 al.prec.num, .int .i64 al.prec.pos, .int .i64 al.pos] 62)).alloc (.cells #[.string yt, .slice (some ⟨V6.heap.size, 0, none⟩) 1 1, .int .i64 yp] 57)) :=
 ⟨V6, al, q, bd, pva, pvn, pvc, Sa, _, _, rfl, hFa, hSa, hq, h6, (Turns.of_below (Below.refl V5.heap.size V5).drew).trans ht6 (fun b _ h => h), hor, altBox_E ht6.size hFa.1⟩
/-- one alternative in a row of its own -/
theorem alt_one {BC SB : Nat} {w : World} (hSB : w.heap[SB]? = some (.cells #[.slice pva pvn pvc, .string al.prec.name, .bool al.prec.lit, .int .i64 al.prec.num, .int .i64 al.prec.pos, .int .i64 al.pos] 62 (0, 0))) (hB : BC ≤ SB)
  (hFa : Firm Sa w (fun X => PtsV X (.slice pva pvn pvc) al.parts)) (hn : ¬ Sa SB) :
  GrowL BC 62 6 alR Sa w (.slice (some ⟨SB, 0, none⟩) 1 1) [.slice pva pvn pvc, .string al.prec.name, .bool al.prec.lit, .int .i64 al.prec.num, .int .i64 al.prec.pos, .int .i64 al.pos] [al] := by
 refine ⟨⟨rfl, .inr ⟨SB, 1, _, rfl, hB, hSB, Nat.le_refl _, by unfold maxLen; omega, rfl, rfl⟩⟩, Firm.imp hFa (fun w' hw' i x hx => ?_), fun k hk => by cases hk; exact hn⟩
 cases i with
 | zero => simp at hx; subst hx; exact ⟨_, rfl, hw'⟩
 | succ i => simp at hx
theorem isB_sign (c : UInt8) (x : Wd) : isB (-1) 6 ⟨#[c]⟩ x = signB c x := by
 unfold isB signB
 have h : (⟨#[c]⟩ : ByteArray).toList = [c] := by rw [Lib.toList_data]
 rw [h, Bool.eq_iff_iff]
 simp
end

/-- so far the alternatives: one more stands behind a bar -/
inductive AState (L : Wds) (RESa : Rd (List Al)) (acc : List Al) (q : Nat) : Int → Prop
 | on : (signB 124 (wAt L q) = true → RESa = altsS acc (L.drop (q + 1))) → (signB 124 (wAt L q) = false → RESa = .ok acc (L.drop q)) → AState L RESa acc q (-1)
 | off (bd : Int) (r : Wds) : 0 ≤ bd → bd ≤ 100000 → RESa = .bad r → bd = (hdW r).place → AState L RESa acc q bd
theorem AState.next {L : Wds} {RESa : Rd (List Al)} {acc : List Al} {n q : Nat} {bd : Int} {al : Al} (h : RESa = altsS acc (L.drop n)) (hq : q < L.length) (ht : AltTold L n al q bd) : AState L RESa (acc ++ [al]) q bd := by
 rcases ht with ⟨rfl, _, h2⟩ | ⟨h1, h2, r, h3, h4⟩
 · exact .on (fun hb => h.trans (alts_more h2 hq hb)) (fun hb => h.trans (alts_last h2 hb))
 · exact .off bd r h1 h2 (h.trans (alts_bad h3)) h4
end Go.Proofs.YtnoppoifepbchaaGreatDoor
