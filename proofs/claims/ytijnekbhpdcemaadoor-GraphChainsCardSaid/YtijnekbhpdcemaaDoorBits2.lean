/- Sets of numbers in sixteen words: has, joined, cut, the same. -/
import Derived.Test.YtijnekbhpdcemaaDoorBits
import Derived.Outline
namespace Go.Proofs.YtijnekbhpdcemaaDoor
open Go.RowKit
set_option linter.unusedVariables false

def memS (ws : List Nat) (i : Int) : Bool := decide (0 ≤ i ∧ i < 1024) && (ws.getD (i.toNat / 64) 0).testBit (i.toNat % 64)

theorem hasWord (u n : Nat) (hu : u < 2 ^ 64) : (bits .and .u64 ((u : Int) / 2 ^ (n % 64)) 1 == 1) = u.testBit (n % 64) := by
  have e : ((u : Int) / 2 ^ (n % 64)) = ((u / 2 ^ (n % 64) : Nat) : Int) := by norm_cast
  have h1 : u / 2 ^ (n % 64) ≤ u := Nat.div_le_self _ _
  rw [e, show (1 : Int) = ((1 : Nat) : Int) from rfl, bits_and_u64_nat _ _ (by omega) (by omega), Nat.and_one_is_mod, Nat.testBit_eq_decide_div_mod_eq]
  rw [Bool.eq_iff_iff]; simp; omega

theorem has_any (ws : List Nat) (i : Int) (w : World) (hws : ws.length = 16) (h64 : ∀ y ∈ ws, y < 2 ^ 64) :
    Calls Tryd.prog 20 #[.agg (setA ws), .int .i64 i] w fun e w' => e = .returned (.bool (memS ws i)) ∧ Below w.heap.size w w' := by
  by_cases hy : 0 ≤ i ∧ i < 1024
  · obtain ⟨n, rfl⟩ := Int.eq_ofNat_of_zero_le hy.1
    have hn : n / 64 < ws.length := by rw [hws]; omega
    have hcell : (setA ws)[n / 64]? = some (.int .u64 (ws.getD (n / 64) 0 : Nat)) := setA_get _ _ hn
    have hu : ws.getD (n / 64) 0 < 2 ^ 64 := by
      rw [List.getD_eq_getElem?_getD, List.getElem?_eq_getElem hn]; exact h64 _ (List.getElem_mem hn)
    have hm : Hid (memS ws n = (ws.getD (n / 64) 0).testBit (n % 64)) := Lib.hid (by unfold memS; simp; omega)
    generalize ws.getD (n / 64) 0 = u at hcell hu hm
    have HU := Lib.hid hu
    clear hu hws hn h64
    go_enter Tryd.func20, Tryd.ntmps20
    go_wp2_with (fail)
    refine (inSet_yes _ _ hy).mono ?_
    rintro e w2 ⟨rfl, rfl⟩
    go_wp2_with (fail)
    go_ret
    exact ⟨ret_bool (by rw [hm.out, hasWord u n HU.out]), (Below.refl _ _).alloc (Nat.le_refl _) _⟩
  · go_enter Tryd.func20, Tryd.ntmps20
    go_wp2_with (fail)
    refine (inSet_no _ _ (by omega)).mono ?_
    rintro e w2 ⟨rfl, rfl⟩
    go_wp2_with (fail)
    go_ret
    exact ⟨ret_bool (by unfold memS; simp; omega), (Below.refl _ _).alloc (Nat.le_refl _) _⟩

theorem run_index_agg {P : Program} (w : World) (T E : TypeId) (k' : IntKind) (n : Nat) (cs : Array Value) (k : Nat) (v : Value) (hu : P.underlying T = some (.array n E)) (hE : P.underlying E = some (.int k')) (hi : (P.info? E).map (·.size) = some 1) (hk : k < n) (hv : cs[k]? = some v) :
    (Instr.index T (.agg cs) (.int .i64 k)).run P w = .ok v w := by
  cases hq : P.info? E with
  | none => simp [hq] at hi
  | some i =>
    have hs : i.size = 1 := by simpa [hq] using hi
    have hagg : (isAgg E).run P w = .ok false w := by
      unfold isAgg
      rw [Sem.run_bind, run_underlying hE w]
      simp
    simp [Instr.index, run_underlying hu, asIntOf, hk, sizeOf, typeInfo, hq, hs, part, Sem.run_bind, hagg, hv]

/-- a whole row read, the operation guarded by what holds -/
theorem wpList_load_row_g {P : Program} {ops : Array Oper} {rest : List Oper} {o : Oper} {a : Act} {w : World} {Q : Exit → Act → World → Prop} (hw : Region.wanted o (yielded ops a.tmps) = true) (ty : TypeId) (x : Operand) (ho : o.op = .load ty x)
    (g : Nat) (hx : a.eval x = .pointer (some ⟨g, 0, none⟩)) (t : TypeId) (cs : Array Value) (fr : Nat × Nat) (d : TypeDesc) (hg : w.heap[g]? = some (.cells cs t fr))
    (hu : P.underlying ty = some d) (hd : (match d with | .struct _ | .array _ _ => true | _ => false) = true) (hi : (P.info? ty).map (·.size) = some cs.size)
    (h : wpList P ops Q rest (a.put o.dst (.agg cs)) w) : wpList P ops Q (o :: rest) a w :=
  wpList_step fun K hK => by rw [if_pos hw]; exact wp_load_row ty x ho g hx t cs fr d hg hu hd hi (hK _ _ h)

end Go.Proofs.YtijnekbhpdcemaaDoor
