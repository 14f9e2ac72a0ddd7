/- Places, a bit each: comb's places. -/
import Derived.Test.YtjeebcnjdhlcfaaDoorComb4
import Derived.Test.YtjeebcnjdhlcfaaDoorTz
import Derived.IntWalk
import Derived.Deep.LoopGhost
namespace Go.Proofs.YtjeebcnjdhlcfaaDoor
open Go.RowKit
set_option linter.unusedVariables false
set_option linter.unusedSimpArgs false

def wV (x : Nat) : Value := .int .u64 (x : Int)
/-- is a place taken? -/
def bitAt (ws : List Nat) (k : Nat) : Bool := (ws.getD (k / 64) 0).testBit (k % 64)
/-- sixty-four places from one on -/
def fromW (ws : List Nat) (k : Nat) : Nat := (ws.getD (k / 64) 0) / 2 ^ (k % 64) ||| (ws.getD (k / 64 + 1) 0 * 2 ^ (64 - k % 64)) % 2 ^ 64

theorem word_lt {ws : List Nat} (h : ∀ y ∈ ws, y < 2 ^ 64) (i : Nat) : ws.getD i 0 < 2 ^ 64 := by
  rw [List.getD_eq_getElem?_getD]
  cases e : ws[i]? with
  | none => simp
  | some z => simpa using h z (List.mem_of_getElem? e)
theorem fromW_lt {ws : List Nat} (h : ∀ y ∈ ws, y < 2 ^ 64) (k : Nat) : fromW ws k < 2 ^ 64 := by
  unfold fromW
  refine Nat.or_lt_two_pow (Nat.lt_of_le_of_lt (Nat.div_le_self _ _) (word_lt h _)) (Nat.mod_lt _ (by omega))
theorem fromW_bit {ws : List Nat} (h : ∀ y ∈ ws, y < 2 ^ 64) (k i : Nat) (hi : i < 64) : (fromW ws k).testBit i = bitAt ws (k + i) := by
  have hx := word_lt h (k / 64)
  unfold fromW bitAt
  rw [Nat.testBit_or, Nat.testBit_div_two_pow, Nat.testBit_mod_two_pow, Nat.testBit_mul_two_pow]
  by_cases hc : k % 64 + i < 64
  · have e1 : (k + i) / 64 = k / 64 := by omega
    have e2 : (k + i) % 64 = i + k % 64 := by omega
    have e3 : ¬ (64 - k % 64 ≤ i) := by omega
    rw [e1, e2]
    simp [e3]
  · have e1 : (k + i) / 64 = k / 64 + 1 := by omega
    have e2 : (k + i) % 64 = i - (64 - k % 64) := by omega
    have e3 : 64 - k % 64 ≤ i := by omega
    have e4 : (ws.getD (k / 64) 0).testBit (i + k % 64) = false := Nat.testBit_lt_two_pow (Nat.lt_of_lt_of_le hx (Nat.pow_le_pow_right (by omega) (by omega)))
    rw [e1, e2, e4]
    simp [e3, hi]

/-- a place more -/
def takeW (ws : List Nat) (k : Nat) : List Nat := (ws ++ List.replicate (k / 64 + 1 - ws.length) 0).set (k / 64) (ws.getD (k / 64) 0 ||| 2 ^ (k % 64))
theorem pad_getD (ws : List Nat) (m i : Nat) : (ws ++ List.replicate m 0).getD i 0 = ws.getD i 0 := by
  rw [List.getD_eq_getElem?_getD, List.getD_eq_getElem?_getD, List.getElem?_append]
  split
  · rfl
  · rw [List.getElem?_replicate, List.getElem?_eq_none (l := ws) (by omega)]
    split <;> rfl
theorem takeW_bit (ws : List Nat) (k i : Nat) : bitAt (takeW ws k) i = (bitAt ws i || decide (i = k)) := by
  unfold bitAt takeW
  rw [getD_set _ _ _ _ _ (by simp; omega)]
  by_cases h : i / 64 = k / 64
  · rw [if_pos h, Nat.testBit_or, Nat.testBit_two_pow, h]
    congr 1
    rw [Bool.eq_iff_iff]; simp; omega
  · rw [if_neg h, pad_getD, decide_eq_false (by omega), Bool.or_false]
theorem takeW_lt {ws : List Nat} (h : ∀ y ∈ ws, y < 2 ^ 64) (k : Nat) : ∀ y ∈ takeW ws k, y < 2 ^ 64 := by
  intro y hy
  unfold takeW at hy
  rcases List.mem_or_eq_of_mem_set hy with hy | rfl
  · rcases List.mem_append.1 hy with hy | hy
    · exact h y hy
    · have := List.eq_of_mem_replicate hy; subst this; omega
  · exact Nat.or_lt_two_pow (word_lt h _) (Nat.pow_lt_pow_right (by omega) (by omega))

theorem Tryd.infoWord : (Tryd.prog.info? 58).map (fun i => (i.zero, i.size, i.bytes)) = some (some (.int .u64 0), 1, 8) := by kernel_rfl

structure PlacesV (w : World) (base p : Nat) (v : Value) (ws : List Nat) : Prop where
  cell : w.cell? ⟨p, 0, none⟩ = some v
  free : w.frozen? ⟨p, 0, none⟩ = false
  own : w.ownsRow base 58 1 v ws.length (ws.map wV)
  lt : ∀ y ∈ ws, y < 2 ^ 64
  apart : v.ownBlock ≠ some p
theorem PlacesV.drewN {w : World} {base p : Nat} {v : Value} {ws : List Nat} (h : PlacesV w base p v ws) (n : Nat) : PlacesV (w.drewN n) base p v ws := ⟨h.cell, h.free, h.own, h.lt, h.apart⟩
theorem PlacesV.turn {w w' : World} {base p : Nat} {v : Value} {ws : List Nat} (h : PlacesV w base p v ws) (hk : ∀ b, (b = p ∨ v.ownBlock = some b) → w'.heap[b]? = w.heap[b]?) : PlacesV w' base p v ws :=
  ⟨(World.cell?_of_block (a := ⟨p, 0, none⟩) (hk p (.inl rfl))).trans h.cell, (World.frozen?_of_block (a := ⟨p, 0, none⟩) (hk p (.inl rfl))).trans h.free, row_kept h.own (fun k hk' => hk k (.inr hk')), h.lt, h.apart⟩

theorem word_any {w : World} {base p : Nat} {v : Value} {ws : List Nat} (h : PlacesV w base p v ws) (i : Nat) (hi : i ≤ 1000000) (hl : ws.length ≤ 1000000) :
    Calls Tryd.prog 34 #[.pointer (some ⟨p, 0, none⟩), .int .i64 (i : Int)] w fun e w' => e = .returned (.int .u64 (ws.getD i 0 : Nat)) ∧ w = w' := by
  have hc := h.cell
  by_cases hlt : i < ws.length
  · have hltI : ¬ ((ws.length : Int) ≤ (i : Int)) := by omega
    have hiI : (i : Int) < (ws.length : Int) := by omega
    obtain ⟨g, cap, rfl⟩ : ∃ g cap, v = .slice (some ⟨g, 0, none⟩) ws.length cap := by
      rcases h.own.2 with ⟨_, h0⟩ | ⟨g, cap, cur, rfl, _⟩
      · omega
      · exact ⟨g, cap, rfl⟩
    have hcell : w.cell? ⟨g, i, none⟩ = some (.int .u64 (ws.getD i 0 : Nat)) := by
      rw [h.own.cellAt i (by omega), List.getElem?_map, List.getElem?_eq_getElem hlt, List.getD_eq_getElem?_getD, List.getElem?_eq_getElem hlt]; rfl
    generalize ws.getD i 0 = x at hcell ⊢
    clear h
    go_enter Tryd.func34, Tryd.ntmps34
    go_wp2_with fail
    go_ret
    exact ⟨rfl, rfl⟩
  · have hltI : ((ws.length : Int) ≤ (i : Int)) := by omega
    have hz : ws.getD i 0 = 0 := getD_ge _ _ _ (by omega)
    rw [hz]
    obtain ⟨a, cap, rfl⟩ : ∃ a cap, v = .slice a ws.length cap := by
      rcases h.own.2 with ⟨rfl, h0⟩ | ⟨g, cap, cur, rfl, _⟩
      · exact ⟨none, 0, by rw [h0]⟩
      · exact ⟨_, cap, rfl⟩
    clear h hz
    go_enter Tryd.func34, Tryd.ntmps34
    go_wp2_with fail
    go_ret
    exact ⟨rfl, rfl⟩

theorem orU (a b : Nat) (ha : a < 2 ^ 64) (hb : b < 2 ^ 64) : bits .or .u64 (a : Int) (b : Int) = ((a ||| b : Nat) : Int) := bits_or_u64_nat _ _ ha hb
theorem shl_mod (y s : Nat) : IntKind.u64.wrap ((y : Int) * 2 ^ s) = ((y * 2 ^ s % 2 ^ 64 : Nat) : Int) := by
  have e : ((y : Int) * 2 ^ s) = ((y * 2 ^ s : Nat) : Int) := by norm_cast
  rw [e, IntKind.wrap_u64]
  generalize y * 2 ^ s = z
  omega
theorem from_val (x y s : Nat) (hx : x < 2 ^ 64) : bits BinOp.or IntKind.u64 ((x : Int) / 2 ^ s) (IntKind.u64.wrap ((y : Int) * 2 ^ (64 - s))) = ((x / 2 ^ s ||| y * 2 ^ (64 - s) % 2 ^ 64 : Nat) : Int) := by
  have e : ((x : Int) / 2 ^ s) = ((x / 2 ^ s : Nat) : Int) := by norm_cast
  rw [shl_mod, e, orU _ _ (Nat.lt_of_le_of_lt (Nat.div_le_self _ _) hx) (Nat.mod_lt _ (by omega))]

set_option maxHeartbeats 1000000 in
theorem from_any {w : World} {base p : Nat} {v : Value} {ws : List Nat} (h : PlacesV w base p v ws) (k : Nat) (hk : k ≤ 60000000) (hl : ws.length ≤ 1000000) :
    Calls Tryd.prog 30 #[.pointer (some ⟨p, 0, none⟩), .int .i64 (k : Int)] w fun e w' => e = .returned (.int .u64 (fromW ws k : Nat)) ∧ ∃ n, w' = w.drewN n := by
  have HW : Hid (∀ n : Nat, Calls Tryd.prog 34 #[.pointer (some ⟨p, 0, none⟩), .int .i64 ((k / 64 : Nat) : Int)] (w.drewN n) fun e w' => e = .returned (.int .u64 (ws.getD (k / 64) 0 : Nat)) ∧ ∃ m, w' = (w.drewN n).drewN m) :=
    Lib.hid (fun n => (word_any (h.drewN n) (k / 64) (by omega) hl).mono (fun _ _ ⟨h1, h2⟩ => ⟨h1, 0, h2.symm⟩))
  have HW2 : Hid (∀ n : Nat, Calls Tryd.prog 34 #[.pointer (some ⟨p, 0, none⟩), .int .i64 ((k / 64 + 1 : Nat) : Int)] (w.drewN n) fun e w' => e = .returned (.int .u64 (ws.getD (k / 64 + 1) 0 : Nat)) ∧ ∃ m, w' = (w.drewN n).drewN m) :=
    Lib.hid (fun n => (word_any (h.drewN n) (k / 64 + 1) (by omega) hl).mono (fun _ _ ⟨h1, h2⟩ => ⟨h1, 0, h2.symm⟩))
  have hR : Hid (fromW ws k = (ws.getD (k / 64) 0) / 2 ^ (k % 64) ||| (ws.getD (k / 64 + 1) 0 * 2 ^ (64 - k % 64)) % 2 ^ 64) := Lib.hid rfl
  have hx := word_lt h.lt (k / 64)
  have hy := word_lt h.lt (k / 64 + 1)
  generalize fromW ws k = R at hR ⊢
  generalize ws.getD (k / 64) 0 = x at HW hR hx
  generalize ws.getD (k / 64 + 1) 0 = y at HW2 hR hy
  have HX := Lib.hid (And.intro hx hy)
  clear h hx hy
  have d1 : ((k : Int) / 64) = ((k / 64 : Nat) : Int) := by omega
  have d2 : ((k : Int) % 64) = ((k % 64 : Nat) : Int) := by omega
  have hq : k / 64 ≤ 1000000 := by omega
  have hs : k % 64 < 64 := by omega
  generalize k / 64 = q at *
  generalize k % 64 = s at *
  have HW3 : Hid (∀ n : Nat, Calls Tryd.prog 34 #[.pointer (some ⟨p, 0, none⟩), .int .i64 ((q : Int) + 1)] (w.drewN n) fun e w' => e = .returned (.int .u64 (y : Nat)) ∧ ∃ m, w' = (w.drewN n).drewN m) := Lib.hid (fun n => by
    have := HW2.out n
    rw [show ((q + 1 : Nat) : Int) = (q : Int) + 1 by omega] at this
    exact this)
  clear HW2
  have hn2 : (0 : Int) ≤ 64 - (s : Int) := by omega
  have hn3 : (64 - (s : Int)).toNat = 64 - s := by omega
  have hw1 : IntKind.i64.wrap ((q : Int) + 1) = (q : Int) + 1 := IntWalk.i64_in _ ⟨by omega, by omega⟩
  have hw2 : IntKind.i64.wrap (64 - (s : Int)) = 64 - (s : Int) := IntWalk.i64_in _ ⟨by omega, by omega⟩
  go_enter Tryd.func30, Tryd.ntmps30
  go_wp2_with fail
  rw [d2]
  clear d1 d2
  go_quiet (first | (go_at_call 34; with_reducible exact Calls.quiet_of (HW.out _)) | (go_at_call 34; with_reducible exact Calls.quiet_of (HW3.out _)))
  go_wp2_with (fail)
  go_ret
  exact ⟨ret_int (by rw [hR.out]; exact from_val x y s HX.out.1), _, rfl⟩

theorem takeWord (u s : Nat) (hu : u < 2 ^ 64) (hs : s < 64) : bits .or .u64 (u : Int) (IntKind.u64.wrap (2 ^ s)) = ((u ||| 2 ^ s : Nat) : Int) := by
  have h2 : (2 : Nat) ^ s < 2 ^ 64 := Nat.pow_lt_pow_right (by omega) (by omega)
  have e : ((2 : Int) ^ s) = ((2 ^ s : Nat) : Int) := by norm_cast
  rw [e]
  generalize 2 ^ s = t at h2
  rw [IntWalk.u64_in _ ⟨by omega, by omega⟩, bits_or_u64_nat _ _ hu h2]

/-- so many noughts more -/
def padW (ws : List Nat) (m : Nat) : List Nat := ws ++ List.replicate m 0
theorem padW_next (ws : List Nat) (m : Nat) : padW ws (m + 1) = padW ws m ++ [0] := by
  unfold padW; rw [List.replicate_succ', List.append_assoc]
theorem padW_len (ws : List Nat) (m : Nat) : (padW ws m).length = ws.length + m := by simp [padW]
theorem padW_lt {ws : List Nat} (h : ∀ y ∈ ws, y < 2 ^ 64) (m : Nat) : ∀ y ∈ padW ws m, y < 2 ^ 64 := by
  intro y hy
  rcases List.mem_append.1 hy with hy | hy
  · exact h y hy
  · have := List.eq_of_mem_replicate hy; subst this; omega

def PlacesPost (w : World) (base p : Nat) (v : Value) (ws : List Nat) (e : Ending) (w' : World) : Prop :=
  ∃ v', e = .returned (.tuple #[]) ∧ PlacesV w' base p v' ws ∧ Turns (fun b => b = p ∨ v.ownBlock = some b) w w' ∧ (v'.ownBlock = v.ownBlock ∨ ∀ b, v'.ownBlock = some b → w.heap.size ≤ b)

theorem places_push {w1 w2 : World} {base p : Nat} {v1 v2 : Value} {ws : List Nat} (h : PlacesV w1 base p v1 ws) (o : Obj) (ho : w2.ownsRow base 58 1 v2 (ws ++ [0]).length ((ws ++ [0]).map wV)) (hg : (w1.alloc o).grownBy w2 v1.ownBlock)
    (hl : v2.ownBlock = v1.ownBlock ∨ v2.ownBlock = some (w1.heap.size + 1)) (hp : p < w1.heap.size) :
    w2.cell? ⟨p, 0, none⟩ = some v1 ∧ w2.frozen? ⟨p, 0, none⟩ = false ∧ PlacesV (w2.setCell ⟨p, 0, none⟩ v2) base p v2 (ws ++ [0]) ∧ Turns (fun b => b = p ∨ v1.ownBlock = some b) w1 (w2.setCell ⟨p, 0, none⟩ v2) := by
  have hpb : w2.heap[p]? = w1.heap[p]? := (hg.block p (by simp; omega) (fun e => h.apart e.symm)).trans (Below.heap_alloc w1 o p hp)
  have hc : w2.cell? ⟨p, 0, none⟩ = some v1 := (World.cell?_of_block (a := ⟨p, 0, none⟩) hpb).trans h.cell
  have hf : w2.frozen? ⟨p, 0, none⟩ = false := (World.frozen?_of_block (a := ⟨p, 0, none⟩) hpb).trans h.free
  have hne : v2.ownBlock ≠ some p := by
    rcases hl with e | e
    · rw [e]; exact h.apart
    · rw [e]; intro e2; injection e2; omega
  refine ⟨hc, hf, ⟨World.cell?_setCell_same _ _ _ hc, by rw [World.frozen?_setCell]; exact hf, row_kept ho (fun k hk => Below.heap_setCell _ _ _ _ (fun e => hne (by rw [hk, e]))), ?_, hne⟩, ?_⟩
  · intro y hy
    rcases List.mem_append.1 hy with hy | hy
    · exact h.lt y hy
    · simp at hy; subst hy; omega
  · refine Turns.setCell ?_ (.inl (.inl rfl)) _
    exact ((Turns.refl _ w1).alloc o).trans (Turns.of_grown (S := fun b => b = p ∨ v1.ownBlock = some b) hg (fun k hk _ => .inr hk)) (fun b _ hb => hb)

set_option maxHeartbeats 4000000 in
theorem take_any {w : World} {base p : Nat} {v : Value} {ws : List Nat} (h : PlacesV w base p v ws) (k : Nat) (hk : k ≤ 60000000) (hl : ws.length ≤ 1000000) (hp : p < w.heap.size) (hbase : base ≤ w.heap.size) :
    Calls Tryd.prog 23 #[.pointer (some ⟨p, 0, none⟩), .int .i64 (k : Int)] w (PlacesPost w base p v (takeW ws k)) := by
  obtain ⟨i0, hi0, hz0, hz1, hz2⟩ := info_parts Tryd.infoWord
  have d1 : ((k : Int) / 64) = ((k / 64 : Nat) : Int) := by omega
  have d2 : ((k : Int) % 64) = ((k % 64 : Nat) : Int) := by omega
  have hT : Hid (takeW ws k = (padW ws (k / 64 + 1 - ws.length)).set (k / 64) (ws.getD (k / 64) 0 ||| 2 ^ (k % 64))) := Lib.hid rfl
  have hW := Lib.hid (takeWord (ws.getD (k / 64) 0) (k % 64) (word_lt h.lt _) (by omega))
  generalize takeW ws k = T at hT ⊢
  have hq : k / 64 ≤ 1000000 := by omega
  have hs : k % 64 < 64 := by omega
  generalize k / 64 = q at *
  generalize k % 64 = s at *
  have HL0 := Lib.hid h.lt
  go_enter Tryd.func23, Tryd.ntmps23
  go_wp2_with fail
  go_loopg [] (q + 1) (fun gg w1 => ∃ (m : Nat) (v1 : Value), m ≤ q + 1 - ws.length ∧ q + 1 ≤ m + gg ∧ PlacesV w1 base p v1 (padW ws m) ∧ Turns (fun b => b = p ∨ v.ownBlock = some b) w w1 ∧ (v1.ownBlock = v.ownBlock ∨ ∀ b, v1.ownBlock = some b → w.heap.size ≤ b))
  case atStart => exact ⟨0, v, Nat.zero_le _, by omega, by simpa [padW] using h, Turns.refl _ _, .inl rfl⟩
  case round =>
    obtain ⟨m, v1, hm, hgm, h1, ht1, hv1⟩ := hrel
    rename World => w1
    have hc := h1.cell
    have hfr := h1.free
    have hown := h1.own
    have hpl := padW_len ws m
    have hs1 := ht1.size
    by_cases hlt : ws.length + m ≤ q
    · obtain ⟨a1, c1, rfl⟩ : ∃ a1 c1, v1 = .slice a1 (padW ws m).length c1 := by
        rcases hown.2 with ⟨rfl, h0⟩ | ⟨g, cap, cur, rfl, _⟩
        · exact ⟨none, 0, by rw [h0]⟩
        · exact ⟨_, cap, rfl⟩
      have HP := Lib.hid h1
      have HT := Lib.hid ht1
      have HL := Lib.hid hpl
      have hltI : (((padW ws m).length : Nat) : Int) ≤ (q : Int) := by omega
      have hL2 : (padW ws m).length ≤ 2000000 := by omega
      clear h1 ht1 hpl
      generalize hLL : (padW ws m).length = L at *
      go_wp2_with (first | (at_builtin; refine wpList_append_own_at _ rfl _ _ 46 rfl base 58 i0 (.int .u64 0) 1 8 Tryd.underlying46 hi0 hz0 hz1 hz2 rfl (by decide) _ _ _ rfl (hown.alloc _) ⟨w1.heap.size, 0, none⟩ 1 1 [.int .u64 0] rfl rfl (news1 _ _ _) ?c2 ?c3 ?c4 ?c5 ?_))
      case c2 => first | rfl | (intro u hu; simp at hu; rw [hu]; rfl)
      case c3 => unfold maxLen; omega
      case c4 => omega
      case c5 => simp; omega
      intro v2 w2 ho2 hg2 _ hl2
      have e1 : (padW ws m).map wV ++ [.int .u64 0] = (padW ws m ++ [0]).map wV := by rw [List.map_append]; rfl
      have e2 : L + 1 = (padW ws m ++ [0]).length := by rw [List.length_append, hLL]; rfl
      rw [e1, e2] at ho2
      obtain ⟨hc2, hf2, hp2, ht2⟩ := places_push HP.out (.cells #[.int .u64 0] 58) ho2 hg2 hl2 (by omega)
      obtain ⟨g2, c2, rfl⟩ : ∃ g2 c2, v2 = .slice (some ⟨g2, 0, none⟩) (padW ws m ++ [0]).length c2 := by
        rcases ho2.2 with ⟨_, h0⟩ | ⟨g, cap, cur, rfl, _⟩
        · simp at h0
        · exact ⟨g, cap, rfl⟩
      have hl3 : (Value.slice (some ⟨g2, 0, none⟩) (padW ws m ++ [0]).length c2).ownBlock = v.ownBlock ∨ ∀ b, (Value.slice (some ⟨g2, 0, none⟩) (padW ws m ++ [0]).length c2).ownBlock = some b → w.heap.size ≤ b := by
        rcases hl2 with e | e
        · rw [e]; exact hv1
        · right; intro b hb; rw [e] at hb; injection hb; omega
      have ht3 : Turns (fun b => b = p ∨ v.ownBlock = some b) w (w2.setCell ⟨p, 0, none⟩ (.slice (some ⟨g2, 0, none⟩) (padW ws m ++ [0]).length c2)) := HT.out.trans ht2 (fun b hb hS => by
        rcases hS with e | e
        · exact .inl e
        · rcases hv1 with e3 | e3
          · right; rw [← e3]; exact e
          · have := e3 b e; omega)
      have HZ := Lib.hid (And.intro hp2 (And.intro ht3 hl3))
      clear hp2 ht3 ht2 ho2 hl2 e1 e2 hl3 hown hv1 hc hfr
      generalize (padW ws m ++ [0]).length = L2 at *
      go_wp2_with fail
      go_roundg (q + 1 - (m + 1))
      case measure => omega
      case rel =>
        refine ⟨m + 1, _, by have := HL.out; omega, by omega, ?_, HZ.out.2.1, HZ.out.2.2⟩
        rw [padW_next]; exact HZ.out.1
    · have hm2 : m = q + 1 - ws.length := by omega
      have hqL : q < (padW ws m).length := by omega
      have hltI : ¬ (((padW ws m).length : Nat) : Int) ≤ (q : Int) := by omega
      have hqI : (q : Int) < (((padW ws m).length : Nat) : Int) := by omega
      obtain ⟨g, cap, rfl⟩ : ∃ g cap, v1 = .slice (some ⟨g, 0, none⟩) (padW ws m).length cap := by
        rcases hown.2 with ⟨_, h0⟩ | ⟨g, cap, cur, rfl, _⟩
        · omega
        · exact ⟨g, cap, rfl⟩
      have hcell : w1.cell? ⟨g, q, none⟩ = some (.int .u64 (ws.getD q 0 : Nat)) := by
        rw [hown.cellAt q (by omega), List.getElem?_map, List.getElem?_eq_getElem hqL]
        have : (padW ws m)[q] = ws.getD q 0 := by
          have e := pad_getD ws m q
          rw [List.getD_eq_getElem?_getD, List.getElem?_eq_getElem (show q < (ws ++ List.replicate m 0).length from hqL)] at e
          exact e
        rw [this]; rfl
      have hfree := hown.frozenAt q
      have hset := hown.stored q (wV (ws.getD q 0 ||| 2 ^ s))
      have HS := Lib.hid hset
      have HP := Lib.hid h1
      have HT2 := Lib.hid ht1
      rw [← hm2] at hT
      clear hset h1 ht1 hown hpl
      generalize hu : ws.getD q 0 = u at *
      generalize hLL : (padW ws m).length = L at *
      go_wp2_with fail
      go_region
      go_wp2_with fail
      go_end0
      rw [hW.out]
      have hgp : g ≠ p := fun e => HP.out.apart (by rw [e]; rfl)
      refine ⟨_, rfl, ⟨?_, ?_, ?_, ?_, HP.out.apart⟩, ?_, hv1⟩
      · show (w1.setCell _ _).cell? _ = _
        rw [World.cell?_setCell_other _ _ _ _ (by intro e; injection e with e1; exact hgp e1)]; exact HP.out.cell
      · show (w1.setCell _ _).frozen? _ = _
        rw [World.frozen?_setCell]; exact HP.out.free
      · have e1 : T.length = L := by rw [hT.out, List.length_set]; exact hLL
        have e2 : T.map wV = ((padW ws m).map wV).set q (wV (u ||| 2 ^ s)) := by rw [hT.out, List.map_set]
        rw [e1, e2]
        exact HS.out.1
      · rw [hT.out]
        intro y hy
        rcases List.mem_or_eq_of_mem_set hy with hy | rfl
        · exact padW_lt HL0.out m y hy
        · rw [← hu]
          exact Nat.or_lt_two_pow (word_lt HL0.out _) (Nat.pow_lt_pow_right (by omega) hs)
      · refine (HT2.out.setCell ?_ _).drew
        rcases hv1 with e | e
        · left; right; rw [← e]; rfl
        · right; exact e g rfl

end Go.Proofs.YtjeebcnjdhlcfaaDoor
