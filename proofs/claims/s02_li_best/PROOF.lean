import PyProof.Rows.All
import Wide.All
import OpenK.AllK
import Wide.FinOn
import Open.SpecLaws
import KE.OsGo
import HandS.ForSpec
import HandS.ForMost
import HandS.Walk
import HandS.Wide
import HandS.SortInts
import PySem.Challenge.RW_evenlight_s02_li_best
set_option Elab.async false
set_option maxRecDepth 100000
set_option maxHeartbeats 4000000
namespace EvM
/-! numbers and lists alone -/
theorem natural_iff {z : Int} {b : Nat} : Sh55Neutral.natural z b = true ↔ 0 ≤ z ∧ z < 2 ^ b := by
  unfold Sh55Neutral.natural
  rw [Bool.and_eq_true, decide_eq_true_eq, decide_eq_true_eq]
def Nn (l : List Int) : Prop := ∀ z ∈ l, 0 ≤ z
def By (l : List Int) : Prop := ∀ z ∈ l, 0 ≤ z ∧ z < 256
theorem By.nn {l : List Int} (h : By l) : Nn l := fun z hz => (h z hz).1
theorem by_of {l : List Int} (h : l.all (fun (z : Int) => Sh55Neutral.natural z 8) = true) : By l := fun z hz => by
  have := natural_iff.mp (List.all_eq_true.mp h z hz)
  exact ⟨this.1, by have h2 := this.2; simpa using h2⟩
def Wd (l : List Int) : Prop := ∀ z ∈ l, 0 ≤ z ∧ z < 65536
theorem Wd.nn {l : List Int} (h : Wd l) : Nn l := fun z hz => (h z hz).1
theorem wd_of {l : List Int} (h : l.all (fun (z : Int) => Sh55Neutral.natural z 16) = true) : Wd l := fun z hz => by
  have := natural_iff.mp (List.all_eq_true.mp h z hz)
  exact ⟨this.1, by have h2 := this.2; simpa using h2⟩
theorem nats_len (l : List Int) : (Sh55Neutral.nats l).length = l.length := by
  unfold Sh55Neutral.nats; rw [List.length_map]
theorem ints_len (l : List Nat) : (Sh55Neutral.ints l).length = l.length := by
  unfold Sh55Neutral.ints; rw [List.length_map]
theorem ints_nats {l : List Int} (h : Nn l) : Sh55Neutral.ints (Sh55Neutral.nats l) = l := by
  unfold Sh55Neutral.ints Sh55Neutral.nats
  rw [List.map_map]
  conv => rhs; rw [← List.map_id l]
  refine List.map_congr_left fun z hz => ?_
  exact Int.toNat_of_nonneg (h z hz)
theorem nats_ints (l : List Nat) : Sh55Neutral.nats (Sh55Neutral.ints l) = l := by
  unfold Sh55Neutral.ints Sh55Neutral.nats
  rw [List.map_map]
  conv => rhs; rw [← List.map_id l]
  rfl
/-- what a list of numbers that are not negative is -/
theorem Nn.eq {l : List Int} (h : Nn l) : ∃ m : List Nat, l = Sh55Neutral.ints m := ⟨_, (ints_nats h).symm⟩
theorem ints_get (l : List Nat) (i : Nat) : (Sh55Neutral.ints l)[i]? = (l[i]?).map fun (n : Nat) => (n : Int) := by
  unfold Sh55Neutral.ints; rw [List.getElem?_map]
theorem num_eq (l : List Nat) (i : Nat) : Sh55.num l i = (l[i]?).getD 0 := by
  unfold Sh55.num; rw [List.getD_eq_getElem?_getD]
end EvM
namespace EvM
/-! the threshold that parts best -/
def ws : Nat → List Int → Int
  | _, [] => 0
  | i, z :: r => (i : Int) * z + ws (i + 1) r
def wl : Nat → List Int → List Int
  | _, [] => []
  | i, z :: r => ((i : Int) * z) :: wl (i + 1) r
theorem wl_len : ∀ (i : Nat) (l : List Int), (wl i l).length = l.length
  | _, [] => rfl
  | i, z :: r => by
    show (wl (i + 1) r).length + 1 = r.length + 1
    rw [wl_len (i + 1) r]
theorem wl_sum : ∀ (i : Nat) (l : List Int), (wl i l).sum = ws i l
  | _, [] => rfl
  | i, z :: r => by
    show (((i : Int) * z) :: wl (i + 1) r).sum = _
    rw [List.sum_cons, wl_sum (i + 1) r]
    rfl
theorem wl_get : ∀ (l : List Int) (i j : Nat) (z : Int), l[j]? = some z → (wl i l)[j]? = some (((i + j : Nat) : Int) * z)
  | [], _, _, _, h => by simp at h
  | a :: r, i, 0, z, h => by
    have e : a = z := Option.some.inj h
    rw [← e]
    rfl
  | a :: r, i, j + 1, z, h => by
    have ih := wl_get r (i + 1) j z h
    show (wl (i + 1) r)[j]? = _
    rw [ih, show i + 1 + j = i + (j + 1) by omega]
theorem ws_append : ∀ (a b : List Int) (i : Nat), ws i (a ++ b) = ws i a + ws (i + a.length) b
  | [], b, i => by
    show ws i b = 0 + ws (i + 0) b
    rw [Int.zero_add, Nat.add_zero]
  | z :: a, b, i => by
    show (i : Int) * z + ws (i + 1) (a ++ b) = (i : Int) * z + ws (i + 1) a + ws (i + (a.length + 1)) b
    rw [ws_append a b (i + 1), show i + 1 + a.length = i + (a.length + 1) by omega, Int.add_assoc]
theorem take_one {l : List Int} {t : Nat} {z : Int} (h : l[t]? = some z) : l.take (t + 1) = l.take t ++ [z] := by
  rw [List.take_add_one, h]
  rfl
theorem ws_more {l : List Int} {t : Nat} {z : Int} (h : l[t]? = some z) : ws 0 (l.take (t + 1)) = ws 0 (l.take t) + (t : Int) * z := by
  have ht : t < l.length := (List.getElem?_eq_some_iff.mp h).1
  rw [take_one h, ws_append, List.length_take, Nat.min_eq_left (by omega), Nat.zero_add]
  show _ + ((t : Int) * z + 0) = _
  omega
theorem sum_more {l : List Int} {t : Nat} {z : Int} (h : l[t]? = some z) : (l.take (t + 1)).sum = (l.take t).sum + z := by
  rw [take_one h, List.sum_append, List.sum_singleton]
theorem ws_spec : ∀ (m : List Nat) (i : Nat), ((((m.zipIdx i).map fun p => p.1 * p.2).sum : Nat) : Int) = ws i (Sh55Neutral.ints m)
  | [], _ => rfl
  | n :: m, i => by
    rw [List.zipIdx_cons, List.map_cons, List.sum_cons, Int.natCast_add, ws_spec m (i + 1)]
    show ((n * i : Nat) : Int) + _ = (i : Int) * (n : Int) + _
    rw [Int.natCast_mul, Int.mul_comm] <;> rfl
theorem ints_sum : ∀ (m : List Nat), (Sh55Neutral.ints m).sum = ((m.sum : Nat) : Int)
  | [] => rfl
  | n :: m => by
    show ((n : Int) :: Sh55Neutral.ints m).sum = _
    rw [List.sum_cons, List.sum_cons, ints_sum m, Int.natCast_add]
theorem ints_take (m : List Nat) (t : Nat) : Sh55Neutral.ints (m.take t) = (Sh55Neutral.ints m).take t := by
  unfold Sh55Neutral.ints
  rw [List.map_take]
def Cn (l : List Int) : Prop := ∀ z ∈ l, 0 ≤ z ∧ z < 2 ^ 32
theorem Cn.tail {z : Int} {l : List Int} (h : Cn (z :: l)) : Cn l := fun y hy => h y (List.mem_cons_of_mem _ hy)
theorem Cn.take {l : List Int} (h : Cn l) (t : Nat) : Cn (l.take t) := fun y hy => h y (List.mem_of_mem_take hy)
theorem Cn.drop {l : List Int} (h : Cn l) (t : Nat) : Cn (l.drop t) := fun y hy => h y (List.mem_of_mem_drop hy)
theorem sum_nn : ∀ {l : List Int}, Cn l → 0 ≤ l.sum
  | [], _ => by simp
  | z :: l, h => by
    rw [List.sum_cons]
    have h1 := (h z List.mem_cons_self).1
    have h2 := sum_nn h.tail
    omega
theorem sum_lt : ∀ {l : List Int}, Cn l → l.sum ≤ (l.length : Int) * 2 ^ 32
  | [], _ => by simp
  | z :: l, h => by
    rw [List.sum_cons, List.length_cons]
    have h1 := (h z List.mem_cons_self).2
    have h2 := sum_lt h.tail
    omega
theorem ws_nn : ∀ {l : List Int} (i : Nat), Cn l → (i : Int) * l.sum ≤ ws i l
  | [], i, _ => by simp [ws]
  | z :: l, i, h => by
    rw [List.sum_cons, Int.mul_add]
    show _ ≤ (i : Int) * z + ws (i + 1) l
    have h2 := ws_nn (i + 1) h.tail
    have h3 := sum_nn h.tail
    rw [Int.natCast_add, Int.add_mul] at h2
    omega
theorem ws_le : ∀ {l : List Int} (i : Nat), Cn l → ws i l + l.sum ≤ ((i + l.length : Nat) : Int) * l.sum
  | [], i, _ => by simp [ws]
  | z :: l, i, h => by
    have h1 := (h z List.mem_cons_self).1
    have ih := ws_le (i + 1) h.tail
    have h3 := sum_nn h.tail
    rw [List.sum_cons, List.length_cons, Int.mul_add]
    show (i : Int) * z + ws (i + 1) l + (z + l.sum) ≤ _
    have e : i + (l.length + 1) = i + 1 + l.length := by omega
    rw [e]
    have h4 : ((i : Int) + 1) * z ≤ ((i + 1 + l.length : Nat) : Int) * z := Int.mul_le_mul_of_nonneg_right (by omega) h1
    rw [Int.add_mul, Int.one_mul] at h4
    omega
def lowN (k : List Int) (t : Nat) : Int := (k.take t).sum
def lowT (k : List Int) (t : Nat) : Int := ws 0 (k.take t)
def gap (k : List Int) (t : Nat) : Int := lowN k (t + 1) * (ws 0 k - lowT k (t + 1)) - (k.sum - lowN k (t + 1)) * lowT k (t + 1)
theorem split_sum (k : List Int) (t : Nat) : k.sum = (k.take t).sum + (k.drop t).sum := by
  conv => lhs; rw [← List.take_append_drop t k]
  rw [List.sum_append]
theorem split_ws (k : List Int) (t : Nat) (h : t ≤ k.length) : ws 0 k = ws 0 (k.take t) + ws t (k.drop t) := by
  conv => lhs; rw [← List.take_append_drop t k]
  rw [ws_append, List.length_take, Nat.min_eq_left h, Nat.zero_add]
theorem gap_pos {k : List Int} {t : Nat} (hk : Cn k) (ht : t + 1 ≤ k.length) (ha : 0 < lowN k (t + 1)) (hb : 0 < k.sum - lowN k (t + 1)) : 0 < gap k t := by
  unfold gap
  have hB : ws 0 k - lowT k (t + 1) = ws (t + 1) (k.drop (t + 1)) := by
    rw [split_ws k (t + 1) ht]
    unfold lowT
    omega
  have hb' : k.sum - lowN k (t + 1) = (k.drop (t + 1)).sum := by
    rw [split_sum k (t + 1)]
    unfold lowN
    omega
  rw [hB]
  rw [hb'] at hb ⊢
  have h1 := ws_nn (t + 1) (hk.drop (t + 1))
  have h2 := ws_le 0 (hk.take (t + 1))
  rw [List.length_take, Nat.min_eq_left ht, Nat.zero_add] at h2
  have h3 := Int.mul_le_mul_of_nonneg_left h1 (Int.le_of_lt ha)
  have h4 := Int.mul_le_mul_of_nonneg_left h2 (Int.le_of_lt hb)
  unfold lowT
  unfold lowN at ha h3 ⊢
  generalize (k.take (t + 1)).sum = a at *
  generalize (k.drop (t + 1)).sum = b at *
  generalize ws (t + 1) (k.drop (t + 1)) = B at *
  generalize ws 0 (k.take (t + 1)) = A at *
  rw [Int.mul_add] at h4
  have e : a * (((t + 1 : Nat) : Int) * b) = b * (((t + 1 : Nat) : Int) * a) := by
    rw [Int.mul_left_comm, Int.mul_left_comm b, Int.mul_comm a b]
  have hab : 0 < b * a := Int.mul_pos hb ha
  omega
def pstep (k : List Int) (s : Int × Int × Int) (t : Nat) : Int × Int × Int :=
  if 0 < lowN k (t + 1) ∧ 0 < k.sum - lowN k (t + 1) then
    (if s.2.1 * (lowN k (t + 1) * (k.sum - lowN k (t + 1))) < gap k t * gap k t * s.2.2 then ((t : Int), gap k t * gap k t, lowN k (t + 1) * (k.sum - lowN k (t + 1))) else s)
  else s
def prun (k : List Int) (t : Nat) : Int × Int × Int := (List.range t).foldl (pstep k) (-6, 0, 1)
theorem prun_succ (k : List Int) (t : Nat) : prun k (t + 1) = pstep k (prun k t) t := by
  unfold prun
  rw [List.range_succ, List.foldl_append]
  rfl
def sstep (m : List Nat) (b : Option (Nat × Nat × Nat)) (t : Nat) : Option (Nat × Nat × Nat) := match Sh55.parts m t, b with
  | none, _ => b
  | some p, none => some (t, p.1, p.2)
  | some p, some q => if q.2.1 * p.2 < p.1 * q.2.2 then some (t, p.1, p.2) else b
def Rl : Option (Nat × Nat × Nat) → Int × Int × Int → Prop
  | none, s => s = (-6, 0, 1)
  | some q, s => s = ((q.1 : Int), (q.2.1 : Int), (q.2.2 : Int))
theorem parts_low {m : List Nat} {t : Nat} : Sh55.below m t = ((m.take (t + 1)).sum, ((m.take (t + 1)).zipIdx.map fun p => p.1 * p.2).sum) := rfl
theorem low_cast (m : List Nat) (t : Nat) : lowN (Sh55Neutral.ints m) t = (((m.take t).sum : Nat) : Int) := by
  unfold lowN
  rw [← ints_take, ints_sum]
theorem lowT_cast (m : List Nat) (t : Nat) : lowT (Sh55Neutral.ints m) t = ((((m.take t).zipIdx.map fun p => p.1 * p.2).sum : Nat) : Int) := by
  unfold lowT
  rw [← ints_take, ws_spec]
theorem step_rl {m : List Nat} (hk : Cn (Sh55Neutral.ints m)) {t : Nat} (ht : t + 1 ≤ m.length) {b : Option (Nat × Nat × Nat)} {s : Int × Int × Int} (h : Rl b s) : Rl (sstep m b t) (pstep (Sh55Neutral.ints m) s t) := by
  have ht' : t + 1 ≤ (Sh55Neutral.ints m).length := by rw [ints_len]; exact ht
  have hS : (m.take (t + 1)).sum ≤ m.sum := by
    have := split_sum (Sh55Neutral.ints m) (t + 1)
    have h2 := sum_nn (hk.drop (t + 1))
    rw [ints_sum, ← ints_take, ints_sum] at this
    omega
  have hT : ((m.take (t + 1)).zipIdx.map fun p => p.1 * p.2).sum ≤ (m.zipIdx.map fun p => p.1 * p.2).sum := by
    have e := split_ws (Sh55Neutral.ints m) (t + 1) ht'
    have h2 := ws_nn (t + 1) (hk.drop (t + 1))
    have h3 := sum_nn (hk.drop (t + 1))
    have h4 := Int.mul_nonneg (show (0 : Int) ≤ ((t + 1 : Nat) : Int) by omega) h3
    rw [← ws_spec, ← ints_take, ← ws_spec] at e
    omega
  have ea : lowN (Sh55Neutral.ints m) (t + 1) = (((m.take (t + 1)).sum : Nat) : Int) := low_cast m (t + 1)
  have eb : (Sh55Neutral.ints m).sum - lowN (Sh55Neutral.ints m) (t + 1) = ((m.sum - (m.take (t + 1)).sum : Nat) : Int) := by
    rw [ea, ints_sum]
    omega
  have eg : gap (Sh55Neutral.ints m) t = (((m.take (t + 1)).sum : Nat) : Int) * (((m.zipIdx.map fun p => p.1 * p.2).sum - ((m.take (t + 1)).zipIdx.map fun p => p.1 * p.2).sum : Nat) : Int)
      - ((m.sum - (m.take (t + 1)).sum : Nat) : Int) * ((((m.take (t + 1)).zipIdx.map fun p => p.1 * p.2).sum : Nat) : Int) := by
    unfold gap
    rw [eb, ea, lowT_cast, ← ws_spec, Int.natCast_sub hT]
  have ep : Sh55.parts m t = if (m.take (t + 1)).sum = 0 ∨ m.sum - (m.take (t + 1)).sum = 0 then none else
      some ((gap (Sh55Neutral.ints m) t).natAbs * (gap (Sh55Neutral.ints m) t).natAbs, (m.take (t + 1)).sum * (m.sum - (m.take (t + 1)).sum)) := by
    rw [eg]
    rfl
  have hg := gap_pos hk ht'
  rw [eb, ea] at hg
  unfold pstep sstep
  rw [ep, eb, ea]
  generalize gap (Sh55Neutral.ints m) t = g at *
  generalize (m.take (t + 1)).sum = a at *
  generalize m.sum - a = c at *
  by_cases hz : a = 0 ∨ c = 0
  · rw [if_pos hz, if_neg (by omega)]
    exact h
  · rw [if_neg hz, if_pos (by omega)]
    have e1 : g * g = ((g.natAbs * g.natAbs : Nat) : Int) := (Int.natAbs_mul_self).symm
    have e2 : (a : Int) * (c : Int) = ((a * c : Nat) : Int) := (Int.natCast_mul a c).symm
    rw [e1, e2]
    have hp : 0 < g.natAbs * g.natAbs := by
      have := hg (by omega) (by omega)
      exact Nat.mul_pos (by omega) (by omega)
    generalize g.natAbs * g.natAbs = P at *
    generalize a * c = B at *
    cases b with
    | none =>
      have hs : s = (-6, 0, 1) := h
      subst hs
      show Rl (some (t, P, B)) (if (0 : Int) * (B : Int) < (P : Int) * 1 then ((t : Int), (P : Int), (B : Int)) else (-6, 0, 1))
      rw [if_pos (by rw [Int.zero_mul, Int.mul_one]; omega)]
      rfl
    | some q =>
      have hs : s = ((q.1 : Int), (q.2.1 : Int), (q.2.2 : Int)) := h
      subst hs
      show Rl (if q.2.1 * B < P * q.2.2 then some (t, P, B) else some q) (if (q.2.1 : Int) * (B : Int) < (P : Int) * (q.2.2 : Int) then ((t : Int), (P : Int), (B : Int)) else _)
      rw [← Int.natCast_mul, ← Int.natCast_mul]
      by_cases hl : q.2.1 * B < P * q.2.2
      · rw [if_pos hl, if_pos (by omega)]
        rfl
      · rw [if_neg hl, if_neg (by omega)]
        rfl
theorem run_rl {m : List Nat} (hk : Cn (Sh55Neutral.ints m)) : ∀ t, t ≤ m.length → Rl ((List.range t).foldl (sstep m) none) (prun (Sh55Neutral.ints m) t)
  | 0, _ => rfl
  | t + 1, h => by
    rw [prun_succ, List.range_succ, List.foldl_append]
    exact step_rl hk h (run_rl hk t (by omega))
theorem best_asked {k : List Int} (h : PySh55.li_best_asked k = true) : Cn k ∧ k.length = 256 := by
  have h : (Sh55Neutral.asked1 [[1], k] && _) = true := h
  rw [Bool.and_eq_true] at h
  have h1 : (k.all (fun (z : Int) => Sh55Neutral.natural z 32) && (k.length == 256)) = true := h.1
  rw [Bool.and_eq_true] at h1
  exact ⟨fun z hz => natural_iff.mp (List.all_eq_true.mp h1.1 z hz), beq_iff_eq.mp h1.2⟩
theorem best_is {k : List Int} (hk : Cn k) (hl : k.length = 256) : PySh55.li_best k = [(prun k 255).1] := by
  obtain ⟨m, rfl⟩ : ∃ m : List Nat, k = Sh55Neutral.ints m := Nn.eq fun z hz => (hk z hz).1
  rw [ints_len] at hl
  have r := run_rl hk 255 (by omega)
  show Sh55Neutral.f [[1], _] = _
  unfold Sh55Neutral.f Sh55Neutral.callOf
  show Sh55Neutral.told (Sh55.answer (.best (Sh55Neutral.nats (Sh55Neutral.ints m)))) = _
  rw [nats_ints]
  have e : Sh55.best m = ((List.range 255).foldl (sstep m) none).map fun b => b.1 := rfl
  show Sh55Neutral.told (match Sh55.best m with
    | none => Sh55.fail (-6)
    | some t => Sh55.value t) = _
  rw [e]
  cases z : (List.range 255).foldl (sstep m) none with
  | none =>
    rw [z] at r
    have r : prun (Sh55Neutral.ints m) 255 = (-6, 0, 1) := r
    rw [r]
    rfl
  | some q =>
    rw [z] at r
    have r : prun (Sh55Neutral.ints m) 255 = ((q.1 : Int), (q.2.1 : Int), (q.2.2 : Int)) := r
    rw [r]
    rfl
/-! sizes -/
theorem abs_mul {i j : Int} {a b : Nat} (ha : i.natAbs < 2 ^ a) (hb : j.natAbs < 2 ^ b) : (i * j).natAbs < 2 ^ (a + b) := by
  rw [Int.natAbs_mul, Nat.pow_add]
  exact Nat.mul_lt_mul'' ha hb
theorem lowN_size {k : List Int} (hk : Cn k) (hl : k.length ≤ 256) (t : Nat) : 0 ≤ lowN k t ∧ lowN k t ≤ k.sum ∧ k.sum ≤ 2 ^ 40 := by
  have h1 := sum_nn (hk.take t)
  have h2 := sum_nn (hk.drop t)
  have h3 := split_sum k t
  have h4 := sum_lt hk
  have h5 : (k.length : Int) * 2 ^ 32 ≤ 256 * 2 ^ 32 := Int.mul_le_mul_of_nonneg_right (by omega) (by decide)
  unfold lowN
  omega
theorem ws_size {k : List Int} (hk : Cn k) (hl : k.length ≤ 256) (t : Nat) : 0 ≤ lowT k t ∧ lowT k t ≤ 2 ^ 48 := by
  have h0 := lowN_size hk hl t
  have h1 := ws_nn 0 (hk.take t)
  have h2 := ws_le 0 (hk.take t)
  have h3 : ((0 + (k.take t).length : Nat) : Int) * (k.take t).sum ≤ 256 * (k.take t).sum := Int.mul_le_mul_of_nonneg_right (by rw [List.length_take]; omega) h0.1
  unfold lowN at h0
  unfold lowT
  omega
theorem lowN_all (k : List Int) : lowN k k.length = k.sum := by
  unfold lowN
  rw [List.take_length]
theorem lowT_all (k : List Int) : lowT k k.length = ws 0 k := by
  unfold lowT
  rw [List.take_length]
theorem gap_size {k : List Int} (hk : Cn k) (hl : k.length ≤ 256) (t : Nat) : (gap k t).natAbs < 2 ^ 100 := by
  have h0 := lowN_size hk hl (t + 1)
  have h1 := ws_size hk hl (t + 1)
  have h2 := ws_size hk hl k.length
  rw [lowT_all] at h2
  have e1 := abs_mul (i := lowN k (t + 1)) (j := ws 0 k - lowT k (t + 1)) (a := 41) (b := 50) (by omega) (by omega)
  have e2 := abs_mul (i := k.sum - lowN k (t + 1)) (j := lowT k (t + 1)) (a := 41) (b := 50) (by omega) (by omega)
  unfold gap
  have e3 : ((2 : Nat) ^ (41 + 50)) + 2 ^ (41 + 50) < 2 ^ 100 := by decide
  omega
theorem prun_size {k : List Int} (hk : Cn k) (hl : k.length ≤ 256) : ∀ t, (prun k t).2.1.natAbs < 2 ^ 200 ∧ (prun k t).2.2.natAbs < 2 ^ 200
  | 0 => by
    show (0 : Int).natAbs < 2 ^ 200 ∧ (1 : Int).natAbs < 2 ^ 200
    decide
  | t + 1 => by
    rw [prun_succ]
    have ih := prun_size hk hl t
    have h0 := lowN_size hk hl (t + 1)
    have g := gap_size hk hl t
    unfold pstep
    split
    · split
      · refine ⟨abs_mul g g, ?_⟩
        have := abs_mul (i := lowN k (t + 1)) (j := k.sum - lowN k (t + 1)) (a := 100) (b := 100) (by omega) (by omega)
        exact this
      · exact ih
    · exact ih
end EvM
namespace Ev
open PySem PySem.Spec PyProof.Rows L2
/-! small words over the hand layer -/
theorem same_upd {H : Hp} {p : Addr} {o : HO} (h : H p = none) : Same H (upd H p o) := fun b x e => by
  rw [upd_ne (ne_of_none e h)]
  exact e
/-- xs[j] by values, for xs[j] += e -/
def rGetL (K : PySem.W.Frag) : V → V → Hp → VK → Prop := fun x y H Q => ∃ (p : Addr) (xs : List V) (j : Nat) (v : V), x = .ref p ∧ y = .int j ∧ SqL K H p xs ∧ xs[j]? = some v ∧ Q v H
theorem get_list {X : Cx} : PGet X (rGetL X.K) := by
  intro pins s σ H x y v u Q I rx ry h
  obtain ⟨p, xs, j, z, rfl, rfl, hq, he, q⟩ := h
  cases rx
  obtain ⟨t, rfl⟩ := ry
  obtain ⟨its, r, pl, hz⟩ := I.list hq
  obtain ⟨w, ew, rw'⟩ := r.get he
  have hj : j < xs.length := (List.getElem?_eq_some_iff.mp he).1
  have hl := r.length
  have hn := line63
  exact wpAny_getItem_list pl.isList (by omega) (by omega) (by rw [Int.toNat_natCast]; simpa using ew) ⟨z, H, I, rw', q⟩
theorem ixN_nat {n j : Nat} (h : j < n) : ixN n (j : Int) = some j := by
  unfold ixN
  rw [if_pos (by omega), if_pos (by omega), Int.toNat_natCast]
theorem map_set {α β : Type} (f : α → β) (l : List α) (i : Nat) (a : α) : (l.map f).set i (f a) = (l.set i a).map f := by
  rw [List.map_set]
theorem get_int {l : List Int} {i : Nat} {y : V} (h : (l.map V.int)[i]? = some y) : ∃ z, l[i]? = some z ∧ y = V.int z := by
  rw [List.getElem?_map] at h
  cases e : l[i]? with
  | none => rw [e] at h; cases h
  | some z => rw [e] at h; exact ⟨z, rfl, (Option.some.inj h).symm⟩
theorem int_get {l : List Int} {i : Nat} {z : Int} (h : l[i]? = some z) : (l.map V.int)[i]? = some (V.int z) := by
  rw [List.getElem?_map, h]
  rfl
theorem take_more {α : Type} {l : List α} {i : Nat} {x : α} (h : l[i]? = some x) : l.take (i + 1) = l.take i ++ [x] := by
  rw [List.take_add_one, h]
  rfl
end Ev
namespace Ev
open PySem PySem.Spec PyProof.Rows L2
theorem cut_nat (l : List Int) (i j : Nat) : cutV (l.map V.int) (some (i : Int)) (some (j : Int)) = ((l.drop i).take (j - i)).map V.int := by
  unfold cutV
  rw [HT.sIx_nat, HT.sIx_nat, List.length_map, ← List.map_drop, ← List.map_take]
  congr 1
  by_cases h : i ≤ l.length
  · rw [Nat.min_eq_left h]
    by_cases h2 : j ≤ l.length
    · rw [Nat.min_eq_left h2]
    · rw [Nat.min_eq_right (by omega), List.take_of_length_le (by rw [List.length_drop]; omega), List.take_of_length_le (by rw [List.length_drop]; omega)]
  · rw [List.drop_eq_nil_of_le (by omega), List.drop_eq_nil_of_le (by omega), List.take_nil, List.take_nil]
theorem rgC_up {i j c : Int} {n : Nat} (hc : 0 < c) (hc2 : c < 1073741824) (hi : 0 ≤ i) (hi2 : i < 2 ^ 60) (hj : 0 ≤ j) (hj2 : j < 2 ^ 60) (hn : (n : Int) = if i < j then (j - i - 1) / c + 1 else 0) : RgC i j c n := by
  have hs : Builtin.Range.rangeSize i j c = n := by
    unfold Builtin.Range.rangeSize
    rw [if_pos hc, hn]
  have hn2 : (n : Int) < 2 ^ 62 := by
    rw [hn]
    split
    · have h1 : (j - i - 1) / c ≤ j - i - 1 := Int.ediv_le_self _ (by omega)
      omega
    · decide
  refine ⟨by omega, by omega, ?_, hs⟩
  unfold Builtin.Range.small
  rw [hs]
  unfold Builtin.Range.rangeFitsLong
  simp only [Bool.and_eq_true, Bool.or_eq_true, decide_eq_true_eq]
  rw [if_pos hc]
  simp only [Bool.and_eq_true, decide_eq_true_eq]
  omega
end Ev
namespace Ev
open PySem PySem.Spec PyProof.Rows L2
open PySem.W (Codec)
def top (i : Nat) : Stmt := PySem.Challenge.pw_evenlight_s02_li_best.main.body.getD i (.Pass ⟨0, 0, 0, 0⟩)
abbrev s_li_best : Stmt := top 3
theorem sc_li_best : FnScope ["k", "number", "total", "best", "best_top", "best_bottom", "low_number", "low_total", "t", "high_number", "gap", "top", "bottom", "value", "count"] ["k"] (defScope s_li_best) := ⟨rfl, rfl, rfl, by decide +kernel, rfl, by decide +kernel, by decide +kernel⟩
section
variable {P : Program} {w : World} {K : PySem.W.Frag} {mg : Str → Option Value} {base : Heap}
def sp_li_best (K : PySem.W.Frag) : Sp := fun vs H Q _ => ∃ (a_k : Addr) (k : List Int), vs = [.ref a_k] ∧ SqL K H a_k (k.map V.int) ∧ k.length ≤ 256 ∧ PySh55.li_best_asked k = true ∧
  ∀ (H' : Hp) (p : Addr), H' p = some (.lst ((PySh55.li_best k).map V.int)) → Q (.ref p) H'
theorem sp_li_best_len {K : PySem.W.Frag} {vs : List V} {H : Hp} {Q : VK} {E : XK} (h : sp_li_best K vs H Q E) : vs.length = 1 := by
  obtain ⟨_, _, rfl, _⟩ := h
  rfl
/-! li_best: slots 0 k, 1 number, 2 total, 3 best, 4 best_top, 5 best_bottom, 6 low_number, 7 low_total, 8 t, 9 high_number, 10 gap, 11 top, 12 bottom, 13 value, 14 count -/
theorem ok_li_best {f : Addr} {fd : FuncData} (F : Fun K "li_best" "li_best" s_li_best f fd)
    (g_range : mg "range" = none)
    (g_sum : mg "sum" = none)
    (g_enumerate : mg "enumerate" = none)
    {t_WHITE : Tok} (c_WHITE : mg "WHITE" = some (.int (255) t_WHITE))
    {t_NONE_SUCH : Tok} (c_NONE_SUCH : mg "NONE_SUCH" = some (.int (-6) t_NONE_SUCH)) : FnOk P w K mg base CX0 1 f fd ["k"] (sp_li_best K) := by
  refine F.ok sc_li_best (fun vs H Q E h => ?_) (fun cdv A outer s H vs Q E hr h => ?_)
  · exact sp_li_best_len h
  · refine ⟨_, (pss_cons (ps_set (i := 1) sc_li_best.nd rfl (Or.inl rfl) (pe_callB (cr_sum rfl) (by rfl) g_sum (by decide +kernel) (pa_cons (pv 0) pa_nil)))
      (pss_cons (ps_set (i := 2) sc_li_best.nd rfl (Or.inl rfl) (pe_callB (cr_sum rfl) (by rfl) g_sum (by decide +kernel) (pa_cons (pe_lc (own := [("value", 13), ("count", 14)]) (g := (gTup K 2 (gCons (gName 13) (gCons (gName 14) gNil)))) (tt := tYes) (by rfl) sc_li_best.nd (pi_enum (by rfl) g_enumerate (pa_cons (pv 0) pa_nil)) (blkOk_by (own := [("value", 13), ("count", 14)]) (N := ["k", "number", "total", "best", "best_top", "best_bottom", "low_number", "low_total", "t", "high_number", "gap", "top", "bottom", "value", "count"]) (sc := defScope s_li_best) (by decide +kernel)) (fun _ _ _ _ _ => (pg_tup (by rfl) (pgs_cons (pg_name (i := 13) sc_li_best.nd rfl (Or.inl rfl)) (pgs_cons (pg_name (i := 14) sc_li_best.nd rfl (Or.inl rfl)) pgs_nil)))) (fun _ _ _ _ _ => pts_nil) (fun _ _ _ _ _ => (pe_op op_mulW (pv 13) (pv 14)))) pa_nil)))
      (pss_cons (ps_set (i := 3) sc_li_best.nd rfl (Or.inl rfl) (pe_glob (v := .int (-6)) (by rfl) c_NONE_SUCH ⟨_, rfl⟩))
      (pss_cons (ps_set (i := 4) sc_li_best.nd rfl (Or.inl rfl) pe_int)
      (pss_cons (ps_set (i := 5) sc_li_best.nd rfl (Or.inl rfl) pe_int)
      (pss_cons (ps_set (i := 6) sc_li_best.nd rfl (Or.inl rfl) pe_int)
      (pss_cons (ps_set (i := 7) sc_li_best.nd rfl (Or.inl rfl) pe_int)
      (pss_cons (ps_for PassesOwn.never rfl (pi_range1 (by rfl) g_range (pa_cons (pe_glob (v := .int (255)) (by rfl) c_WHITE ⟨_, rfl⟩) pa_nil)) (pg_name (i := 8) sc_li_best.nd rfl (Or.inl rfl))
      (pss_cons (ps_aug (i := 6) sc_li_best.nd rfl (Or.inl rfl) (pe_ix ix_list (pv 0) (pv 8) (fun _ _ => rfl)) ip_add)
      (pss_cons (ps_aug (i := 7) sc_li_best.nd rfl (Or.inl rfl) (pe_op op_mulW (pv 8) (pe_ix ix_list (pv 0) (pv 8) (fun _ _ => rfl))) ip_add)
      (pss_cons (ps_set (i := 9) sc_li_best.nd rfl (Or.inl rfl) (pe_op op_sub (pv 1) (pv 6)))
      (pss_one (ps_if (PW.pt (pw_and (pt_cmpR op_gt (pv 6) pe_int (nomark _)) (pw_and1 (pt_cmpR op_gt (pv 9) pe_int (nomark _))))) (pss_cons (ps_set (i := 10) sc_li_best.nd rfl (Or.inl rfl) (pe_op op_sub (pe_op op_mulW (pv 6) (pe_op op_sub (pv 2) (pv 7))) (pe_op op_mulW (pv 9) (pv 7))))
      (pss_cons (ps_set (i := 11) sc_li_best.nd rfl (Or.inl rfl) (pe_op op_mulW (pv 10) (pv 10)))
      (pss_cons (ps_set (i := 12) sc_li_best.nd rfl (Or.inl rfl) (pe_op op_mulW (pv 6) (pv 9)))
      (pss_one (ps_if (pt_cmpR op_gt (pe_op op_mulW (pv 11) (pv 5)) (pe_op op_mulW (pv 4) (pv 12)) (nomark _)) (pss_cons (ps_set (i := 3) sc_li_best.nd rfl (Or.inl rfl) (pv 8))
      (pss_cons (ps_set (i := 4) sc_li_best.nd rfl (Or.inl rfl) (pv 11))
      (pss_one (ps_set (i := 5) sc_li_best.nd rfl (Or.inl rfl) (pv 12))))) pss_nil))))) pss_nil))))))
      (pss_one (ps_ret (pe_lst (pa_cons (pv 3) pa_nil)))))))))))), ?_⟩
    obtain ⟨a, k, rfl, hS, hlen, hask, q⟩ := h
    obtain ⟨hk, hl⟩ := EvM.best_asked hask
    rw [EvM.best_is hk hl] at q
    have mulW : ∀ {i j : Int}, i.natAbs < 2 ^ 200 → j.natAbs < 2 ^ 200 → CMulW i j := fun hi hj => wide_mul hi hj (by decide) (by decide) (by decide)
    refine ⟨_, rfl, a, k, rfl, hS, ?_⟩
    refine ⟨_, rfl, a, _, rfl, hS, fun D nD => lc_it (walk_enum (xs := k.map V.int)) (fun i H' => Same H H' ∧ H' D = some (.lst (((EvM.wl 0 k).take i).map V.int)))
      ⟨same_upd nD, upd_same⟩ (fun i H' _ e => e.1.seq hS) ?_ ?_⟩
    · rintro i y H1 H2 hi ⟨s1, hD⟩ ⟨T, x, y', rfl, nT, rfl, hx, hy⟩
      obtain rfl := Option.some.inj hx
      obtain ⟨z, hz, rfl⟩ := get_int hy
      have hzb := hk z (List.mem_of_getElem? hz)
      have hi' : i < 256 := by
        rw [List.length_map] at hi
        omega
      have nTD : D ≠ T := ne_of_none hD nT
      refine ⟨T, _, rfl, SqT.of upd_same, rfl, _, _, rfl, _, _, rfl, rfl, rfl, ?_⟩
      refine ⟨_, rfl, _, rfl, _, _, rfl, rfl, mulW (by omega) (by omega), ?_⟩
      have e := EvM.wl_get k 0 i z hz
      rw [Nat.zero_add] at e
      refine ⟨_, (upd_ne nTD).trans hD, ?_, fun b o e => ?_, ?_⟩
      · rw [List.length_map, List.length_take]
        have : (256 : Nat) < sizeLine := by decide
        omega
      · rw [upd_ne (ne_of_none e nD), upd_ne (ne_of_none (s1 _ _ e) nT)]
        exact s1 _ _ e
      · rw [upd_same, take_more e, List.map_append]
        rfl
    · rintro H1 ⟨s1, hD⟩
      rw [List.length_map, List.take_of_length_le (by rw [EvM.wl_len]; omega)] at hD
      refine ⟨D, _, rfl, SqL.of hD, ?_⟩
      rw [EvM.wl_sum]
      refine ⟨255, rfl, by decide, by decide, for_range (lo := 0) (n := 255) (fun t σ H' => ∃ v8 v9 v10 v11 v12 : Option V, H' = H1 ∧
        σ = [some (.ref a), some (.int k.sum), some (.int (EvM.ws 0 k)), some (.int (EvM.prun k t).1), some (.int (EvM.prun k t).2.1), some (.int (EvM.prun k t).2.2), some (.int (EvM.lowN k t)), some (.int (EvM.lowT k t)), v8, v9, v10, v11, v12, none, none]) ?_ ?_ ?_⟩
      · exact ⟨none, none, none, none, none, rfl, rfl⟩
      · rintro t σ H2 ht ⟨v8, v9, v10, v11, v12, rfl, rfl⟩
        have hi : t < k.length := by omega
        have hz : k[t]? = some k[t] := List.getElem?_eq_getElem hi
        generalize k[t] = z at hz
        have hzb := hk z (List.mem_of_getElem? hz)
        have hat : atI (k.map V.int) ((0 : Int) + (t : Nat)) = some (.int z) := at_of (by omega) (int_get hz)
        have hSq := s1.seq hS
        have n1 := EvM.lowN_size hk (by omega) (t + 1)
        have t1 := EvM.ws_size hk (by omega) (t + 1)
        have t2 := EvM.ws_size hk (by omega) k.length
        rw [EvM.lowT_all] at t2
        have g1 := EvM.gap_size hk (by omega) t
        have ps := EvM.prun_size hk (by omega) t
        have b1 : (2 : Nat) ^ 100 < 2 ^ 200 := by decide
        have b2 : (2 : Nat) ^ 50 < 2 ^ 200 := by decide
        have e1 : EvM.lowN k t + z = EvM.lowN k (t + 1) := (EvM.sum_more hz).symm
        have e2 : EvM.lowT k t + ((0 : Int) + (t : Nat)) * z = EvM.lowT k (t + 1) := by
          rw [Int.zero_add]
          exact (EvM.ws_more hz).symm
        refine ⟨_, rfl, _, rfl, _, rfl, a, _, _, _, rfl, rfl, hSq, hat, _, _, rfl, rfl, ?_⟩
        refine ⟨_, rfl, _, rfl, _, rfl, _, rfl, a, _, _, _, rfl, rfl, hSq, hat, _, _, rfl, rfl, mulW (by omega) (by omega), _, _, rfl, rfl, ?_⟩
        show tSeq _ _ _ [some (.ref a), some (.int k.sum), some (.int (EvM.ws 0 k)), some (.int (EvM.prun k t).1), some (.int (EvM.prun k t).2.1), some (.int (EvM.prun k t).2.2), some (.int (EvM.lowN k t + z)), some (.int (EvM.lowT k t + ((0 : Int) + (t : Nat)) * z)), some (.int ((0 : Int) + (t : Nat))), v9, v10, v11, v12, none, none] H2
        rw [e1, e2]
        refine ⟨_, rfl, _, rfl, _, _, rfl, rfl, ?_⟩
        have stay : ¬ (0 < EvM.lowN k (t + 1) ∧ 0 < k.sum - EvM.lowN k (t + 1)) → EvM.prun k (t + 1) = EvM.prun k t := fun z => by
          rw [EvM.prun_succ]
          exact if_neg z
        refine ⟨_, rfl, _, _, rfl, rfl, _, rfl, ite2 (fun c1 => ?_) (fun c1 => ?_)⟩
        · have c1 : 0 < EvM.lowN k (t + 1) := of_decide_eq_true c1
          refine ⟨_, rfl, _, _, rfl, rfl, _, rfl, ite2 (fun c2 => ?_) (fun c2 => ?_)⟩
          · have c2 : 0 < k.sum - EvM.lowN k (t + 1) := of_decide_eq_true c2
            have m1 := EvM.abs_mul (i := EvM.lowN k (t + 1)) (j := k.sum - EvM.lowN k (t + 1)) (a := 41) (b := 41) (by omega) (by omega)
            have b3 : (2 : Nat) ^ (41 + 41) < 2 ^ 200 := by decide
            have m2 := EvM.abs_mul g1 g1
            refine ⟨_, rfl, _, rfl, _, rfl, _, _, rfl, rfl, _, _, rfl, rfl, mulW (by omega) (by omega), _, rfl, _, rfl, _, _, rfl, rfl, mulW (by omega) (by omega), _, _, rfl, rfl, ?_⟩
            show tSeq _ _ _ [some (.ref a), some (.int k.sum), some (.int (EvM.ws 0 k)), some (.int (EvM.prun k t).1), some (.int (EvM.prun k t).2.1), some (.int (EvM.prun k t).2.2), some (.int (EvM.lowN k (t + 1))), some (.int (EvM.lowT k (t + 1))), some (.int ((0 : Int) + (t : Nat))), some (.int (k.sum - EvM.lowN k (t + 1))), some (.int (EvM.gap k t)), v11, v12, none, none] H2
            refine ⟨_, rfl, _, rfl, _, _, rfl, rfl, mulW (by omega) (by omega), ?_⟩
            refine ⟨_, rfl, _, rfl, _, _, rfl, rfl, mulW (by omega) (by omega), ?_⟩
            refine ⟨_, rfl, _, rfl, _, _, rfl, rfl, mulW m2 ps.2, _, rfl, _, rfl, _, _, rfl, rfl, mulW ps.1 (by omega), _, _, rfl, rfl, _, rfl, ite2 (fun c3 => ?_) (fun c3 => ?_)⟩
            · have c3 := of_decide_eq_true c3
              have ep : EvM.prun k (t + 1) = ((0 : Int) + (t : Nat), EvM.gap k t * EvM.gap k t, EvM.lowN k (t + 1) * (k.sum - EvM.lowN k (t + 1))) := by
                rw [EvM.prun_succ]
                unfold EvM.pstep
                rw [if_pos ⟨c1, c2⟩, if_pos c3, Int.zero_add]
              refine ⟨_, rfl, _, rfl, _, rfl, some (.int ((0 : Int) + (t : Nat))), some (.int (k.sum - EvM.lowN k (t + 1))), some (.int (EvM.gap k t)), some (.int (EvM.gap k t * EvM.gap k t)), some (.int (EvM.lowN k (t + 1) * (k.sum - EvM.lowN k (t + 1)))), rfl, ?_⟩
              rw [ep]
              rfl
            · have ep : EvM.prun k (t + 1) = EvM.prun k t := by
                rw [EvM.prun_succ]
                unfold EvM.pstep
                rw [if_pos ⟨c1, c2⟩, if_neg fun z => c3 (decide_eq_true z)]
              refine ⟨some (.int ((0 : Int) + (t : Nat))), some (.int (k.sum - EvM.lowN k (t + 1))), some (.int (EvM.gap k t)), some (.int (EvM.gap k t * EvM.gap k t)), some (.int (EvM.lowN k (t + 1) * (k.sum - EvM.lowN k (t + 1)))), rfl, ?_⟩
              rw [ep]
              rfl
          · refine ⟨some (.int ((0 : Int) + (t : Nat))), some (.int (k.sum - EvM.lowN k (t + 1))), v10, v11, v12, rfl, ?_⟩
            rw [stay fun z => c2 (decide_eq_true z.2)]
            rfl
        · refine iteF ⟨some (.int ((0 : Int) + (t : Nat))), some (.int (k.sum - EvM.lowN k (t + 1))), v10, v11, v12, rfl, ?_⟩
          rw [stay fun z => c1 (decide_eq_true z.1)]
          rfl
      · rintro σ H2 ⟨v8, v9, v10, v11, v12, rfl, rfl⟩
        refine ⟨_, rfl, (by show 1 ≤ sizeLine; decide), fun p hp => q _ p ?_⟩
        exact upd_same
end
theorem all_mk {P : Program} {w : World} {K : PySem.W.Frag} {h : Heap} {mg : Str → Option Value} {fa : Addr} (X : K.In h) (G : h.Ns mainGlobals mg) (hfa : mg "li_best" = some (.ref fa))
    {f0 : Addr} {od0 an0 : Option Addr} {sl0 : Array (Option Value)} {oc0 kV0 dc0 pm0 cd0 ct0 : Value}
    (a0 : PySem.W.nsIn K mainGlobals "li_best" = some (some (.ref f0))) (l0 : K.lookup f0 = some ⟨oc0, od0, .func (PySem.W.fnOf "li_best" "li_best" (defArgs s_li_best) (defBody s_li_best) (defScope s_li_best) .none kV0 dc0 pm0 an0 cd0 ct0), sl0⟩) (q0 : PySem.W.codeIn K cd0 "li_best" = true) (k0 : PySem.W.keepIn K (.ref f0) = true)
    (z_enumerate : PySem.W.nsIn K mainGlobals "enumerate" = some none)
    (z_range : PySem.W.nsIn K mainGlobals "range" = some none)
    (z_sum : PySem.W.nsIn K mainGlobals "sum" = some none)
    {t_NONE_SUCH : Tok} (y_NONE_SUCH : PySem.W.nsIn K mainGlobals "NONE_SUCH" = some (some (.int (-6) t_NONE_SUCH)))
    {t_WHITE : Tok} (y_WHITE : PySem.W.nsIn K mainGlobals "WHITE" = some (some (.int (255) t_WHITE)))
    : ∃ fd : FuncData, (∀ (s : Shared) (us : List Value), us.length = (["k"] : List Str).length → BindsTo s fd ⟨us, []⟩ ((["k"] : List Str).zip us)) ∧ ∀ base : Heap, K.In base → base.Ns mainGlobals mg → FnOk P w K mg base CX0 1 fa fd ["k"] (sp_li_best K) := by
  have e := hfa.symm.trans (PySem.W.mg_of X G a0)
  cases e
  have F0 := fun_mk (st := s_li_best) l0 q0 k0
  have b0 := F0.binds (ps := ["k"]) fun _ _ _ _ _ _ us hl => match us, hl with | [_], _ => rfl
  refine ⟨PySem.W.fnOf "li_best" "li_best" (defArgs s_li_best) (defBody s_li_best) (defScope s_li_best) .none kV0 dc0 pm0 an0 cd0 ct0, fun s us hu => match us, hu with | [_], _ => .of_eq rfl, fun base _ _ => ?_⟩
  have O0 : FnOk P w K mg base CX0 1 _ _ ["k"] (sp_li_best K) := ok_li_best F0 (PySem.W.mg_none_of X G z_range) (PySem.W.mg_none_of X G z_sum) (PySem.W.mg_none_of X G z_enumerate) (PySem.W.mg_of X G y_WHITE) (PySem.W.mg_of X G y_NONE_SUCH)
  exact O0
theorem end_li_best {K : PySem.W.Frag} {H : Hp} {a_k : Addr} {k : List Int} (h_k : SqL K H a_k (k.map V.int)) (hwi : ((Codec.inLen 256 256 k && k.all (Codec.inInt (0) (4294967295))) && true) = true) (hask : PySh55.li_best_asked k = true) :
    sp_li_best K [.ref a_k] H (fun v H' => Dw K H' v (.list ((PySh55.li_best k).map .int))) fun _ _ _ => False := by
  obtain ⟨w_k, hwi⟩ := Bool.and_eq_true_iff.mp hwi
  obtain ⟨l_k, _⟩ := Bool.and_eq_true_iff.mp w_k
  exact ⟨_, k, rfl, h_k, (Codec.inNat_iff.mp l_k).2, hask, fun H' p hp => .lst (L2.SqL.of hp) (L2.dw_ints _)⟩
end Ev
open PySem PySem.W PyProof.Rows
set_option maxRecDepth 100000 in
set_option maxHeartbeats 8000000 in
theorem PySem.Challenge.cw_evenlight_s02_li_best_holds : PySem.Challenge.rw_evenlight_s02_li_best.Holds := by
  w_on; k_headS; (case hw => exact ⟨[.list (List.replicate 256 (.int 0))], by decide +kernel, by decide +kernel⟩)
  k_fillS
  refine L2.walk_specK (r := PySem.Challenge.rw_evenlight_s02_li_best) (k := 1) (CX := L2.CX0) (ps := ["k"]) (sp := Ev.sp_li_best) (by decide +kernel) rfl rfl ⟨rfl, by decide, by decide⟩ (fun w h Y => PySem.W.kIn_of Y) ?F ?S (fun _ _ _ _ z => z)
  case F =>
    intro w mg fa h Y KX G hmg
    refine' Ev.all_mk KX G hmg ?a0 ?l0 ?q0 ?k0 ?z_enumerate ?z_range ?z_sum ?y_NONE_SUCH ?y_WHITE
    (case a0 => k_is)
    (case l0 => k_is)
    (case q0 => k_is)
    (case k0 => k_is)
    (case z_enumerate => k_is)
    (case z_range => k_is)
    (case z_sum => k_is)
    (case y_NONE_SUCH => k_is)
    (case y_WHITE => k_is)
  case S =>
    intro K H xs a hO hwi hask hx
    obtain ⟨a0, u⟩ := a
    cases hx with
    | cons h0 hx =>
    cases hx
    cases h0 with
    | lst hs0 ha0 =>
    have e0 := L2.ints_dw a0 _ ha0
    subst e0
    exact Ev.end_li_best hs0 hwi hask
#print axioms PySem.Challenge.cw_evenlight_s02_li_best_holds
