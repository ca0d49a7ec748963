import PyProof.Rows.All
import Wide.All
import OpenK.AllK
import Wide.FinOn
import Open.SpecLaws
import KE.OsGo
import HandS.ForSpec
import HandS.ForMost
import HandS.Walk
import HandS.Wide
import HandS.SortInts
import PySem.Challenge.RW_evenlight_s05_li_around
set_option Elab.async false
set_option maxRecDepth 100000
set_option maxHeartbeats 4000000
namespace EvM
/-! numbers and lists alone -/
theorem natural_iff {z : Int} {b : Nat} : Sh55Neutral.natural z b = true ↔ 0 ≤ z ∧ z < 2 ^ b := by
  unfold Sh55Neutral.natural
  rw [Bool.and_eq_true, decide_eq_true_eq, decide_eq_true_eq]
def Nn (l : List Int) : Prop := ∀ z ∈ l, 0 ≤ z
def By (l : List Int) : Prop := ∀ z ∈ l, 0 ≤ z ∧ z < 256
theorem By.nn {l : List Int} (h : By l) : Nn l := fun z hz => (h z hz).1
theorem by_of {l : List Int} (h : l.all (fun (z : Int) => Sh55Neutral.natural z 8) = true) : By l := fun z hz => by
  have := natural_iff.mp (List.all_eq_true.mp h z hz)
  exact ⟨this.1, by have h2 := this.2; simpa using h2⟩
def Wd (l : List Int) : Prop := ∀ z ∈ l, 0 ≤ z ∧ z < 65536
theorem Wd.nn {l : List Int} (h : Wd l) : Nn l := fun z hz => (h z hz).1
theorem wd_of {l : List Int} (h : l.all (fun (z : Int) => Sh55Neutral.natural z 16) = true) : Wd l := fun z hz => by
  have := natural_iff.mp (List.all_eq_true.mp h z hz)
  exact ⟨this.1, by have h2 := this.2; simpa using h2⟩
theorem nats_len (l : List Int) : (Sh55Neutral.nats l).length = l.length := by
  unfold Sh55Neutral.nats; rw [List.length_map]
theorem ints_len (l : List Nat) : (Sh55Neutral.ints l).length = l.length := by
  unfold Sh55Neutral.ints; rw [List.length_map]
theorem ints_nats {l : List Int} (h : Nn l) : Sh55Neutral.ints (Sh55Neutral.nats l) = l := by
  unfold Sh55Neutral.ints Sh55Neutral.nats
  rw [List.map_map]
  conv => rhs; rw [← List.map_id l]
  refine List.map_congr_left fun z hz => ?_
  exact Int.toNat_of_nonneg (h z hz)
theorem nats_ints (l : List Nat) : Sh55Neutral.nats (Sh55Neutral.ints l) = l := by
  unfold Sh55Neutral.ints Sh55Neutral.nats
  rw [List.map_map]
  conv => rhs; rw [← List.map_id l]
  rfl
/-- what a list of numbers that are not negative is -/
theorem Nn.eq {l : List Int} (h : Nn l) : ∃ m : List Nat, l = Sh55Neutral.ints m := ⟨_, (ints_nats h).symm⟩
theorem ints_get (l : List Nat) (i : Nat) : (Sh55Neutral.ints l)[i]? = (l[i]?).map fun (n : Nat) => (n : Int) := by
  unfold Sh55Neutral.ints; rw [List.getElem?_map]
theorem num_eq (l : List Nat) (i : Nat) : Sh55.num l i = (l[i]?).getD 0 := by
  unfold Sh55.num; rw [List.getD_eq_getElem?_getD]
end EvM
namespace EvM
/-! pages -/
def isPage (w : Int) (n : Nat) : Bool := Sh55.page w.toNat (n / w.toNat)
theorem isPage_iff {w : Int} {n : Nat} (h0 : 0 ≤ w) : isPage w n = true ↔ (1 ≤ w ∧ w ≤ 256) ∧ 1 ≤ (n : Int) / w ∧ (n : Int) / w ≤ 256 := by
  obtain ⟨m, rfl⟩ : ∃ m : Nat, w = (m : Int) := ⟨w.toNat, by omega⟩
  unfold isPage Sh55.page Sh55.among
  rw [Int.toNat_natCast]
  simp only [Bool.and_eq_true, decide_eq_true_eq]
  rw [← Int.natCast_ediv]
  omega
/-- the same in natural numbers -/
theorem isPage_nat {w : Int} {n : Nat} (h : isPage w n = true) : 1 ≤ w.toNat ∧ w.toNat ≤ 256 ∧ 1 ≤ n / w.toNat ∧ n / w.toNat ≤ 256 := by
  unfold isPage Sh55.page Sh55.among at h
  simp only [Bool.and_eq_true, decide_eq_true_eq] at h
  exact ⟨h.1.1, h.1.2, h.2.1, h.2.2⟩
/-- a place of a page -/
theorem place {w h n c r : Nat} (hl : n = w * h) (hc : c < w) (hr : r < h) : r * w + c < n := by
  have h2 := Nat.mul_le_mul_left w (show r + 1 ≤ h from hr)
  rw [Nat.mul_add, Nat.mul_one, Nat.mul_comm w r] at h2
  omega
theorem nats_get {l : List Int} {i : Nat} (h : i < l.length) : (Sh55Neutral.nats l)[i]? = some (l[i].toNat) := by
  unfold Sh55Neutral.nats
  rw [List.getElem?_map, List.getElem?_eq_getElem h]
  rfl
theorem at_eq {l : List Int} {w c r : Nat} (h : r * w + c < l.length) : Sh55.at_ w (Sh55Neutral.nats l) c r = l[r * w + c].toNat := by
  unfold Sh55.at_
  rw [num_eq, nats_get h]
  rfl
/-- of each place something, row by row; as whole numbers -/
def eachI (w h : Nat) (f : Nat → Nat → Int) : List Int := (List.range h).flatMap fun r => (List.range w).map fun c => f c r
theorem flatMap_congr' {α β : Type} {f g : α → List β} : ∀ {l : List α}, (∀ a, a ∈ l → f a = g a) → l.flatMap f = l.flatMap g
  | [], _ => rfl
  | a :: l, h => by
    rw [List.flatMap_cons, List.flatMap_cons, h a List.mem_cons_self, flatMap_congr' fun b hb => h b (List.mem_cons_of_mem _ hb)]
theorem each_ints (w h : Nat) (f : Nat → Nat → Nat) : Sh55Neutral.ints (Sh55.each w h f) = eachI w h fun c r => ((f c r : Nat) : Int) := by
  unfold Sh55Neutral.ints Sh55.each eachI
  rw [List.map_flatMap]
  refine flatMap_congr' fun r _ => ?_
  rw [List.map_map]
  rfl
theorem eachI_congr {w h : Nat} {f g : Nat → Nat → Int} (e : ∀ c r, c < w → r < h → f c r = g c r) : eachI w h f = eachI w h g := by
  unfold eachI
  refine flatMap_congr' fun r hr => List.map_congr_left fun c hc => e c r (List.mem_range.mp hc) (List.mem_range.mp hr)
theorem eachI_succ (w h : Nat) (f : Nat → Nat → Int) : eachI w (h + 1) f = eachI w h f ++ (List.range w).map fun c => f c h := by
  unfold eachI
  rw [List.range_succ, List.flatMap_append, List.flatMap_singleton]
theorem eachI_len (w h : Nat) (f : Nat → Nat → Int) : (eachI w h f).length = h * w := by
  induction h with
  | zero => simp [eachI]
  | succ h ih => rw [eachI_succ, List.length_append, ih, List.length_map, List.length_range, Nat.add_mul, Nat.one_mul]
theorem eachI_get {w h : Nat} {f : Nat → Nat → Int} {c r : Nat} (hc : c < w) (hr : r < h) : (eachI w h f)[r * w + c]? = some (f c r) := by
  induction h with
  | zero => omega
  | succ h ih =>
    rw [eachI_succ]
    by_cases e : r < h
    · rw [List.getElem?_append_left (by rw [eachI_len]; exact place (Nat.mul_comm h w) hc e)]
      exact ih e
    · have e2 : r = h := by omega
      subst e2
      rw [List.getElem?_append_right (by rw [eachI_len]; omega), eachI_len, Nat.add_sub_cancel_left, List.getElem?_map, List.getElem?_range hc]
      rfl
/-- the same by one running place -/
theorem eachI_flat {w h : Nat} (hw : 0 < w) (f : Nat → Nat → Int) : eachI w h f = (List.range (h * w)).map fun i => f (i % w) (i / w) := by
  refine List.ext_getElem? fun i => ?_
  by_cases hi : i < h * w
  · have hr : i / w < h := (Nat.div_lt_iff_lt_mul hw).mpr hi
    have e := eachI_get (f := f) (Nat.mod_lt i hw) hr
    rw [Nat.mul_comm, Nat.div_add_mod] at e
    rw [e, List.getElem?_map, List.getElem?_range hi]
    rfl
  · rw [List.getElem?_eq_none (by rw [eachI_len]; omega), List.getElem?_eq_none (by rw [List.length_map, List.length_range]; omega)]
end EvM
namespace EvM
/-! words of dots -/
def word : List Int → Int
  | [] => 0
  | d :: r => word r * 2 + d
theorem word_eq : ∀ (l : List Int) (n : Nat), l.length ≤ n → word l = ((List.range n).map fun j => (l[j]?).getD 0 * 2 ^ j).sum
  | [], n, _ => by
    show (0 : Int) = _
    have e : ((List.range n).map fun j => (([] : List Int)[j]?).getD 0 * 2 ^ j) = (List.range n).map fun _ => (0 : Int) := List.map_congr_left fun j _ => by simp
    rw [e]
    clear e
    induction n with
    | zero => rfl
    | succ n ih => rw [List.range_succ, List.map_append, List.sum_append, ← ih] <;> simp
  | d :: r, 0, h => by simp at h
  | d :: r, n + 1, h => by
    have ih := word_eq r n (by simpa using h)
    rw [List.range_succ_eq_map, List.map_cons, List.sum_cons, List.map_map]
    show word r * 2 + d = _
    rw [ih]
    have e : ((List.range n).map ((fun j => ((d :: r)[j]?).getD 0 * 2 ^ j) ∘ Nat.succ)) = (List.range n).map fun j => ((r[j]?).getD 0 * 2 ^ j) * 2 := List.map_congr_left fun j _ => by
      show ((d :: r)[j + 1]?).getD 0 * 2 ^ (j + 1) = _
      rw [List.getElem?_cons_succ, Int.pow_succ, Int.mul_assoc]
    rw [e]
    have e2 : ∀ (f : Nat → Int) (l : List Nat), (l.map fun j => f j * 2).sum = (l.map f).sum * 2 := fun f l => by
      induction l with
      | nil => rfl
      | cons a l ih => rw [List.map_cons, List.sum_cons, ih, List.map_cons, List.sum_cons, Int.add_mul]
    rw [e2]
    simp
    omega
/-- the word from place s on, of at most 32, within the row that ends ahead of e -/
def cell (ns : List Int) (s e : Nat) : Int := word ((ns.drop s).take (min (s + 32) e - s))
def rowW (w : Nat) (ns : List Int) (r k : Nat) : List Int := (List.range k).map fun j => cell ns (r * w + 32 * j) (r * w + w)
def wordsW (w h : Nat) (ns : List Int) : List Int := (List.range h).flatMap fun r => rowW w ns r ((w + 31) / 32)
theorem wordsW_succ (w r : Nat) (ns : List Int) : wordsW w (r + 1) ns = wordsW w r ns ++ rowW w ns r ((w + 31) / 32) := by
  unfold wordsW
  rw [List.range_succ, List.flatMap_append, List.flatMap_singleton]
theorem rowW_succ (w r k : Nat) (ns : List Int) : rowW w ns r (k + 1) = rowW w ns r k ++ [cell ns (r * w + 32 * k) (r * w + w)] := by
  unfold rowW
  rw [List.range_succ, List.map_append]
  rfl
theorem rowW_len (w r k : Nat) (ns : List Int) : (rowW w ns r k).length = k := by
  unfold rowW
  rw [List.length_map, List.length_range]
theorem wordsW_len (w h : Nat) (ns : List Int) : (wordsW w h ns).length = h * ((w + 31) / 32) := by
  induction h with
  | zero => simp [wordsW]
  | succ h ih => rw [wordsW_succ, List.length_append, ih, rowW_len, Nat.add_mul, Nat.one_mul]
/-- the words are the specification's dots -/
theorem words_dots {w h : Nat} {ns : List Int} {black : Nat → Nat → Bool} (hb : ∀ c r, c < w → r < h → ns[r * w + c]? = some (if black c r = true then 1 else 0)) :
    Sh55Neutral.ints (Sh55.dots w h black) = wordsW w h ns := by
  unfold Sh55Neutral.ints Sh55.dots wordsW
  rw [List.map_flatMap]
  have key : ∀ r, r ∈ List.range h → (List.map (fun (x : Nat) => (x : Int)) ((List.range ((w + 31) / 32)).map fun k => ((List.range 32).map fun j => if 32 * k + j < w ∧ black (32 * k + j) r = true then 2 ^ j else 0).sum)) = rowW w ns r ((w + 31) / 32) := by
    intro r hr
    have hr : r < h := List.mem_range.mp hr
    unfold rowW
    rw [List.map_map]
    refine List.map_congr_left fun k hk => ?_
    have hk : k < (w + 31) / 32 := List.mem_range.mp hk
    show ((((List.range 32).map fun j => if 32 * k + j < w ∧ black (32 * k + j) r = true then 2 ^ j else 0).sum : Nat) : Int) = cell ns (r * w + 32 * k) (r * w + w)
    unfold cell
    rw [word_eq _ 32 (by rw [List.length_take]; omega)]
    have cast : ∀ (f : Nat → Nat) (l : List Nat), (((l.map f).sum : Nat) : Int) = (l.map fun j => ((f j : Nat) : Int)).sum := fun f l => by
      induction l with
      | nil => rfl
      | cons a l ih => rw [List.map_cons, List.sum_cons, List.map_cons, List.sum_cons, ← ih]; omega
    rw [cast]
    congr 1
    refine List.map_congr_left fun j hj => ?_
    have hj : j < 32 := List.mem_range.mp hj
    rw [List.getElem?_take, List.getElem?_drop]
    by_cases hc : 32 * k + j < w
    · rw [if_pos (show j < min (r * w + 32 * k + 32) (r * w + w) - (r * w + 32 * k) by omega), show r * w + 32 * k + j = r * w + (32 * k + j) by omega, hb _ _ hc hr]
      cases hB : black (32 * k + j) r with
      | true =>
        rw [if_pos ⟨hc, rfl⟩, if_pos rfl]
        show ((2 ^ j : Nat) : Int) = 1 * 2 ^ j
        rw [Int.one_mul, Int.natCast_pow] <;> rfl
      | false =>
        rw [if_neg (fun z => Bool.false_ne_true z.2), if_neg Bool.false_ne_true]
        show ((0 : Nat) : Int) = 0 * 2 ^ j
        rw [Int.zero_mul] <;> rfl
    · rw [if_neg (fun z => hc z.1), if_neg (show ¬ j < min (r * w + 32 * k + 32) (r * w + w) - (r * w + 32 * k) by omega)]
      show ((0 : Nat) : Int) = 0 * 2 ^ j
      rw [Int.zero_mul] <;> rfl
  exact flatMap_congr' key
end EvM
namespace EvM
/-! what is around a place, by plain ranges -/
theorem span_go (m d n : Nat) : ∀ N : Nat, ((List.range N).filterMap fun j => if d ≤ m + j ∧ m + j - d < n then some (m + j - d) else none) = List.range' (m - d) (min (m + N - d) n - (m - d))
  | 0 => by
    have e : min (m + 0 - d) n - (m - d) = 0 := by omega
    rw [e]
    rfl
  | N + 1 => by
    rw [List.range_succ, List.filterMap_append, span_go m d n N]
    by_cases h : d ≤ m + N ∧ m + N - d < n
    · have e : min (m + (N + 1) - d) n - (m - d) = (min (m + N - d) n - (m - d)) + 1 := by omega
      rw [e, List.range'_concat]
      congr 1
      rw [List.filterMap_cons_some (f := fun j => if d ≤ m + j ∧ m + j - d < n then some (m + j - d) else none) (a := N) (b := m + N - d) (if_pos h), List.filterMap_nil]
      show [m + N - d] = [m - d + 1 * (min (m + N - d) n - (m - d))]
      congr 1
      omega
    · have e : min (m + (N + 1) - d) n - (m - d) = min (m + N - d) n - (m - d) := by omega
      rw [e]
      have e2 : ([N].filterMap fun j => if d ≤ m + j ∧ m + j - d < n then some (m + j - d) else none) = [] := by
        rw [List.filterMap_cons_none (f := fun j => if d ≤ m + j ∧ m + j - d < n then some (m + j - d) else none) (a := N) (if_neg h), List.filterMap_nil]
      rw [e2, List.append_nil]
theorem span_eq (m d n : Nat) : Sh55.span m d n = List.range' (m - d) (min (m + d + 1) n - (m - d)) := by
  unfold Sh55.span
  rw [span_go]
  congr 1
  omega
theorem mem_span {m d n q : Nat} : q ∈ Sh55.span m d n ↔ m - d ≤ q ∧ q < min (m + d + 1) n := by
  rw [span_eq, List.mem_range'_1]
  omega
theorem mem_around {w h d c r : Nat} {x : List Nat} {v : Nat} : v ∈ Sh55.around w h d x c r ↔ ∃ q p, (r - d ≤ q ∧ q < min (r + d + 1) h) ∧ (c - d ≤ p ∧ p < min (c + d + 1) w) ∧ Sh55.at_ w x p q = v := by
  unfold Sh55.around
  rw [List.mem_flatMap]
  constructor
  · rintro ⟨q, hq, hv⟩
    obtain ⟨p, hp, e⟩ := List.mem_map.mp hv
    exact ⟨q, p, mem_span.mp hq, mem_span.mp hp, e⟩
  · rintro ⟨q, p, hq, hp, e⟩
    exact ⟨q, mem_span.mpr hq, List.mem_map.mpr ⟨p, mem_span.mpr hp, e⟩⟩
theorem foldl_min_le : ∀ (l : List Nat) (a : Nat), l.foldl min a ≤ a ∧ ∀ v ∈ l, l.foldl min a ≤ v
  | [], a => ⟨Nat.le_refl _, fun v h => by simp at h⟩
  | b :: l, a => by
    have ih := foldl_min_le l (min a b)
    refine ⟨by show l.foldl min (min a b) ≤ a; omega, fun v hv => ?_⟩
    show l.foldl min (min a b) ≤ v
    rcases List.mem_cons.mp hv with e | hv
    · omega
    · exact ih.2 v hv
theorem foldl_min_mem : ∀ (l : List Nat) (a : Nat), l.foldl min a = a ∨ l.foldl min a ∈ l
  | [], a => .inl rfl
  | b :: l, a => by
    show l.foldl min (min a b) = a ∨ l.foldl min (min a b) ∈ b :: l
    rcases foldl_min_mem l (min a b) with e | e
    · rw [e]
      by_cases h : a ≤ b
      · exact .inl (Nat.min_eq_left h)
      · rw [Nat.min_eq_right (by omega)]
        exact .inr List.mem_cons_self
    · exact .inr (List.mem_cons_of_mem _ e)
theorem foldl_max_ge : ∀ (l : List Nat) (a : Nat), a ≤ l.foldl max a ∧ ∀ v ∈ l, v ≤ l.foldl max a
  | [], a => ⟨Nat.le_refl _, fun v h => by simp at h⟩
  | b :: l, a => by
    have ih := foldl_max_ge l (max a b)
    refine ⟨by show a ≤ l.foldl max (max a b); omega, fun v hv => ?_⟩
    show v ≤ l.foldl max (max a b)
    rcases List.mem_cons.mp hv with e | hv
    · omega
    · exact ih.2 v hv
theorem foldl_max_mem : ∀ (l : List Nat) (a : Nat), l.foldl max a = a ∨ l.foldl max a ∈ l
  | [], a => .inl rfl
  | b :: l, a => by
    show l.foldl max (max a b) = a ∨ l.foldl max (max a b) ∈ b :: l
    rcases foldl_max_mem l (max a b) with e | e
    · rw [e]
      by_cases h : b ≤ a
      · exact .inl (Nat.max_eq_left h)
      · rw [Nat.max_eq_right (by omega)]
        exact .inr List.mem_cons_self
    · exact .inr (List.mem_cons_of_mem _ e)
/-- a number that is none less and one of them is the least (bytes, at least one) -/
theorem is_min {l : List Nat} {m : Nat} (h255 : m ≤ 255) (hm : m ∈ l) (hle : ∀ v ∈ l, m ≤ v) : l.foldl min 255 = m := by
  have h1 := (foldl_min_le l 255).2 m hm
  rcases foldl_min_mem l 255 with e | e
  · omega
  · have := hle _ e
    omega
theorem is_max {l : List Nat} {m : Nat} (hm : m ∈ l) (hge : ∀ v ∈ l, v ≤ m) : l.foldl max 0 = m := by
  have h1 := (foldl_max_ge l 0).2 m hm
  rcases foldl_max_mem l 0 with e | e
  · omega
  · have := hge _ e
    omega
end EvM
namespace EvM
/-! lists of natural numbers and of whole numbers, number by number -/
theorem ints_map {x : List Int} {f : Nat → Nat} {g : Int → Int} (h : ∀ z ∈ x, ((f z.toNat : Nat) : Int) = g z) : Sh55Neutral.ints ((Sh55Neutral.nats x).map f) = x.map g := by
  unfold Sh55Neutral.ints Sh55Neutral.nats
  rw [List.map_map, List.map_map]
  exact List.map_congr_left fun z hz => h z hz
theorem ints_zip {x b : List Int} {f : Nat → Nat → Nat} {g : Int → Int → Int} (h : ∀ z ∈ x, ∀ y ∈ b, ((f z.toNat y.toNat : Nat) : Int) = g z y) :
    Sh55Neutral.ints (((Sh55Neutral.nats x).zip (Sh55Neutral.nats b)).map fun p => f p.1 p.2) = (x.zip b).map fun p => g p.1 p.2 := by
  unfold Sh55Neutral.ints Sh55Neutral.nats
  rw [List.zip_map, List.map_map, List.map_map]
  refine List.map_congr_left fun z hz => ?_
  exact h z.1 (List.of_mem_zip hz).1 z.2 (List.of_mem_zip hz).2
theorem zip_get {x b : List Int} {i : Nat} {z y : Int} (h1 : x[i]? = some z) (h2 : b[i]? = some y) : (x.zip b)[i]? = some (z, y) := by
  rw [List.getElem?_zip_eq_some]
  exact ⟨h1, h2⟩
/-- the byte at column c, row r -/
def pix (w : Nat) (x : List Int) (c r : Nat) : Int := (x[r * w + c]?).getD 0
theorem at_cast {w c r : Nat} {x : List Int} (h : Nn x) : ((Sh55.at_ w (Sh55Neutral.nats x) c r : Nat) : Int) = pix w x c r := by
  unfold Sh55.at_ pix
  rw [num_eq]
  unfold Sh55Neutral.nats
  rw [List.getElem?_map]
  cases e : x[r * w + c]? with
  | none => rfl
  | some z =>
    have := h z (List.mem_of_getElem? e)
    show ((z.toNat : Nat) : Int) = z
    omega
theorem pix_get {w c r h : Nat} {x : List Int} (hl : x.length = w * h) (hc : c < w) (hr : r < h) : x[r * w + c]? = some (pix w x c r) := by
  have := place hl hc hr
  unfold pix
  rw [List.getElem?_eq_getElem this]
  rfl
theorem pix_by {w c r : Nat} {x : List Int} (h : By x) : 0 ≤ pix w x c r ∧ pix w x c r ≤ 255 := by
  unfold pix
  cases e : x[r * w + c]? with
  | none => exact ⟨by decide, by decide⟩
  | some z =>
    have := h z (List.mem_of_getElem? e)
    show 0 ≤ z ∧ z ≤ 255
    omega
theorem page_eq {w h : Nat} {x : List Int} (hw : 0 < w) (hl : x.length = w * h) : x = eachI w h (pix w x) := by
  refine List.ext_getElem? fun i => ?_
  by_cases hi : i < h * w
  · have hr : i / w < h := (Nat.div_lt_iff_lt_mul hw).mpr hi
    have e := eachI_get (f := pix w x) (Nat.mod_lt i hw) hr
    have e2 := pix_get hl (Nat.mod_lt i hw) hr
    rw [Nat.mul_comm, Nat.div_add_mod] at e e2
    rw [e, e2]
  · rw [List.getElem?_eq_none (by rw [hl, Nat.mul_comm]; omega), List.getElem?_eq_none (by rw [eachI_len]; omega)]
theorem eachI_map (w h : Nat) (g : Nat → Nat → Int) (f : Int → Int) : (eachI w h g).map f = eachI w h fun c r => f (g c r) := by
  unfold eachI
  rw [List.map_flatMap]
  refine flatMap_congr' fun r _ => ?_
  rw [List.map_map]
  rfl
/-- a row of a page -/
def rowI (w : Nat) (g : Nat → Nat → Int) (r : Nat) : List Int := (List.range w).map fun c => g c r
theorem rowI_len (w : Nat) (g : Nat → Nat → Int) (r : Nat) : (rowI w g r).length = w := by
  unfold rowI
  rw [List.length_map, List.length_range]
theorem rowI_get {w : Nat} {g : Nat → Nat → Int} {r c : Nat} (hc : c < w) : (rowI w g r)[c]? = some (g c r) := by
  unfold rowI
  rw [List.getElem?_map, List.getElem?_range hc]
  rfl
theorem eachI_row {w h : Nat} {g : Nat → Nat → Int} {r : Nat} (hr : r < h) : ((eachI w h g).drop (r * w)).take w = rowI w g r := by
  refine List.ext_getElem? fun i => ?_
  rw [List.getElem?_take, List.getElem?_drop]
  by_cases hi : i < w
  · rw [if_pos hi, eachI_get hi hr, rowI_get hi]
  · rw [if_neg hi, List.getElem?_eq_none (by rw [rowI_len]; omega)]
end EvM
namespace EvM
/-! li_around -/
theorem around_okB {w d part : Int} {x : List Int} (hw : 0 ≤ w) (hd : 0 ≤ d) (hpart : 0 ≤ part) : (Sh55.localOk w.toNat ((Sh55Neutral.nats x).length / w.toNat) d.toNat part.toNat) = true ↔ (isPage w x.length = true ∧ d ≤ 64 ∧ part ≤ 256) := by
  rw [nats_len]
  unfold Sh55.localOk Sh55.aroundOk
  simp only [Bool.and_eq_true, decide_eq_true_eq]
  have e_d : d.toNat ≤ 64 ↔ d ≤ 64 := by omega
  have e_part : part.toNat ≤ 256 ↔ part ≤ 256 := by omega
  rw [e_d, e_part, and_assoc]
  exact Iff.rfl
theorem around_asked {w d part : Int} {x : List Int} (h : PySh55.li_around_asked w d part x = true) : 0 ≤ w ∧ 0 ≤ d ∧ 0 ≤ part ∧ By x ∧ ((isPage w x.length = true ∧ d ≤ 64 ∧ part ≤ 256) → x.length = w.toNat * (x.length / w.toNat)) := by
  have h : (Sh55Neutral.asked1 [[4, w, d, part], x] && _) = true := h
  rw [Bool.and_eq_true] at h
  have h1 : (Sh55Neutral.natural w 32 && (Sh55Neutral.natural d 32 && (Sh55Neutral.natural part 32 && (x.all (fun (z : Int) => Sh55Neutral.natural z 8) && (if (Sh55.localOk w.toNat ((Sh55Neutral.nats x).length / w.toNat) d.toNat part.toNat) = true then x.length == w.toNat * ((Sh55Neutral.nats x).length / w.toNat) else _))))) = true := h.1
  rw [Bool.and_eq_true, Bool.and_eq_true, Bool.and_eq_true, Bool.and_eq_true] at h1
  refine ⟨(natural_iff.mp h1.1).1, (natural_iff.mp h1.2.1).1, (natural_iff.mp h1.2.2.1).1, by_of h1.2.2.2.1, ?_⟩
  have h2 := h1.2.2.2.2
  intro ok
  rw [if_pos ((around_okB (natural_iff.mp h1.1).1 (natural_iff.mp h1.2.1).1 (natural_iff.mp h1.2.2.1).1).mpr ok), nats_len] at h2
  exact beq_iff_eq.mp h2
theorem around_bad {w d part : Int} {x : List Int} (hw : 0 ≤ w) (hd : 0 ≤ d) (hpart : 0 ≤ part) (h : ¬ (isPage w x.length = true ∧ d ≤ 64 ∧ part ≤ 256)) : PySh55.li_around w d part x = [-2] := by
  show Sh55Neutral.f [[4, w, d, part], x] = _
  unfold Sh55Neutral.f Sh55Neutral.callOf
  have hf : (Sh55.localOk w.toNat ((Sh55Neutral.nats x).length / w.toNat) d.toNat part.toNat) = false := by
    cases e : (Sh55.localOk w.toNat ((Sh55Neutral.nats x).length / w.toNat) d.toNat part.toNat) with
    | false => rfl
    | true => exact absurd ((around_okB hw hd hpart).mp e) h
  simp only [hf]
  rfl
theorem around_ok {w d part : Int} {x : List Int} (hw : 0 ≤ w) (hd : 0 ≤ d) (hpart : 0 ≤ part) (h : isPage w x.length = true ∧ d ≤ 64 ∧ part ≤ 256) : PySh55.li_around w d part x = 0 :: Sh55Neutral.ints (Sh55.dots w.toNat (x.length / w.toNat) (Sh55.darker w.toNat (x.length / w.toNat) d.toNat part.toNat (Sh55Neutral.nats x))) := by
  show Sh55Neutral.f [[4, w, d, part], x] = _
  unfold Sh55Neutral.f Sh55Neutral.callOf
  have hf : (Sh55.localOk w.toNat ((Sh55Neutral.nats x).length / w.toNat) d.toNat part.toNat) = true := (around_okB hw hd hpart).mpr h
  simp only [hf, if_true]
  rw [← nats_len x]
  rfl
end EvM
namespace EvM
/-! sums of a page -/
def psum (f : Nat → Int) (n : Nat) : Int := ((List.range n).map f).sum
theorem psum_zero (f : Nat → Int) : psum f 0 = 0 := rfl
theorem psum_succ (f : Nat → Int) (n : Nat) : psum f (n + 1) = psum f n + f n := by
  unfold psum
  rw [List.range_succ, List.map_append, List.sum_append]
  simp
theorem psum_congr {f g : Nat → Int} {n : Nat} (h : ∀ i, i < n → f i = g i) : psum f n = psum g n := by
  unfold psum
  rw [List.map_congr_left fun i hi => h i (List.mem_range.mp hi)]
theorem psum_cast (f : Nat → Nat) (n : Nat) : ((((List.range n).map f).sum : Nat) : Int) = psum (fun i => ((f i : Nat) : Int)) n := by
  induction n with
  | zero => rfl
  | succ n ih =>
    rw [psum_succ, ← ih, List.range_succ, List.map_append, List.sum_append]
    simp
/-- the sum of all in columns before c and rows before r -/
def S2 (g : Nat → Nat → Int) (c r : Nat) : Int := psum (fun q => psum (fun p => g p q) c) r
theorem S2_zero_row (g : Nat → Nat → Int) (c : Nat) : S2 g c 0 = 0 := rfl
theorem S2_succ (g : Nat → Nat → Int) (c r : Nat) : S2 g c (r + 1) = S2 g c r + psum (fun p => g p r) c := psum_succ _ _
theorem S2_zero (g : Nat → Nat → Int) (r : Nat) : S2 g 0 r = 0 := by
  induction r with
  | zero => rfl
  | succ r ih => rw [S2_succ, ih]; rfl
theorem sums_list {w h : Nat} {x : List Int} (hx : Nn x) : Sh55Neutral.ints (Sh55.sums w h (Sh55Neutral.nats x)) = eachI (w + 1) (h + 1) (S2 (pix w x)) := by
  unfold Sh55.sums
  rw [each_ints]
  refine eachI_congr fun c r _ _ => ?_
  rw [psum_cast]
  refine psum_congr fun q _ => ?_
  rw [psum_cast]
  exact psum_congr fun p _ => at_cast hx
end EvM
namespace EvM
/-! around a place: how many, their sum -/
def rsum (f : Nat → Int) (a n : Nat) : Int := ((List.range' a n).map f).sum
theorem psum_add (f : Nat → Int) (a n : Nat) : psum f (a + n) = psum f a + rsum f a n := by
  unfold psum rsum
  rw [List.range_add, List.map_append, List.sum_append, List.range'_eq_map_range, List.map_map]
theorem rsum_of {f : Nat → Int} {a b : Nat} (h : a ≤ b) : rsum f a (b - a) = psum f b - psum f a := by
  have := psum_add f a (b - a)
  rw [show a + (b - a) = b by omega] at this
  omega
theorem psum_sub (f g : Nat → Int) (n : Nat) : psum (fun i => f i - g i) n = psum f n - psum g n := by
  induction n with
  | zero => rfl
  | succ n ih => rw [psum_succ, psum_succ, psum_succ, ih]; omega
/-- a rectangle's sum by four of the sums -/
def rect (g : Nat → Nat → Int) (l r t b : Nat) : Int := S2 g r b - S2 g l b - S2 g r t + S2 g l t
theorem rect_eq {g : Nat → Nat → Int} {l r t b : Nat} (h1 : l ≤ r) (h2 : t ≤ b) : rsum (fun q => rsum (fun p => g p q) l (r - l)) t (b - t) = rect g l r t b := by
  rw [rsum_of h2]
  have e : ∀ n, psum (fun q => rsum (fun p => g p q) l (r - l)) n = S2 g r n - S2 g l n := fun n => by
    unfold S2
    rw [← psum_sub]
    exact psum_congr fun q _ => rsum_of h1
  rw [e, e]
  unfold rect
  omega
theorem sum_flat_cast (f : Nat → List Nat) (F : Nat → Int) (l : List Nat) (h : ∀ q, (((f q).sum : Nat) : Int) = F q) : (((l.flatMap f).sum : Nat) : Int) = (l.map F).sum := by
  induction l with
  | nil => rfl
  | cons q l ih =>
    rw [List.flatMap_cons, List.sum_append, List.map_cons, List.sum_cons, ← ih, ← h]
    omega
theorem sum_map_cast (f : Nat → Nat) (F : Nat → Int) (l : List Nat) (h : ∀ q, ((f q : Nat) : Int) = F q) : (((l.map f).sum : Nat) : Int) = (l.map F).sum := by
  induction l with
  | nil => rfl
  | cons q l ih =>
    rw [List.map_cons, List.sum_cons, List.map_cons, List.sum_cons, ← ih, ← h]
    omega
theorem len_flat {f : Nat → List Nat} {n : Nat} (h : ∀ q, (f q).length = n) (l : List Nat) : (l.flatMap f).length = l.length * n := by
  induction l with
  | nil => simp
  | cons q l ih => rw [List.flatMap_cons, List.length_append, ih, h, List.length_cons, Nat.add_mul, Nat.one_mul, Nat.add_comm]
/-- the edges of what is around -/
def lowE (c d : Nat) : Nat := c - d
def highE (c d n : Nat) : Nat := min (c + d + 1) n
def dotI (w h : Nat) (d : Nat) (part : Int) (g : Nat → Nat → Int) (c r : Nat) : Int :=
  if 256 * (((highE c d w : Int) - (lowE c d : Int)) * ((highE r d h : Int) - (lowE r d : Int))) * g c r < part * rect g (lowE c d) (highE c d w) (lowE r d) (highE r d h) then 1 else 0
theorem darker_eq {w h d part c r : Nat} {x : List Int} (hx : Nn x) (hc : c < w) (hr : r < h) :
    (if Sh55.darker w h d part (Sh55Neutral.nats x) c r = true then (1 : Int) else 0) = dotI w h d part (pix w x) c r := by
  have h1 : lowE c d ≤ highE c d w := by unfold lowE highE; omega
  have h2 : lowE r d ≤ highE r d h := by unfold lowE highE; omega
  have hs : (((Sh55.around w h d (Sh55Neutral.nats x) c r).sum : Nat) : Int) = rect (pix w x) (lowE c d) (highE c d w) (lowE r d) (highE r d h) := by
    rw [← rect_eq h1 h2]
    unfold Sh55.around
    rw [sum_flat_cast _ (fun q => rsum (fun p => pix w x p q) (lowE c d) (highE c d w - lowE c d)), span_eq]
    · rfl
    · intro q
      rw [sum_map_cast _ (fun p => pix w x p q) _ (fun p => at_cast hx), span_eq]
      rfl
  have hl : (Sh55.around w h d (Sh55Neutral.nats x) c r).length = (highE r d h - lowE r d) * (highE c d w - lowE c d) := by
    unfold Sh55.around
    rw [len_flat (n := highE c d w - lowE c d), span_eq, List.length_range']
    · rfl
    · intro q
      rw [List.length_map, span_eq, List.length_range']
      rfl
  unfold Sh55.darker dotI
  simp only [decide_eq_true_eq]
  have e1 : 256 * (((highE c d w : Int) - (lowE c d : Int)) * ((highE r d h : Int) - (lowE r d : Int))) * pix w x c r = ((256 * ((Sh55.around w h d (Sh55Neutral.nats x) c r).length * Sh55.at_ w (Sh55Neutral.nats x) c r) : Nat) : Int) := by
    rw [hl, Int.natCast_mul, Int.natCast_mul, Int.natCast_mul, at_cast hx, Int.natCast_sub h1, Int.natCast_sub h2, Int.mul_assoc, Int.mul_comm ((highE c d w : Int) - _)]
    rfl
  have e2 : (part : Int) * rect (pix w x) (lowE c d) (highE c d w) (lowE r d) (highE r d h) = ((part * (Sh55.around w h d (Sh55Neutral.nats x) c r).sum : Nat) : Int) := by
    rw [Int.natCast_mul, hs]
  rw [e1, e2]
  by_cases e : 256 * ((Sh55.around w h d (Sh55Neutral.nats x) c r).length * Sh55.at_ w (Sh55Neutral.nats x) c r) < part * (Sh55.around w h d (Sh55Neutral.nats x) c r).sum
  · rw [if_pos e, if_pos (by omega)]
  · rw [if_neg e, if_neg (by omega)]
theorem around_list {w h d part : Nat} {x : List Int} (hx : Nn x) : Sh55Neutral.ints (Sh55.dots w h (Sh55.darker w h d part (Sh55Neutral.nats x))) = wordsW w h (eachI w h (dotI w h d part (pix w x))) :=
  words_dots fun c r hc hr => by rw [eachI_get hc hr, darker_eq hx hc hr]
end EvM
namespace Ev
open PySem PySem.Spec PyProof.Rows L2
/-! small words over the hand layer -/
theorem same_upd {H : Hp} {p : Addr} {o : HO} (h : H p = none) : Same H (upd H p o) := fun b x e => by
  rw [upd_ne (ne_of_none e h)]
  exact e
/-- xs[j] by values, for xs[j] += e -/
def rGetL (K : PySem.W.Frag) : V → V → Hp → VK → Prop := fun x y H Q => ∃ (p : Addr) (xs : List V) (j : Nat) (v : V), x = .ref p ∧ y = .int j ∧ SqL K H p xs ∧ xs[j]? = some v ∧ Q v H
theorem get_list {X : Cx} : PGet X (rGetL X.K) := by
  intro pins s σ H x y v u Q I rx ry h
  obtain ⟨p, xs, j, z, rfl, rfl, hq, he, q⟩ := h
  cases rx
  obtain ⟨t, rfl⟩ := ry
  obtain ⟨its, r, pl, hz⟩ := I.list hq
  obtain ⟨w, ew, rw'⟩ := r.get he
  have hj : j < xs.length := (List.getElem?_eq_some_iff.mp he).1
  have hl := r.length
  have hn := line63
  exact wpAny_getItem_list pl.isList (by omega) (by omega) (by rw [Int.toNat_natCast]; simpa using ew) ⟨z, H, I, rw', q⟩
theorem ixN_nat {n j : Nat} (h : j < n) : ixN n (j : Int) = some j := by
  unfold ixN
  rw [if_pos (by omega), if_pos (by omega), Int.toNat_natCast]
theorem map_set {α β : Type} (f : α → β) (l : List α) (i : Nat) (a : α) : (l.map f).set i (f a) = (l.set i a).map f := by
  rw [List.map_set]
theorem get_int {l : List Int} {i : Nat} {y : V} (h : (l.map V.int)[i]? = some y) : ∃ z, l[i]? = some z ∧ y = V.int z := by
  rw [List.getElem?_map] at h
  cases e : l[i]? with
  | none => rw [e] at h; cases h
  | some z => rw [e] at h; exact ⟨z, rfl, (Option.some.inj h).symm⟩
theorem int_get {l : List Int} {i : Nat} {z : Int} (h : l[i]? = some z) : (l.map V.int)[i]? = some (V.int z) := by
  rw [List.getElem?_map, h]
  rfl
theorem take_more {α : Type} {l : List α} {i : Nat} {x : α} (h : l[i]? = some x) : l.take (i + 1) = l.take i ++ [x] := by
  rw [List.take_add_one, h]
  rfl
end Ev
namespace Ev
open PySem PySem.Spec PyProof.Rows L2
theorem cut_nat (l : List Int) (i j : Nat) : cutV (l.map V.int) (some (i : Int)) (some (j : Int)) = ((l.drop i).take (j - i)).map V.int := by
  unfold cutV
  rw [HT.sIx_nat, HT.sIx_nat, List.length_map, ← List.map_drop, ← List.map_take]
  congr 1
  by_cases h : i ≤ l.length
  · rw [Nat.min_eq_left h]
    by_cases h2 : j ≤ l.length
    · rw [Nat.min_eq_left h2]
    · rw [Nat.min_eq_right (by omega), List.take_of_length_le (by rw [List.length_drop]; omega), List.take_of_length_le (by rw [List.length_drop]; omega)]
  · rw [List.drop_eq_nil_of_le (by omega), List.drop_eq_nil_of_le (by omega), List.take_nil, List.take_nil]
theorem rgC_up {i j c : Int} {n : Nat} (hc : 0 < c) (hc2 : c < 1073741824) (hi : 0 ≤ i) (hi2 : i < 2 ^ 60) (hj : 0 ≤ j) (hj2 : j < 2 ^ 60) (hn : (n : Int) = if i < j then (j - i - 1) / c + 1 else 0) : RgC i j c n := by
  have hs : Builtin.Range.rangeSize i j c = n := by
    unfold Builtin.Range.rangeSize
    rw [if_pos hc, hn]
  have hn2 : (n : Int) < 2 ^ 62 := by
    rw [hn]
    split
    · have h1 : (j - i - 1) / c ≤ j - i - 1 := Int.ediv_le_self _ (by omega)
      omega
    · decide
  refine ⟨by omega, by omega, ?_, hs⟩
  unfold Builtin.Range.small
  rw [hs]
  unfold Builtin.Range.rangeFitsLong
  simp only [Bool.and_eq_true, Bool.or_eq_true, decide_eq_true_eq]
  rw [if_pos hc]
  simp only [Bool.and_eq_true, decide_eq_true_eq]
  omega
end Ev
namespace Ev
open PySem PySem.Spec PyProof.Rows L2
/-- the end of a comprehension's turn where nothing else is made -/
theorem lc_fin {H0 : Hp} {D : Addr} {l l' : List Int} {v : Int} (hl : l.length < sizeLine) (e : l' = l ++ [v]) :
    ∃ acc, upd H0 D (.lst (l.map V.int)) D = some (.lst acc) ∧ acc.length < sizeLine ∧ upd (upd H0 D (.lst (l.map V.int))) D (.lst (acc ++ [.int v])) = upd H0 D (.lst (l'.map V.int)) := by
  refine ⟨_, upd_same, by rw [List.length_map]; exact hl, ?_⟩
  rw [upd_upd, e, List.map_append]
  rfl
theorem map_more {l : List Int} {f : Int → Int} {i : Nat} {z : Int} (h : l[i]? = some z) : (l.take (i + 1)).map f = (l.take i).map f ++ [f z] := by
  rw [take_more h, List.map_append]
  rfl
theorem range_more (f : Nat → Int) (i : Nat) : (List.range (i + 1)).map f = (List.range i).map f ++ [f i] := by
  rw [List.range_succ, List.map_append]
  rfl
theorem cutV_nat (l : List V) (i j : Nat) : cutV l (some (i : Int)) (some (j : Int)) = (l.drop i).take (j - i) := by
  unfold cutV
  rw [HT.sIx_nat, HT.sIx_nat]
  by_cases h : i ≤ l.length
  · rw [Nat.min_eq_left h]
    by_cases h2 : j ≤ l.length
    · rw [Nat.min_eq_left h2]
    · rw [Nat.min_eq_right (by omega), List.take_of_length_le (by rw [List.length_drop]; omega), List.take_of_length_le (by rw [List.length_drop]; omega)]
  · rw [List.drop_eq_nil_of_le (by omega), List.drop_eq_nil_of_le (by omega), List.take_nil, List.take_nil]
theorem at_natE {l : List V} {j : Int} {i : Nat} {v : V} (e : j = (i : Int)) (h : l[i]? = some v) : atI l j = some v := at_of e h
theorem small {n : Nat} (h : n ≤ 16777216) : n ≤ sizeLine := Nat.le_trans h (by decide)
theorem smallS {n : Nat} (h : n < 16777216) : n < sizeLine := Nat.lt_of_lt_of_le h (by decide)
end Ev
namespace Ev
open PySem PySem.Spec PyProof.Rows L2
theorem map_range_get {n i : Nat} {f : Nat → Int} (h : i < n) : (((List.range n).map f).map V.int)[i]? = some (V.int (f i)) := by
  rw [List.getElem?_map, List.getElem?_map, List.getElem?_range h]
  rfl
theorem each_rows {w h : Nat} (hw : 1 ≤ w) (g : Nat → Nat → Int) : ((((EvM.eachI w h g).map V.int).length : Nat) : Int) / (w : Int) = (h : Int) := by
  rw [List.length_map, EvM.eachI_len, ← Int.natCast_ediv, Nat.mul_div_cancel _ (by omega)]
theorem each_row {w h r : Nat} (hr : r < h) (g : Nat → Nat → Int) : (((EvM.eachI w h g).map V.int).drop (r * w)).take w = ((List.range w).map fun c => g c r).map V.int := by
  rw [← List.map_drop, ← List.map_take, EvM.eachI_row hr]
  rfl
theorem rep_range (n : Nat) (f : Nat → Int) (h : ∀ c, f c = 0) : (List.replicate n [V.int 0]).flatten = ((List.range n).map f).map V.int := by
  rw [List.flatten_replicate_singleton, List.map_map]
  symm
  rw [List.eq_replicate_iff]
  refine ⟨by simp, fun b hb => ?_⟩
  obtain ⟨c, _, rfl⟩ := List.mem_map.mp hb
  show V.int (f c) = _
  rw [h]
theorem max_sub (c d : Nat) : (if (0 : Int) > (c : Int) - (d : Int) then 0 else (c : Int) - (d : Int)) = ((c - d : Nat) : Int) := by
  split <;> omega
end Ev
namespace Ev
open PySem PySem.Spec PyProof.Rows L2
open PySem.W (Codec)
def top (i : Nat) : Stmt := PySem.Challenge.pw_evenlight_s05_li_around.main.body.getD i (.Pass ⟨0, 0, 0, 0⟩)
abbrev s_sums_below : Stmt := top 10
theorem sc_sums_below : FnScope ["above", "row", "sums", "along", "c"] ["above", "row"] (defScope s_sums_below) := ⟨rfl, rfl, rfl, by decide +kernel, rfl, by decide +kernel, by decide +kernel⟩
abbrev s_row_of : Stmt := top 8
theorem sc_row_of : FnScope ["w", "x", "r"] ["w", "x", "r"] (defScope s_row_of) := ⟨rfl, rfl, rfl, by decide +kernel, rfl, by decide +kernel, by decide +kernel⟩
abbrev s_sums_of_page : Stmt := top 9
theorem sc_sums_of_page : FnScope ["w", "x", "above", "sums", "r"] ["w", "x"] (defScope s_sums_of_page) := ⟨rfl, rfl, rfl, by decide +kernel, rfl, by decide +kernel, by decide +kernel⟩
abbrev s_word_of_dots : Stmt := top 13
theorem sc_word_of_dots : FnScope ["dots", "word", "dot"] ["dots"] (defScope s_word_of_dots) := ⟨rfl, rfl, rfl, by decide +kernel, rfl, by decide +kernel, by decide +kernel⟩
abbrev s_words_of_page : Stmt := top 12
theorem sc_words_of_page : FnScope ["w", "dots", "words", "start", "end", "first"] ["w", "dots"] (defScope s_words_of_page) := ⟨rfl, rfl, rfl, by decide +kernel, rfl, by decide +kernel, by decide +kernel⟩
abbrev s_is_page : Stmt := top 7
theorem sc_is_page : FnScope ["w", "x", "h"] ["w", "x"] (defScope s_is_page) := ⟨rfl, rfl, rfl, by decide +kernel, rfl, by decide +kernel, by decide +kernel⟩
abbrev s_dots_of_row : Stmt := top 11
theorem sc_dots_of_row : FnScope ["w", "d", "part", "x", "sums", "r", "top", "bottom", "above", "below", "dots", "c", "left", "right", "number", "total"] ["w", "d", "part", "x", "sums", "r"] (defScope s_dots_of_row) := ⟨rfl, rfl, rfl, by decide +kernel, rfl, by decide +kernel, by decide +kernel⟩
abbrev s_li_around : Stmt := top 6
theorem sc_li_around : FnScope ["w", "d", "part", "x", "sums", "dots", "r"] ["w", "d", "part", "x"] (defScope s_li_around) := ⟨rfl, rfl, rfl, by decide +kernel, rfl, by decide +kernel, by decide +kernel⟩
section
variable {P : Program} {w : World} {K : PySem.W.Frag} {mg : Str → Option Value} {base : Heap}
def sp_sums_below (K : PySem.W.Frag) : Sp := fun vs H Q _ => ∃ (a b : Addr) (n : Nat) (A G : Nat → Int), vs = [.ref a, .ref b] ∧ SqL K H a (((List.range (n + 1)).map A).map V.int) ∧ SqL K H b (((List.range n).map G).map V.int) ∧ n ≤ 256 ∧ A 0 = 0 ∧
  ∀ (H' : Hp) (p : Addr), Same H H' → H p = none → H' p = some (.lst (((List.range (n + 1)).map fun c => A c + EvM.psum G c).map V.int)) → Q (.ref p) H'
theorem sp_sums_below_len {K : PySem.W.Frag} {vs : List V} {H : Hp} {Q : VK} {E : XK} (h : sp_sums_below K vs H Q E) : vs.length = 2 := by
  obtain ⟨_, _, _, _, _, rfl, _⟩ := h
  rfl
/-! sums_below: slots 0 above, 1 row, 2 sums, 3 along, 4 c -/
theorem ok_sums_below {f : Addr} {fd : FuncData} (F : Fun K "sums_below" "sums_below" s_sums_below f fd)
    (g_range : mg "range" = none)
    (g_len : mg "len" = none) : FnOk P w K mg base CX0 1 f fd ["above", "row"] (sp_sums_below K) := by
  refine F.ok sc_sums_below (fun vs H Q E h => ?_) (fun cdv A outer s H vs Q E hr h => ?_)
  · exact sp_sums_below_len h
  · refine ⟨_, (pss_cons (ps_set (i := 2) sc_sums_below.nd rfl (Or.inl rfl) (pe_lst (pa_cons pe_int pa_nil)))
      (pss_cons (ps_set (i := 3) sc_sums_below.nd rfl (Or.inl rfl) pe_int)
      (pss_cons (ps_for PassesOwn.never rfl (pi_range1 (by rfl) g_range (pa_cons (pe_callB call_len_seq (by rfl) g_len PySem.boot_len (pa_cons (pv 1) pa_nil)) pa_nil)) (pg_name (i := 4) sc_sums_below.nd rfl (Or.inl rfl))
      (pss_cons (ps_aug (i := 3) sc_sums_below.nd rfl (Or.inl rfl) (pe_ix ix_list (pv 1) (pv 4) (fun _ _ => rfl)) ip_add)
      (pss_one (ps_expr (pe_bm PySem.F.plainAttrs_list PySem.F.slot_list_append PySem.F.type_list_append mt_append (pv 2) (pa_cons (pe_op op_add (pe_ix ix_list (pv 0) (pe_op op_add (pv 4) pe_int) (fun _ _ => rfl)) (pv 3)) pa_nil))))))
      (pss_one (ps_ret (pv 2)))))), ?_⟩
    obtain ⟨a, b, n, A, G, rfl, hA, hG, hn, hA0, q⟩ := h
    refine ⟨(by show 1 ≤ sizeLine; decide), fun o no => ?_⟩
    have s0 : Same H (upd H o (.lst [.int 0])) := same_upd no
    refine ⟨_, rfl, b, _, rfl, .inl (s0.seq hG), (n : Int), by rw [List.length_map, List.length_map, List.length_range], by omega, by omega, ?_⟩
    rw [Int.toNat_natCast]
    refine for_range (lo := 0) (n := n) (fun c σ H' => ∃ v4 : Option V, σ = [some (.ref a), some (.ref b), some (.ref o), some (.int (EvM.psum G c)), v4] ∧ Same H H' ∧ H' o = some (.lst (((List.range (c + 1)).map fun c => A c + EvM.psum G c).map V.int)))
      ⟨none, rfl, s0, ?_⟩ ?_ ?_
    · rw [upd_same]
      show some (HO.lst [V.int 0]) = some (HO.lst [V.int (A 0 + EvM.psum G 0)])
      rw [hA0]
      rfl
    · rintro c σ H1 hc ⟨v4, rfl, s1, ho⟩
      have e0 : (0 : Int) + (c : Nat) = (c : Nat) := Int.zero_add _
      rw [e0]
      refine ⟨_, rfl, _, rfl, _, rfl, b, _, _, _, rfl, rfl, s1.seq hG, at_of (by omega) (map_range_get (show ((c : Nat) : Int).toNat < n by rw [Int.toNat_natCast]; exact hc)), _, _, rfl, rfl, ?_⟩
      rw [Int.toNat_natCast]
      show tSeq _ _ _ [some (.ref a), some (.ref b), some (.ref o), some (.int (EvM.psum G c + G c)), some (.int (c : Nat))] H1
      rw [← EvM.psum_succ]
      refine ⟨_, rfl, .inl ⟨rfl, _, SqL.of ho⟩, _, rfl, _, rfl, _, _, rfl, rfl, a, _, _, _, rfl, rfl, s1.seq hA, at_of (by omega) (map_range_get (show (((c : Nat) : Int) + 1).toNat < n + 1 by omega)), _, rfl, _, _, rfl, rfl, o, _, _, rfl, rfl, ho, smallS ?_, some (.int (c : Nat)), rfl, fun b x e => ?_, ?_⟩
      · rw [List.length_map, List.length_map, List.length_range]
        omega
      · rw [upd_ne (ne_of_none e no)]
        exact s1 _ _ e
      · rw [upd_same, range_more _ (c + 1), List.map_append]
        show some (HO.lst (_ ++ [V.int (A (((c : Nat) : Int) + 1).toNat + EvM.psum G (c + 1))])) = _
        rw [show (((c : Nat) : Int) + 1).toNat = c + 1 by omega]
        rfl
    · rintro σ H1 ⟨v4, rfl, s1, ho⟩
      exact ⟨_, rfl, q _ o s1 no ho⟩
def sp_row_of (K : PySem.W.Frag) : Sp := fun vs H Q _ => ∃ (w : Nat) (a : Addr) (xs : List V) (r : Nat), vs = [.int w, .ref a, .int r] ∧ SqL K H a xs ∧ w ≤ 65536 ∧ ∀ p, H p = none → Q (.ref p) (upd H p (.lst ((xs.drop (r * w)).take w)))
theorem sp_row_of_len {K : PySem.W.Frag} {vs : List V} {H : Hp} {Q : VK} {E : XK} (h : sp_row_of K vs H Q E) : vs.length = 3 := by
  obtain ⟨_, _, _, _, rfl, _⟩ := h
  rfl
/-! row_of: slots 0 w, 1 x, 2 r -/
theorem ok_row_of {f : Addr} {fd : FuncData} (F : Fun K "row_of" "row_of" s_row_of f fd)
     : FnOk P w K mg base CX0 1 f fd ["w", "x", "r"] (sp_row_of K) := by
  refine F.ok sc_row_of (fun vs H Q E h => ?_) (fun cdv A outer s H vs Q E hr h => ?_)
  · exact sp_row_of_len h
  · refine ⟨_, (pss_one (ps_ret (pe_slice sl_list (pv 1) (po_some (pe_op op_mul (pv 2) (pv 0))) (po_some (pe_op op_mul (pe_op op_add (pv 2) pe_int) (pv 0)))))), ?_⟩
    obtain ⟨w, a, xs, r, rfl, hS, hw, q⟩ := h
    refine ⟨_, rfl, _, rfl, _, rfl, _, _, rfl, rfl, .inr ⟨by omega, by omega⟩, _, rfl, _, rfl, _, _, rfl, rfl, _, rfl, _, _, rfl, rfl, .inr ⟨by omega, by omega⟩, _, rfl, a, xs, rfl, hS, fun p np => ?_⟩
    have e : cutV xs (some ((r : Int) * (w : Int))) (some (((r : Int) + 1) * (w : Int))) = (xs.drop (r * w)).take w := by
      have e1 : (r : Int) * (w : Int) = ((r * w : Nat) : Int) := (Int.natCast_mul r w).symm
      have e2 : ((r : Int) + 1) * (w : Int) = ((r * w + w : Nat) : Int) := by
        rw [Int.add_mul, Int.one_mul, Int.natCast_add, Int.natCast_mul]
      rw [e1, e2, cutV_nat, Nat.add_sub_cancel_left]
    rw [e]
    exact q p np
def sp_sums_of_page (K : PySem.W.Frag) : Sp := fun vs H Q _ => ∃ (w : Nat) (a : Addr) (h : Nat) (g : Nat → Nat → Int), vs = [.int w, .ref a] ∧ SqL K H a ((EvM.eachI w h g).map V.int) ∧ 1 ≤ w ∧ w ≤ 256 ∧ h ≤ 256 ∧
  ∀ (H' : Hp) (p : Addr), Same H H' → H p = none → H' p = some (.lst ((EvM.eachI (w + 1) (h + 1) (EvM.S2 g)).map V.int)) → Q (.ref p) H'
theorem sp_sums_of_page_len {K : PySem.W.Frag} {vs : List V} {H : Hp} {Q : VK} {E : XK} (h : sp_sums_of_page K vs H Q E) : vs.length = 2 := by
  obtain ⟨_, _, _, _, rfl, _⟩ := h
  rfl
/-! sums_of_page: slots 0 w, 1 x, 2 above, 3 sums, 4 r -/
theorem ok_sums_of_page {f : Addr} {fd : FuncData} (F : Fun K "sums_of_page" "sums_of_page" s_sums_of_page f fd)
    (g_range : mg "range" = none)
    (g_len : mg "len" = none)
    (g_list : mg "list" = none)
    {f_sums_below : Addr} {fd_sums_below : FuncData} (G_sums_below : FnOk P w K mg base CX0 1 f_sums_below fd_sums_below ["above", "row"] (sp_sums_below K)) (m_sums_below : mg "sums_below" = some (.ref f_sums_below)) (k_sums_below : PySem.W.keepIn K (.ref f_sums_below) = true) (b_sums_below : Binds K fd_sums_below ["above", "row"] [])
    {f_row_of : Addr} {fd_row_of : FuncData} (G_row_of : FnOk P w K mg base CX0 1 f_row_of fd_row_of ["w", "x", "r"] (sp_row_of K)) (m_row_of : mg "row_of" = some (.ref f_row_of)) (k_row_of : PySem.W.keepIn K (.ref f_row_of) = true) (b_row_of : Binds K fd_row_of ["w", "x", "r"] []) : FnOk P w K mg base CX0 2 f fd ["w", "x"] (sp_sums_of_page K) := by
  refine F.ok sc_sums_of_page (fun vs H Q E h => ?_) (fun cdv A outer s H vs Q E hr h => ?_)
  · exact sp_sums_of_page_len h
  · refine ⟨_, (pss_cons (ps_set (i := 2) sc_sums_of_page.nd rfl (Or.inl rfl) (pe_op op_rep (pe_lst (pa_cons pe_int pa_nil)) (pe_op op_add (pv 0) pe_int)))
      (pss_cons (ps_set (i := 3) sc_sums_of_page.nd rfl (Or.inl rfl) (pe_callTy call_list_of (by rfl) g_list (by decide +kernel) (pa_cons (pv 2) pa_nil)))
      (pss_cons (ps_for PassesOwn.never rfl (pi_range1 (by rfl) g_range (pa_cons (pe_op op_fdiv (pe_callB call_len_seq (by rfl) g_len PySem.boot_len (pa_cons (pv 1) pa_nil)) (pv 0)) pa_nil)) (pg_name (i := 4) sc_sums_of_page.nd rfl (Or.inl rfl))
      (pss_cons (ps_set (i := 2) sc_sums_of_page.nd rfl (Or.inl rfl) (pe_call G_sums_below (hr.mono (by decide)) (by rfl) m_sums_below k_sums_below b_sums_below .nil pass0 (pa_cons (pv 2) (pa_cons (pe_call G_row_of (hr.mono (by decide)) (by rfl) m_row_of k_row_of b_row_of .nil pass0 (pa_cons (pv 0) (pa_cons (pv 1) (pa_cons (pv 4) pa_nil)))) pa_nil))))
      (pss_one (ps_expr (pe_bm PySem.F.plainAttrs_list PySem.F.slot_list_extend PySem.F.type_list_extend mt_extend (pv 3) (pa_cons (pv 2) pa_nil))))))
      (pss_one (ps_ret (pv 3)))))), ?_⟩
    obtain ⟨w, a, h, g, rfl, hS, hw1, hw2, hh, q⟩ := h
    refine ⟨(by show 1 ≤ sizeLine; decide), fun o no => ?_⟩
    have s0 : Same H (upd H o (.lst [.int 0])) := same_upd no
    refine ⟨_, rfl, _, _, rfl, rfl, o, _, _, rfl, rfl, upd_same, by omega, by omega, small (by show 1 * _ ≤ _; omega), fun b nb => ?_⟩
    have eb : (List.replicate ((w : Int) + 1).toNat [V.int 0]).flatten = ((List.range (w + 1)).map fun c => EvM.S2 g c 0).map V.int := by
      rw [show ((w : Int) + 1).toNat = w + 1 by omega]
      exact rep_range _ _ fun c => EvM.S2_zero_row g c
    rw [eb]
    have s1 := s0.trans (same_upd (o := .lst (((List.range (w + 1)).map fun c => EvM.S2 g c 0).map V.int)) nb)
    refine ⟨_, rfl, b, _, rfl, .inl (SqL.of upd_same), fun u nu => ?_⟩
    have s2 := s1.trans (same_upd (o := .lst (((List.range (w + 1)).map fun c => EvM.S2 g c 0).map V.int)) nu)
    have nuH : H u = none := s1.free nu
    refine ⟨_, rfl, a, _, rfl, .inl (s2.seq hS), _, rfl, _, _, rfl, rfl, ⟨by omega, by omega⟩, (h : Int), congrArg (fun z => [V.int z]) (each_rows hw1 g), by omega, by omega, ?_⟩
    rw [Int.toNat_natCast]
    refine for_range (lo := 0) (n := h) (fun r σ H' => ∃ (b' : Addr) (v4 : Option V), σ = [some (.int w), some (.ref a), some (.ref b'), some (.ref u), v4] ∧ b' ≠ u ∧ Same H H' ∧ H' b' = some (.lst (((List.range (w + 1)).map fun c => EvM.S2 g c r).map V.int)) ∧ H' u = some (.lst ((EvM.eachI (w + 1) (r + 1) (EvM.S2 g)).map V.int)))
      ⟨b, none, rfl, ?_, s2, ?_, ?_⟩ ?_ ?_
    · exact ne_of_none upd_same nu
    · rw [upd_ne (ne_of_none upd_same nu), upd_same]
    · rw [upd_same, EvM.eachI_succ]
      rfl
    · rintro r σ H1 hr ⟨b', v4, rfl, nbu, s3, hb', hu⟩
      have e0 : (0 : Int) + (r : Nat) = (r : Nat) := Int.zero_add _
      rw [e0]
      refine ⟨_, rfl, _, rfl, _, rfl, _, rfl, w, a, _, r, rfl, s3.seq hS, by omega, fun p np => ?_⟩
      rw [each_row hr]
      refine ⟨b', p, w, fun c => EvM.S2 g c r, fun c => g c r, rfl, (same_upd np).seq (SqL.of hb'), SqL.of upd_same, by omega, EvM.S2_zero g r, fun H2 p2 s4 np2 hp2 => ?_⟩
      have s5 := (same_upd (o := .lst (((List.range w).map fun c => g c r).map V.int)) np).trans s4
      have hu2 := s5 _ _ hu
      have np2' := (same_upd np).free np2
      refine ⟨_, rfl, .inl ⟨rfl, _, SqL.of hu2⟩, _, rfl, u, p2, _, _, rfl, rfl, hu2, hp2, small ?_, p2, some (.int (r : Nat)), rfl, ?_, fun b x e => ?_, ?_, ?_⟩
      · rw [List.length_map, List.length_map, List.length_map, List.length_range, EvM.eachI_len]
        have : (r + 1) * (w + 1) ≤ 256 * 257 := Nat.mul_le_mul (by omega) (by omega)
        omega
      · exact (ne_of_none hu np2').symm
      · rw [upd_ne (ne_of_none e nuH)]
        exact s5 _ _ (s3 _ _ e)
      · rw [upd_ne (ne_of_none hu np2').symm, hp2]
        have e : (fun c => EvM.S2 g c r + EvM.psum (fun c => g c r) c) = fun c => EvM.S2 g c (r + 1) := funext fun c => (EvM.S2_succ g c r).symm
        rw [e]
      · rw [upd_same, EvM.eachI_succ _ (r + 1), List.map_append]
        have e : (fun c => EvM.S2 g c r + EvM.psum (fun c => g c r) c) = fun c => EvM.S2 g c (r + 1) := funext fun c => (EvM.S2_succ g c r).symm
        rw [e]
    · rintro σ H1 ⟨b', v4, rfl, nbu, s3, hb', hu⟩
      exact ⟨_, rfl, q _ u s3 nuH hu⟩
def sp_word_of_dots (K : PySem.W.Frag) : Sp := fun vs H Q _ => ∃ (a : Addr) (ns : List Int), vs = [.ref a] ∧ SqL K H a (ns.map V.int) ∧ Q (.int (EvM.word ns)) H
theorem sp_word_of_dots_len {K : PySem.W.Frag} {vs : List V} {H : Hp} {Q : VK} {E : XK} (h : sp_word_of_dots K vs H Q E) : vs.length = 1 := by
  obtain ⟨_, _, rfl, _⟩ := h
  rfl
theorem word_back {ns : List Int} {i : Nat} {z : Int} (h : ns[ns.length - 1 - i]? = some z) (hi : i < ns.length) : EvM.word (ns.drop (ns.length - (i + 1))) = EvM.word (ns.drop (ns.length - i)) * 2 + z := by
  have e : ns.drop (ns.length - (i + 1)) = z :: ns.drop (ns.length - i) := by
    have e1 : ns.length - (i + 1) = ns.length - 1 - i := by omega
    have e2 : ns.length - i = ns.length - 1 - i + 1 := by omega
    obtain ⟨hl, hz⟩ := List.getElem?_eq_some_iff.mp h
    rw [e1, e2, List.drop_eq_getElem_cons hl, hz]
  rw [e]
  rfl
/-! word_of_dots: slots 0 dots, 1 word, 2 dot -/
theorem ok_word_of_dots {f : Addr} {fd : FuncData} (F : Fun K "word_of_dots" "word_of_dots" s_word_of_dots f fd)
    (g_reversed : mg "reversed" = none) : FnOk P w K mg base CX0 1 f fd ["dots"] (sp_word_of_dots K) := by
  refine F.ok sc_word_of_dots (fun vs H Q E h => ?_) (fun cdv A outer s H vs Q E hr h => ?_)
  · exact sp_word_of_dots_len h
  · refine ⟨_, (pss_cons (ps_set (i := 1) sc_word_of_dots.nd rfl (Or.inl rfl) pe_int)
      (pss_cons (ps_for PassesOwn.never rfl (pi_reversed (by rfl) g_reversed (pa_cons (pv 0) pa_nil)) (pg_name (i := 2) sc_word_of_dots.nd rfl (Or.inl rfl))
      (pss_one (ps_set (i := 1) sc_word_of_dots.nd rfl (Or.inl rfl) (pe_op op_add (pe_op op_mul (pv 1) pe_int) (pv 2)))))
      (pss_one (ps_ret (pv 1))))), ?_⟩
    obtain ⟨a, ns, rfl, hS, q⟩ := h
    refine ⟨_, rfl, a, _, rfl, hS, for_it (walk_rev (xs := ns.map V.int)) (fun i σ H' => ∃ v : Option V, σ = [some (.ref a), some (.int (EvM.word (ns.drop (ns.length - i)))), v] ∧ H' = H)
      ⟨none, ?_, rfl⟩ (fun i σ H' _ ⟨_, _, e⟩ => e ▸ hS) ?_ ?_⟩
    · rw [Nat.sub_zero, List.drop_length]
      rfl
    · rintro i y σ H1 H2 hi ⟨v, rfl, rfl⟩ ⟨rfl, hy⟩
      rw [List.length_map] at hi hy
      obtain ⟨z, hz, rfl⟩ := get_int hy
      refine ⟨_, rfl, _, _, rfl, rfl, .inr ⟨by decide, by decide⟩, _, rfl, _, _, rfl, rfl, some (.int z), ?_, rfl⟩
      rw [word_back hz hi]
      rfl
    · rintro σ H1 ⟨v, rfl, rfl⟩
      rw [List.length_map, Nat.sub_self, List.drop_zero]
      exact ⟨_, rfl, q⟩
def sp_words_of_page (K : PySem.W.Frag) : Sp := fun vs H Q _ => ∃ (w : Nat) (a : Addr) (ns : List Int) (h : Nat), vs = [.int w, .ref a] ∧ SqL K H a (ns.map V.int) ∧ 1 ≤ w ∧ w ≤ 256 ∧ h ≤ 256 ∧ ns.length = w * h ∧
  ∀ (H' : Hp) (p : Addr), Same H H' → H p = none → H' p = some (.lst ((EvM.wordsW w h ns).map V.int)) → Q (.ref p) H'
theorem sp_words_of_page_len {K : PySem.W.Frag} {vs : List V} {H : Hp} {Q : VK} {E : XK} (h : sp_words_of_page K vs H Q E) : vs.length = 2 := by
  obtain ⟨_, _, _, _, rfl, _⟩ := h
  rfl
/-! words_of_page: slots 0 w, 1 dots, 2 words, 3 start, 4 end, 5 first -/
theorem ok_words_of_page {f : Addr} {fd : FuncData} (F : Fun K "words_of_page" "words_of_page" s_words_of_page f fd)
    (g_range : mg "range" = none)
    (g_len : mg "len" = none)
    (g_min : mg "min" = none)
    {t_WORD_BITS : Tok} (c_WORD_BITS : mg "WORD_BITS" = some (.int (32) t_WORD_BITS))
    {f_word_of_dots : Addr} {fd_word_of_dots : FuncData} (G_word_of_dots : FnOk P w K mg base CX0 1 f_word_of_dots fd_word_of_dots ["dots"] (sp_word_of_dots K)) (m_word_of_dots : mg "word_of_dots" = some (.ref f_word_of_dots)) (k_word_of_dots : PySem.W.keepIn K (.ref f_word_of_dots) = true) (b_word_of_dots : Binds K fd_word_of_dots ["dots"] []) : FnOk P w K mg base CX0 2 f fd ["w", "dots"] (sp_words_of_page K) := by
  refine F.ok sc_words_of_page (fun vs H Q E h => ?_) (fun cdv A outer s H vs Q E hr h => ?_)
  · exact sp_words_of_page_len h
  · refine ⟨_, (pss_cons (ps_set (i := 2) sc_words_of_page.nd rfl (Or.inl rfl) (pe_lst pa_nil))
      (pss_cons (ps_for PassesOwn.never rfl (pi_range3 (by rfl) g_range (pa_cons pe_int (pa_cons (pe_callB call_len_seq (by rfl) g_len PySem.boot_len (pa_cons (pv 1) pa_nil)) (pa_cons (pv 0) pa_nil)))) (pg_name (i := 3) sc_words_of_page.nd rfl (Or.inl rfl))
      (pss_cons (ps_set (i := 4) sc_words_of_page.nd rfl (Or.inl rfl) (pe_op op_add (pv 3) (pv 0)))
      (pss_one (ps_for PassesOwn.never rfl (pi_range3 (by rfl) g_range (pa_cons (pv 3) (pa_cons (pv 4) (pa_cons (pe_glob (v := .int (32)) (by rfl) c_WORD_BITS ⟨_, rfl⟩) pa_nil)))) (pg_name (i := 5) sc_words_of_page.nd rfl (Or.inl rfl))
      (pss_one (ps_expr (pe_bm PySem.F.plainAttrs_list PySem.F.slot_list_append PySem.F.type_list_append mt_append (pv 2) (pa_cons (pe_call G_word_of_dots (hr.mono (by decide)) (by rfl) m_word_of_dots k_word_of_dots b_word_of_dots .nil pass0 (pa_cons (pe_slice sl_list (pv 1) (po_some (pv 5)) (po_some (pe_callB (call_min2 rfl) (by rfl) g_min (by decide +kernel) (pa_cons (pe_op op_add (pv 5) (pe_glob (v := .int (32)) (by rfl) c_WORD_BITS ⟨_, rfl⟩)) (pa_cons (pv 4) pa_nil))))) pa_nil)) pa_nil))))))))
      (pss_one (ps_ret (pv 2))))), ?_⟩
    obtain ⟨w, a, ns, h, rfl, hS, hw1, hw2, hh, hlen, q⟩ := h
    have wh : w * h ≤ 65536 := Nat.mul_le_mul hw2 hh
    have m8 : (w + 31) / 32 ≤ 8 := by omega
    refine ⟨by decide, fun o no => ?_⟩
    have s0 : Same H (upd H o (.lst [])) := same_upd no
    refine ⟨_, rfl, a, _, rfl, .inl (s0.seq hS), _, rfl, _, _, _, h, rfl, rgC_up (by omega) (by omega) (by decide) (by decide) (by omega) (by rw [List.length_map, hlen]; omega) ?_, ?_⟩
    · rw [List.length_map, hlen]
      by_cases h0 : h = 0
      · subst h0
        simp
      · have hp : 1 ≤ w * h := Nat.mul_le_mul hw1 (by omega : 1 ≤ h)
        rw [if_pos (by omega)]
        have e : ((w * h : Nat) : Int) - 0 - 1 = ((w * h - 1 : Nat) : Int) := by omega
        rw [e, ← Int.natCast_ediv]
        have e2 : (w * h - 1) / w = h - 1 := by
          obtain ⟨j, rfl⟩ : ∃ j, h = j + 1 := ⟨h - 1, by omega⟩
          rw [Nat.mul_add, Nat.mul_one, show w * j + w - 1 = (w - 1) + w * j by omega, Nat.add_mul_div_left _ _ (by omega), Nat.div_eq_of_lt (by omega)]
          omega
        rw [e2]
        omega
    · refine for_rangeC (fun r σ H' => ∃ v3 v4 v5 : Option V, σ = [some (.int w), some (.ref a), some (.ref o), v3, v4, v5] ∧ r ≤ h ∧ Same H H' ∧ H' o = some (.lst ((EvM.wordsW w r ns).map V.int)))
        ⟨none, none, none, rfl, by omega, s0, upd_same⟩ ?_ ?_
      · rintro r σ H1 hr ⟨v3, v4, v5, rfl, _, s1, ho⟩
        have er : (0 : Int) + (r : Nat) * (w : Int) = ((r * w : Nat) : Int) := by
          rw [Int.natCast_mul]
          omega
        have rw1 : (r + 1) * w ≤ h * w := Nat.mul_le_mul_right w hr
        rw [Nat.add_mul, Nat.one_mul, Nat.mul_comm h w] at rw1
        rw [er]
        refine ⟨_, rfl, _, rfl, _, _, rfl, rfl, ?_⟩
        refine ⟨_, rfl, _, rfl, _, _, _, (w + 31) / 32, rfl, rgC_up (by decide) (by decide) (by omega) (by omega) (by omega) (by omega) ?_, ?_⟩
        · rw [if_pos (by omega)]
          omega
        · refine for_rangeC (fun k σ H' => ∃ v5 : Option V, σ = [some (.int w), some (.ref a), some (.ref o), some (.int ((r * w : Nat) : Int)), some (.int (((r * w : Nat) : Int) + (w : Int))), v5] ∧ k ≤ (w + 31) / 32 ∧ Same H H' ∧ H' o = some (.lst ((EvM.wordsW w r ns ++ EvM.rowW w ns r k).map V.int)))
            ⟨v5, rfl, by omega, s1, ?_⟩ ?_ ?_
          · rw [ho]
            unfold EvM.rowW
            rw [List.range_zero, List.map_nil, List.append_nil]
          · rintro k σ H2 hk ⟨v5, rfl, _, s2, ho2⟩
            have ek : ((r * w : Nat) : Int) + (k : Nat) * (32 : Int) = ((r * w + 32 * k : Nat) : Int) := by omega
            rw [ek]
            refine ⟨_, rfl, .inl ⟨rfl, _, SqL.of ho2⟩, _, rfl, _, rfl, _, rfl, _, rfl, _, _, rfl, rfl, _, rfl, _, _, rfl, _, rfl, a, _, rfl, s2.seq hS, fun p np => ?_⟩
            refine ⟨p, (ns.drop (r * w + 32 * k)).take (min (r * w + 32 * k + 32) (r * w + w) - (r * w + 32 * k)), rfl, SqL.of ?_, ?_⟩
            · rw [upd_same, ← cut_nat]
              have e3 : (if ((r * w : Nat) : Int) + (w : Int) < ((r * w + 32 * k : Nat) : Int) + 32 then ((r * w : Nat) : Int) + (w : Int) else ((r * w + 32 * k : Nat) : Int) + 32) = ((min (r * w + 32 * k + 32) (r * w + w) : Nat) : Int) := by
                split <;> omega
              rw [← e3]
            · have ho3 : upd H2 p (.lst (cutV (ns.map V.int) (some ((r * w + 32 * k : Nat) : Int)) (some (if ((r * w : Nat) : Int) + (w : Int) < ((r * w + 32 * k : Nat) : Int) + 32 then ((r * w : Nat) : Int) + (w : Int) else ((r * w + 32 * k : Nat) : Int) + 32)))) o = some (.lst ((EvM.wordsW w r ns ++ EvM.rowW w ns r k).map V.int)) := by
                rw [upd_ne (ne_of_none ho2 np)]
                exact ho2
              refine ⟨o, _, _, rfl, rfl, ho3, ?_, some (.int ((r * w + 32 * k : Nat) : Int)), rfl, by omega, fun b x e => ?_, ?_⟩
              · rw [List.length_map, List.length_append, EvM.wordsW_len, EvM.rowW_len]
                have h1 : r * ((w + 31) / 32) ≤ 256 * 8 := Nat.mul_le_mul (by omega) m8
                have h2 : (256 * 8 + 8 : Nat) < sizeLine := by decide
                omega
              · rw [upd_ne (ne_of_none e no)]
                exact same_upd np _ _ (s2 _ _ e)
              · rw [upd_same, EvM.rowW_succ, ← List.append_assoc, List.map_append (l₂ := [_])]
                rfl
          · rintro σ H2 ⟨v5, rfl, _, s2, ho2⟩
            refine ⟨_, _, v5, rfl, hr, s2, ?_⟩
            rw [ho2, EvM.wordsW_succ]
      · rintro σ H1 ⟨v3, v4, v5, rfl, _, s1, ho⟩
        exact ⟨_, rfl, q _ o s1 no ho⟩
def sp_is_page (K : PySem.W.Frag) : Sp := fun vs H Q _ => ∃ (w : Int) (a : Addr) (xs : List Int), vs = [.int w, .ref a] ∧ SqL K H a (xs.map V.int) ∧ 0 ≤ w ∧ Q (.bl (EvM.isPage w xs.length)) H
theorem sp_is_page_len {K : PySem.W.Frag} {vs : List V} {H : Hp} {Q : VK} {E : XK} (h : sp_is_page K vs H Q E) : vs.length = 2 := by
  obtain ⟨_, _, _, rfl, _⟩ := h
  rfl
/-! is_page: slots 0 w, 1 x, 2 h -/
theorem ok_is_page {f : Addr} {fd : FuncData} (F : Fun K "is_page" "is_page" s_is_page f fd)
    (g_len : mg "len" = none)
    {t_MOST_SIDE : Tok} (c_MOST_SIDE : mg "MOST_SIDE" = some (.int (256) t_MOST_SIDE)) : FnOk P w K mg base CX0 1 f fd ["w", "x"] (sp_is_page K) := by
  refine F.ok sc_is_page (fun vs H Q E h => ?_) (fun cdv A outer s H vs Q E hr h => ?_)
  · exact sp_is_page_len h
  · refine ⟨_, (pss_cons (ps_if (PW.pt (pw_or (pt_cmpR op_lt (pv 0) pe_int (nomark _)) (pw_or1 (pt_cmpR op_gt (pv 0) (pe_glob (v := .int (256)) (by rfl) c_MOST_SIDE ⟨_, rfl⟩) (nomark _))))) (pss_one (ps_ret pe_bl)) pss_nil)
      (pss_cons (ps_set (i := 2) sc_is_page.nd rfl (Or.inl rfl) (pe_op op_fdiv (pe_callB call_len_seq (by rfl) g_len PySem.boot_len (pa_cons (pv 1) pa_nil)) (pv 0)))
      (pss_one (ps_ret (pe_and (pe_cmpR op_ge (pv 2) pe_int (nomark _)) (pe_one (pe_cmpR op_le (pv 2) (pe_glob (v := .int (256)) (by rfl) c_MOST_SIDE ⟨_, rfl⟩) (nomark _)))))))), ?_⟩
    obtain ⟨w, a, xs, rfl, hS, h0, q⟩ := h
    have no : ¬ (1 ≤ w ∧ w ≤ 256) → Q (.bl false) H := fun z => by
      have e : EvM.isPage w xs.length = false := by
        cases e : EvM.isPage w xs.length with
        | false => rfl
        | true => exact absurd ((EvM.isPage_iff h0).mp e).1 z
      rw [e] at q
      exact q
    refine ⟨_, rfl, _, _, rfl, rfl, _, rfl, ite2 (fun e => ?_) (fun e => ?_)⟩
    · have e : w < 1 := of_decide_eq_true e
      exact iteT (no (by omega))
    · have e : ¬ w < 1 := fun z => e (decide_eq_true z)
      refine ⟨_, rfl, _, _, rfl, rfl, _, rfl, ite2 (fun e2 => ?_) (fun e2 => ?_)⟩
      · have e2 : 256 < w := of_decide_eq_true e2
        exact no (by omega)
      · have e2 : ¬ 256 < w := fun z => e2 (decide_eq_true z)
        refine ⟨_, rfl, a, _, rfl, .inl hS, _, rfl, _, _, rfl, rfl, ⟨by omega, by omega⟩, ?_⟩
        rw [List.length_map]
        have key : EvM.isPage w xs.length = true ↔ 1 ≤ (xs.length : Int) / w ∧ (xs.length : Int) / w ≤ 256 := by
          rw [EvM.isPage_iff h0]
          exact ⟨fun z => z.2, fun z => ⟨by omega, z⟩⟩
        refine ⟨_, rfl, _, _, rfl, rfl, _, rfl, ite2 (fun e3 => ?_) (fun e3 => ?_)⟩
        · have e3 : 1 ≤ (xs.length : Int) / w := of_decide_eq_true e3
          refine ⟨_, rfl, _, _, rfl, rfl, ?_⟩
          have e4 : EvM.isPage w xs.length = decide ((xs.length : Int) / w ≤ 256) := by
            rw [Bool.eq_iff_iff, key, decide_eq_true_eq]
            exact ⟨fun z => z.2, fun z => ⟨e3, z⟩⟩
          rw [e4] at q
          exact q
        · have e3 : ¬ 1 ≤ (xs.length : Int) / w := fun z => e3 (decide_eq_true z)
          have e4 : EvM.isPage w xs.length = false := by
            cases e : EvM.isPage w xs.length with
            | false => rfl
            | true => exact absurd (key.mp e).1 e3
          rw [e4] at q
          exact q
def sp_dots_of_row (K : PySem.W.Frag) : Sp := fun vs H Q _ => ∃ (w d : Nat) (part : Int) (a b : Addr) (r h : Nat) (g : Nat → Nat → Int), vs = [.int w, .int d, .int part, .ref a, .ref b, .int r] ∧ SqL K H a ((EvM.eachI w h g).map V.int) ∧ SqL K H b ((EvM.eachI (w + 1) (h + 1) (EvM.S2 g)).map V.int) ∧ 1 ≤ w ∧ w ≤ 256 ∧ r < h ∧ h ≤ 256 ∧ d ≤ 64 ∧ 0 ≤ part ∧ part ≤ 256 ∧ (∀ c r, 0 ≤ g c r ∧ g c r ≤ 255) ∧
  ∀ (H' : Hp) (p : Addr), Same H H' → H p = none → H' p = some (.lst (((List.range w).map fun c => EvM.dotI w h d part g c r).map V.int)) → Q (.ref p) H'
theorem sp_dots_of_row_len {K : PySem.W.Frag} {vs : List V} {H : Hp} {Q : VK} {E : XK} (h : sp_dots_of_row K vs H Q E) : vs.length = 6 := by
  obtain ⟨_, _, _, _, _, _, _, _, rfl, _⟩ := h
  rfl
theorem max_edge (c d : Nat) : (if (0 : Int) > (c : Int) - (d : Int) then 0 else (c : Int) - (d : Int)) = ((EvM.lowE c d : Nat) : Int) := by
  unfold EvM.lowE
  split <;> omega
theorem min_edge (c d n : Nat) : (if (n : Int) < (c : Int) + (d : Int) + 1 then (n : Int) else (c : Int) + (d : Int) + 1) = ((EvM.highE c d n : Nat) : Int) := by
  unfold EvM.highE
  split <;> omega
/-! dots_of_row: slots 0 w, 1 d, 2 part, 3 x, 4 sums, 5 r, 6 top, 7 bottom, 8 above, 9 below, 10 dots, 11 c, 12 left, 13 right, 14 number, 15 total -/
theorem ok_dots_of_row {f : Addr} {fd : FuncData} (F : Fun K "dots_of_row" "dots_of_row" s_dots_of_row f fd)
    (g_range : mg "range" = none)
    (g_min : mg "min" = none)
    (g_max : mg "max" = none)
    (g_len : mg "len" = none)
    {t_WHOLE : Tok} (c_WHOLE : mg "WHOLE" = some (.int (256) t_WHOLE))
    {f_row_of : Addr} {fd_row_of : FuncData} (G_row_of : FnOk P w K mg base CX0 1 f_row_of fd_row_of ["w", "x", "r"] (sp_row_of K)) (m_row_of : mg "row_of" = some (.ref f_row_of)) (k_row_of : PySem.W.keepIn K (.ref f_row_of) = true) (b_row_of : Binds K fd_row_of ["w", "x", "r"] []) : FnOk P w K mg base CX0 2 f fd ["w", "d", "part", "x", "sums", "r"] (sp_dots_of_row K) := by
  refine F.ok sc_dots_of_row (fun vs H Q E h => ?_) (fun cdv A outer s H vs Q E hr h => ?_)
  · exact sp_dots_of_row_len h
  · refine ⟨_, (pss_cons (ps_set (i := 6) sc_dots_of_row.nd rfl (Or.inl rfl) (pe_callB (call_max2 rfl) (by rfl) g_max (by decide +kernel) (pa_cons (pe_op op_sub (pv 5) (pv 1)) (pa_cons pe_int pa_nil))))
      (pss_cons (ps_set (i := 7) sc_dots_of_row.nd rfl (Or.inl rfl) (pe_callB (call_min2 rfl) (by rfl) g_min (by decide +kernel) (pa_cons (pe_op op_add (pe_op op_add (pv 5) (pv 1)) pe_int) (pa_cons (pe_op op_fdiv (pe_callB call_len_seq (by rfl) g_len PySem.boot_len (pa_cons (pv 3) pa_nil)) (pv 0)) pa_nil))))
      (pss_cons (ps_set (i := 8) sc_dots_of_row.nd rfl (Or.inl rfl) (pe_call G_row_of (hr.mono (by decide)) (by rfl) m_row_of k_row_of b_row_of .nil pass0 (pa_cons (pe_op op_add (pv 0) pe_int) (pa_cons (pv 4) (pa_cons (pv 6) pa_nil)))))
      (pss_cons (ps_set (i := 9) sc_dots_of_row.nd rfl (Or.inl rfl) (pe_call G_row_of (hr.mono (by decide)) (by rfl) m_row_of k_row_of b_row_of .nil pass0 (pa_cons (pe_op op_add (pv 0) pe_int) (pa_cons (pv 4) (pa_cons (pv 7) pa_nil)))))
      (pss_cons (ps_set (i := 10) sc_dots_of_row.nd rfl (Or.inl rfl) (pe_lst pa_nil))
      (pss_cons (ps_for PassesOwn.never rfl (pi_range1 (by rfl) g_range (pa_cons (pv 0) pa_nil)) (pg_name (i := 11) sc_dots_of_row.nd rfl (Or.inl rfl))
      (pss_cons (ps_set (i := 12) sc_dots_of_row.nd rfl (Or.inl rfl) (pe_callB (call_max2 rfl) (by rfl) g_max (by decide +kernel) (pa_cons (pe_op op_sub (pv 11) (pv 1)) (pa_cons pe_int pa_nil))))
      (pss_cons (ps_set (i := 13) sc_dots_of_row.nd rfl (Or.inl rfl) (pe_callB (call_min2 rfl) (by rfl) g_min (by decide +kernel) (pa_cons (pe_op op_add (pe_op op_add (pv 11) (pv 1)) pe_int) (pa_cons (pv 0) pa_nil))))
      (pss_cons (ps_set (i := 14) sc_dots_of_row.nd rfl (Or.inl rfl) (pe_op op_mul (pe_op op_sub (pv 13) (pv 12)) (pe_op op_sub (pv 7) (pv 6))))
      (pss_cons (ps_set (i := 15) sc_dots_of_row.nd rfl (Or.inl rfl) (pe_op op_add (pe_op op_sub (pe_op op_sub (pe_ix ix_list (pv 9) (pv 13) (fun _ _ => rfl)) (pe_ix ix_list (pv 9) (pv 12) (fun _ _ => rfl))) (pe_ix ix_list (pv 8) (pv 13) (fun _ _ => rfl))) (pe_ix ix_list (pv 8) (pv 12) (fun _ _ => rfl))))
      (pss_one (ps_expr (pe_bm PySem.F.plainAttrs_list PySem.F.slot_list_append PySem.F.type_list_append mt_append (pv 10) (pa_cons (pe_ifExp (pt_cmpR op_lt (pe_op op_mul (pe_op op_mul (pe_glob (v := .int (256)) (by rfl) c_WHOLE ⟨_, rfl⟩) (pv 14)) (pe_ix ix_list (pv 3) (pe_op op_add (pe_op op_mul (pv 5) (pv 0)) (pv 11)) (fun _ _ => rfl))) (pe_op op_mul (pv 2) (pv 15)) (nomark _)) pe_int pe_int) pa_nil)))))))))
      (pss_one (ps_ret (pv 10))))))))), ?_⟩
    obtain ⟨w, d, part, a, b, r, h, g, rfl, hX, hSm, hw1, hw2, hr', hh, hd, hp0, hp1, hg, q⟩ := h
    refine ⟨_, rfl, _, rfl, _, _, rfl, rfl, _, _, rfl, ?_⟩
    rw [max_edge]
    refine ⟨_, rfl, _, rfl, _, _, rfl, rfl, _, _, rfl, rfl, _, rfl, a, _, rfl, .inl hX, _, rfl, _, _, rfl, rfl, ⟨by omega, by omega⟩, _, _, rfl, ?_⟩
    rw [each_rows hw1 g, min_edge]
    have k1 : EvM.lowE r d < h + 1 := by unfold EvM.lowE; omega
    have k2 : EvM.highE r d h < h + 1 := by unfold EvM.highE; omega
    refine ⟨_, rfl, _, _, rfl, rfl, _, rfl, _, rfl, w + 1, b, _, EvM.lowE r d, rfl, hSm, by omega, fun p np => ?_⟩
    rw [each_row k1]
    have s1 : Same H (upd H p (.lst (((List.range (w + 1)).map fun c => EvM.S2 g c (EvM.lowE r d)).map V.int))) := same_upd np
    refine ⟨_, rfl, _, _, rfl, rfl, _, rfl, _, rfl, w + 1, b, _, EvM.highE r d h, rfl, s1.seq hSm, by omega, fun p' np' => ?_⟩
    rw [each_row k2]
    have s2 := s1.trans (same_upd (o := .lst (((List.range (w + 1)).map fun c => EvM.S2 g c (EvM.highE r d h)).map V.int)) np')
    generalize hH3 : upd (upd H p (.lst (((List.range (w + 1)).map fun c => EvM.S2 g c (EvM.lowE r d)).map V.int))) p' (.lst (((List.range (w + 1)).map fun c => EvM.S2 g c (EvM.highE r d h)).map V.int)) = H3 at s2
    have hT : H3 p = some (.lst (((List.range (w + 1)).map fun c => EvM.S2 g c (EvM.lowE r d)).map V.int)) := by
      rw [← hH3, upd_ne (ne_of_none upd_same np'), upd_same]
    have hB : H3 p' = some (.lst (((List.range (w + 1)).map fun c => EvM.S2 g c (EvM.highE r d h)).map V.int)) := by
      rw [← hH3, upd_same]
    refine ⟨by decide, fun o no => ?_⟩
    have no' : H o = none := s2.free no
    refine ⟨_, rfl, (w : Int), rfl, by omega, by omega, ?_⟩
    rw [Int.toNat_natCast]
    refine for_range (lo := 0) (n := w) (fun c σ H' => ∃ v11 v12 v13 v14 v15 : Option V, σ = [some (.int w), some (.int d), some (.int part), some (.ref a), some (.ref b), some (.int r), some (.int (EvM.lowE r d)), some (.int (EvM.highE r d h)), some (.ref p), some (.ref p'), some (.ref o), v11, v12, v13, v14, v15] ∧ Same H3 H' ∧ H' o = some (.lst (((List.range c).map fun c => EvM.dotI w h d part g c r).map V.int)))
      ⟨none, none, none, none, none, rfl, same_upd no, upd_same⟩ ?_ ?_
    · rintro c σ H1 hc ⟨v11, v12, v13, v14, v15, rfl, s3, ho⟩
      have e0 : (0 : Int) + (c : Nat) = (c : Nat) := Int.zero_add _
      rw [e0]
      have k3 : EvM.lowE c d < w + 1 := by unfold EvM.lowE; omega
      have k4 : EvM.highE c d w < w + 1 := by unfold EvM.highE; omega
      have hT1 : SqL K H1 p _ := SqL.of (s3 _ _ hT)
      have hB1 : SqL K H1 p' _ := SqL.of (s3 _ _ hB)
      have gc := hg c r
      refine ⟨_, rfl, _, rfl, _, _, rfl, rfl, _, _, rfl, ?_⟩
      rw [max_edge]
      refine ⟨_, rfl, _, rfl, _, _, rfl, rfl, _, _, rfl, rfl, _, rfl, _, _, rfl, ?_⟩
      rw [min_edge]
      refine ⟨_, rfl, _, rfl, _, _, rfl, rfl, _, rfl, _, rfl, _, _, rfl, rfl, _, _, rfl, rfl, .inl ⟨by omega, by omega⟩, ?_⟩
      refine ⟨_, rfl, _, rfl, p', _, _, _, rfl, rfl, hB1, at_natE rfl (map_range_get k4), _, rfl, _, rfl, p', _, _, _, rfl, rfl, hB1, at_natE rfl (map_range_get k3), _, _, rfl, rfl, _, rfl, _, rfl, p, _, _, _, rfl, rfl, hT1, at_natE rfl (map_range_get k4), _, _, rfl, rfl, _, rfl, _, rfl, p, _, _, _, rfl, rfl, hT1, at_natE rfl (map_range_get k3), _, _, rfl, rfl, ?_⟩
      have hat : atI ((EvM.eachI w h g).map V.int) ((r : Int) * (w : Int) + (c : Int)) = some (.int (g c r)) := at_natE (i := r * w + c) (by rw [Int.natCast_add, Int.natCast_mul]) (int_get (EvM.eachI_get hc hr'))
      refine ⟨_, rfl, .inl ⟨rfl, _, SqL.of ho⟩, _, rfl, _, _, rfl, rfl, .inl ⟨by decide, by decide⟩, _, rfl, _, rfl, _, rfl, _, _, rfl, rfl, .inl ⟨by omega, by omega⟩, _, rfl, _, _, rfl, rfl, a, _, _, _, rfl, rfl, (s2.trans s3).seq hX, hat, _, _, rfl, rfl, .inr ⟨by omega, by omega⟩, _, rfl, _, rfl, _, _, rfl, rfl, .inl ⟨by omega, by omega⟩, _, _, rfl, rfl, _, rfl, ?_⟩
      have fin : ∀ z : Int, z = EvM.dotI w h d part g c r → ∃ (l : Addr) (xs : List V) (y : V), V.ref o = V.ref l ∧ [V.int z] = [y] ∧ H1 l = some (.lst xs) ∧ xs.length < sizeLine ∧ Same H3 (upd H1 l (.lst (xs ++ [y]))) ∧ upd H1 l (.lst (xs ++ [y])) o = some (.lst (((List.range (c + 1)).map fun c => EvM.dotI w h d part g c r).map V.int)) := fun z hz => by
        refine ⟨o, _, _, rfl, rfl, ho, smallS ?_, fun b x e => ?_, ?_⟩
        · rw [List.length_map, List.length_map, List.length_range]
          omega
        · rw [upd_ne (ne_of_none e no)]
          exact s3 _ _ e
        · rw [upd_same, range_more _ c, List.map_append, hz]
          rfl
      refine ite2 (fun e => ?_) (fun e => ?_)
      · obtain ⟨l, xs, y, h1, h2, h3, h4, h5, h6⟩ := fin 1 (by
          unfold EvM.dotI EvM.rect
          rw [if_pos (of_decide_eq_true e)])
        exact ⟨l, xs, y, h1, h2, h3, h4, _, _, _, _, _, rfl, h5, h6⟩
      · obtain ⟨l, xs, y, h1, h2, h3, h4, h5, h6⟩ := fin 0 (by
          unfold EvM.dotI EvM.rect
          rw [if_neg fun z => e (decide_eq_true z)])
        exact ⟨l, xs, y, h1, h2, h3, h4, _, _, _, _, _, rfl, h5, h6⟩
    · rintro σ H1 ⟨v11, v12, v13, v14, v15, rfl, s3, ho⟩
      exact ⟨_, rfl, q _ o (s2.trans s3) no' ho⟩
def sp_li_around (K : PySem.W.Frag) : Sp := fun vs H Q _ => ∃ (w : Int) (d : Int) (part : Int) (a_x : Addr) (x : List Int), vs = [.int w, .int d, .int part, .ref a_x] ∧ SqL K H a_x (x.map V.int) ∧ x.length ≤ 70000 ∧ PySh55.li_around_asked w d part x = true ∧
  ∀ (H' : Hp) (p : Addr), H' p = some (.lst ((PySh55.li_around w d part x).map V.int)) → Q (.ref p) H'
theorem sp_li_around_len {K : PySem.W.Frag} {vs : List V} {H : Hp} {Q : VK} {E : XK} (h : sp_li_around K vs H Q E) : vs.length = 4 := by
  obtain ⟨_, _, _, _, _, rfl, _⟩ := h
  rfl
/-! li_around: slots 0 w, 1 d, 2 part, 3 x, 4 sums, 5 dots, 6 r -/
theorem ok_li_around {f : Addr} {fd : FuncData} (F : Fun K "li_around" "li_around" s_li_around f fd)
    (g_range : mg "range" = none)
    (g_len : mg "len" = none)
    {t_WHOLE : Tok} (c_WHOLE : mg "WHOLE" = some (.int (256) t_WHOLE))
    {t_MOST_AROUND : Tok} (c_MOST_AROUND : mg "MOST_AROUND" = some (.int (64) t_MOST_AROUND))
    {t_OUT_OF_RANGE : Tok} (c_OUT_OF_RANGE : mg "OUT_OF_RANGE" = some (.int (-2) t_OUT_OF_RANGE))
    {f_words_of_page : Addr} {fd_words_of_page : FuncData} (G_words_of_page : FnOk P w K mg base CX0 2 f_words_of_page fd_words_of_page ["w", "dots"] (sp_words_of_page K)) (m_words_of_page : mg "words_of_page" = some (.ref f_words_of_page)) (k_words_of_page : PySem.W.keepIn K (.ref f_words_of_page) = true) (b_words_of_page : Binds K fd_words_of_page ["w", "dots"] [])
    {f_dots_of_row : Addr} {fd_dots_of_row : FuncData} (G_dots_of_row : FnOk P w K mg base CX0 2 f_dots_of_row fd_dots_of_row ["w", "d", "part", "x", "sums", "r"] (sp_dots_of_row K)) (m_dots_of_row : mg "dots_of_row" = some (.ref f_dots_of_row)) (k_dots_of_row : PySem.W.keepIn K (.ref f_dots_of_row) = true) (b_dots_of_row : Binds K fd_dots_of_row ["w", "d", "part", "x", "sums", "r"] [])
    {f_sums_of_page : Addr} {fd_sums_of_page : FuncData} (G_sums_of_page : FnOk P w K mg base CX0 2 f_sums_of_page fd_sums_of_page ["w", "x"] (sp_sums_of_page K)) (m_sums_of_page : mg "sums_of_page" = some (.ref f_sums_of_page)) (k_sums_of_page : PySem.W.keepIn K (.ref f_sums_of_page) = true) (b_sums_of_page : Binds K fd_sums_of_page ["w", "x"] [])
    {f_is_page : Addr} {fd_is_page : FuncData} (G_is_page : FnOk P w K mg base CX0 1 f_is_page fd_is_page ["w", "x"] (sp_is_page K)) (m_is_page : mg "is_page" = some (.ref f_is_page)) (k_is_page : PySem.W.keepIn K (.ref f_is_page) = true) (b_is_page : Binds K fd_is_page ["w", "x"] []) : FnOk P w K mg base CX0 3 f fd ["w", "d", "part", "x"] (sp_li_around K) := by
  refine F.ok sc_li_around (fun vs H Q E h => ?_) (fun cdv A outer s H vs Q E hr h => ?_)
  · exact sp_li_around_len h
  · refine ⟨_, (pss_cons (ps_if (PW.pt (pw_or (pt_not (pt_val (pe_call G_is_page (hr.mono (by decide)) (by rfl) m_is_page k_is_page b_is_page .nil pass0 (pa_cons (pv 0) (pa_cons (pv 3) pa_nil))))) (pw_or (pt_cmpR op_gt (pv 1) (pe_glob (v := .int (64)) (by rfl) c_MOST_AROUND ⟨_, rfl⟩) (nomark _)) (pw_or1 (pt_cmpR op_gt (pv 2) (pe_glob (v := .int (256)) (by rfl) c_WHOLE ⟨_, rfl⟩) (nomark _)))))) (pss_one (ps_ret (pe_lst (pa_cons (pe_glob (v := .int (-2)) (by rfl) c_OUT_OF_RANGE ⟨_, rfl⟩) pa_nil)))) pss_nil)
      (pss_cons (ps_set (i := 4) sc_li_around.nd rfl (Or.inl rfl) (pe_call G_sums_of_page (hr.mono (by decide)) (by rfl) m_sums_of_page k_sums_of_page b_sums_of_page .nil pass0 (pa_cons (pv 0) (pa_cons (pv 3) pa_nil))))
      (pss_cons (ps_set (i := 5) sc_li_around.nd rfl (Or.inl rfl) (pe_lst pa_nil))
      (pss_cons (ps_for PassesOwn.never rfl (pi_range1 (by rfl) g_range (pa_cons (pe_op op_fdiv (pe_callB call_len_seq (by rfl) g_len PySem.boot_len (pa_cons (pv 3) pa_nil)) (pv 0)) pa_nil)) (pg_name (i := 6) sc_li_around.nd rfl (Or.inl rfl))
      (pss_one (ps_expr (pe_bm PySem.F.plainAttrs_list PySem.F.slot_list_extend PySem.F.type_list_extend mt_extend (pv 5) (pa_cons (pe_call G_dots_of_row (hr.mono (by decide)) (by rfl) m_dots_of_row k_dots_of_row b_dots_of_row .nil pass0 (pa_cons (pv 0) (pa_cons (pv 1) (pa_cons (pv 2) (pa_cons (pv 3) (pa_cons (pv 4) (pa_cons (pv 6) pa_nil))))))) pa_nil)))))
      (pss_one (ps_ret (pe_op op_cat (pe_lst (pa_cons pe_int pa_nil)) (pe_call G_words_of_page (hr.mono (by decide)) (by rfl) m_words_of_page k_words_of_page b_words_of_page .nil pass0 (pa_cons (pv 0) (pa_cons (pv 5) pa_nil)))))))))), ?_⟩
    obtain ⟨w, d, part, a, x, rfl, hS, hlen, hask, q⟩ := h
    obtain ⟨h0, h1, h2, hb, hrows⟩ := EvM.around_asked hask
    have bad : ¬ (EvM.isPage w x.length = true ∧ d ≤ 64 ∧ part ≤ 256) → ∀ p, H p = none → Q (.ref p) (upd H p (.lst [.int (-2)])) := fun z p hp => q _ p (by
      rw [upd_same, EvM.around_bad h0 h1 h2 z]
      rfl)
    refine ⟨_, rfl, _, rfl, w, a, x, rfl, hS, h0, _, rfl, ite2 (fun e => ?_) (fun e => ?_)⟩
    · have e1 : ¬ EvM.isPage w x.length = true := fun z => by
        rw [z] at e
        cases e
      exact iteT ⟨by decide, bad fun z => e1 z.1⟩
    · have hp : EvM.isPage w x.length = true := by
        cases z : EvM.isPage w x.length with
        | true => rfl
        | false =>
          rw [z] at e
          exact absurd rfl e
      refine ⟨_, rfl, _, _, rfl, rfl, _, rfl, ite2 (fun e2 => ?_) (fun e2 => ?_)⟩
      · have e2 : 64 < d := of_decide_eq_true e2
        exact iteT ⟨by decide, bad fun z => absurd z.2.1 (by omega)⟩
      · have e2 : ¬ 64 < d := fun z => e2 (decide_eq_true z)
        refine ⟨_, rfl, _, _, rfl, rfl, _, rfl, ite2 (fun e3 => ?_) (fun e3 => ?_)⟩
        · have e3 : 256 < part := of_decide_eq_true e3
          exact ⟨by decide, bad fun z => absurd z.2.2 (by omega)⟩
        · have e3 : ¬ 256 < part := fun z => e3 (decide_eq_true z)
          have hl := hrows ⟨hp, by omega, by omega⟩
          have pg := EvM.isPage_nat hp
          have ew : w = (w.toNat : Int) := by omega
          have ed : d = (d.toNat : Int) := by omega
          have ep : part = (part.toNat : Int) := by omega
          have goal : PySh55.li_around w d part x = 0 :: EvM.wordsW w.toNat (x.length / w.toNat) (EvM.eachI w.toNat (x.length / w.toNat) (EvM.dotI w.toNat (x.length / w.toNat) d.toNat part (EvM.pix w.toNat x))) := by
            rw [EvM.around_ok h0 h1 h2 ⟨hp, by omega, by omega⟩, EvM.around_list hb.nn, ← ep]
          rw [goal] at q
          have hg : ∀ c r, 0 ≤ EvM.pix w.toNat x c r ∧ EvM.pix w.toNat x c r ≤ 255 := fun c r => EvM.pix_by hb
          rw [EvM.page_eq (by omega) hl] at hS
          generalize EvM.pix w.toNat x = g at hS q hg
          generalize hn : x.length / w.toNat = n at hS q pg
          clear hl hrows goal bad hask hlen hp
          generalize w.toNat = W at *
          generalize d.toNat = D at *
          subst ew ed
          refine ⟨_, rfl, _, rfl, W, a, n, g, rfl, hS, by omega, by omega, by omega, fun H1 p s1 np hp1 => ?_⟩
          refine ⟨by decide, fun o no => ?_⟩
          have s2 := s1.trans (same_upd (o := .lst []) no)
          have no' : H o = none := s1.free no
          refine ⟨_, rfl, a, _, rfl, .inl (s2.seq hS), _, rfl, _, _, rfl, rfl, ⟨by omega, by omega⟩, (n : Int), congrArg (fun z => [V.int z]) (each_rows (by omega) g), by omega, by omega, ?_⟩
          rw [Int.toNat_natCast]
          refine for_range (lo := 0) (n := n) (fun r σ H' => ∃ v6 : Option V, σ = [some (.int W), some (.int D), some (.int part), some (.ref a), some (.ref p), some (.ref o), v6] ∧ Same H1 H' ∧ H' o = some (.lst ((EvM.eachI W r (EvM.dotI W n D part g)).map V.int)))
            ⟨none, rfl, same_upd no, upd_same⟩ ?_ ?_
          · rintro r σ H2 hr ⟨v6, rfl, s3, ho⟩
            have e0 : (0 : Int) + (r : Nat) = (r : Nat) := Int.zero_add _
            rw [e0]
            refine ⟨_, rfl, .inl ⟨rfl, _, SqL.of ho⟩, _, rfl, _, rfl, _, rfl, _, rfl, _, rfl, _, rfl, W, D, part, a, p, r, n, g, rfl, (s1.trans s3).seq hS, SqL.of (s3 _ _ hp1), by omega, by omega, hr, by omega, by omega, by omega, by omega, hg, fun H3 p3 s4 np3 hp3 => ?_⟩
            have ho3 := s4 _ _ ho
            refine ⟨o, p3, _, _, rfl, rfl, ho3, hp3, small ?_, some (.int (r : Nat)), rfl, fun b x e => ?_, ?_⟩
            · rw [List.length_map, List.length_map, List.length_map, List.length_range, EvM.eachI_len]
              have : r * W ≤ 256 * 256 := Nat.mul_le_mul (by omega) (by omega)
              omega
            · rw [upd_ne (ne_of_none e no)]
              exact s4 _ _ (s3 _ _ e)
            · rw [upd_same, EvM.eachI_succ, List.map_append]
          · rintro σ H2 ⟨v6, rfl, s3, ho⟩
            refine ⟨by decide, fun u nu => ?_⟩
            have s4 := same_upd (o := .lst [.int 0]) nu
            refine ⟨_, rfl, _, rfl, W, o, _, n, rfl, SqL.of (s4 _ _ ho), by omega, by omega, by omega, by rw [EvM.eachI_len, Nat.mul_comm], fun H4 p4 s5 np4 hp4 => ?_⟩
            refine ⟨u, p4, _, _, rfl, rfl, s5 _ _ upd_same, hp4, small ?_, fun v nv => q _ v ?_⟩
            · rw [List.length_map, EvM.wordsW_len]
              have h1 : n * ((W + 31) / 32) ≤ 256 * 8 := Nat.mul_le_mul (by omega) (by omega)
              show 1 + _ ≤ _
              omega
            · rw [upd_same]
              rfl
end
theorem all_mk {P : Program} {w : World} {K : PySem.W.Frag} {h : Heap} {mg : Str → Option Value} {fa : Addr} (X : K.In h) (G : h.Ns mainGlobals mg) (hfa : mg "li_around" = some (.ref fa))
    {f0 : Addr} {od0 an0 : Option Addr} {sl0 : Array (Option Value)} {oc0 kV0 dc0 pm0 cd0 ct0 : Value}
    (a0 : PySem.W.nsIn K mainGlobals "sums_below" = some (some (.ref f0))) (l0 : K.lookup f0 = some ⟨oc0, od0, .func (PySem.W.fnOf "sums_below" "sums_below" (defArgs s_sums_below) (defBody s_sums_below) (defScope s_sums_below) .none kV0 dc0 pm0 an0 cd0 ct0), sl0⟩) (q0 : PySem.W.codeIn K cd0 "sums_below" = true) (k0 : PySem.W.keepIn K (.ref f0) = true)
    {f1 : Addr} {od1 an1 : Option Addr} {sl1 : Array (Option Value)} {oc1 kV1 dc1 pm1 cd1 ct1 : Value}
    (a1 : PySem.W.nsIn K mainGlobals "row_of" = some (some (.ref f1))) (l1 : K.lookup f1 = some ⟨oc1, od1, .func (PySem.W.fnOf "row_of" "row_of" (defArgs s_row_of) (defBody s_row_of) (defScope s_row_of) .none kV1 dc1 pm1 an1 cd1 ct1), sl1⟩) (q1 : PySem.W.codeIn K cd1 "row_of" = true) (k1 : PySem.W.keepIn K (.ref f1) = true)
    {f2 : Addr} {od2 an2 : Option Addr} {sl2 : Array (Option Value)} {oc2 kV2 dc2 pm2 cd2 ct2 : Value}
    (a2 : PySem.W.nsIn K mainGlobals "sums_of_page" = some (some (.ref f2))) (l2 : K.lookup f2 = some ⟨oc2, od2, .func (PySem.W.fnOf "sums_of_page" "sums_of_page" (defArgs s_sums_of_page) (defBody s_sums_of_page) (defScope s_sums_of_page) .none kV2 dc2 pm2 an2 cd2 ct2), sl2⟩) (q2 : PySem.W.codeIn K cd2 "sums_of_page" = true) (k2 : PySem.W.keepIn K (.ref f2) = true)
    {f3 : Addr} {od3 an3 : Option Addr} {sl3 : Array (Option Value)} {oc3 kV3 dc3 pm3 cd3 ct3 : Value}
    (a3 : PySem.W.nsIn K mainGlobals "word_of_dots" = some (some (.ref f3))) (l3 : K.lookup f3 = some ⟨oc3, od3, .func (PySem.W.fnOf "word_of_dots" "word_of_dots" (defArgs s_word_of_dots) (defBody s_word_of_dots) (defScope s_word_of_dots) .none kV3 dc3 pm3 an3 cd3 ct3), sl3⟩) (q3 : PySem.W.codeIn K cd3 "word_of_dots" = true) (k3 : PySem.W.keepIn K (.ref f3) = true)
    {f4 : Addr} {od4 an4 : Option Addr} {sl4 : Array (Option Value)} {oc4 kV4 dc4 pm4 cd4 ct4 : Value}
    (a4 : PySem.W.nsIn K mainGlobals "words_of_page" = some (some (.ref f4))) (l4 : K.lookup f4 = some ⟨oc4, od4, .func (PySem.W.fnOf "words_of_page" "words_of_page" (defArgs s_words_of_page) (defBody s_words_of_page) (defScope s_words_of_page) .none kV4 dc4 pm4 an4 cd4 ct4), sl4⟩) (q4 : PySem.W.codeIn K cd4 "words_of_page" = true) (k4 : PySem.W.keepIn K (.ref f4) = true)
    {f5 : Addr} {od5 an5 : Option Addr} {sl5 : Array (Option Value)} {oc5 kV5 dc5 pm5 cd5 ct5 : Value}
    (a5 : PySem.W.nsIn K mainGlobals "is_page" = some (some (.ref f5))) (l5 : K.lookup f5 = some ⟨oc5, od5, .func (PySem.W.fnOf "is_page" "is_page" (defArgs s_is_page) (defBody s_is_page) (defScope s_is_page) .none kV5 dc5 pm5 an5 cd5 ct5), sl5⟩) (q5 : PySem.W.codeIn K cd5 "is_page" = true) (k5 : PySem.W.keepIn K (.ref f5) = true)
    {f6 : Addr} {od6 an6 : Option Addr} {sl6 : Array (Option Value)} {oc6 kV6 dc6 pm6 cd6 ct6 : Value}
    (a6 : PySem.W.nsIn K mainGlobals "dots_of_row" = some (some (.ref f6))) (l6 : K.lookup f6 = some ⟨oc6, od6, .func (PySem.W.fnOf "dots_of_row" "dots_of_row" (defArgs s_dots_of_row) (defBody s_dots_of_row) (defScope s_dots_of_row) .none kV6 dc6 pm6 an6 cd6 ct6), sl6⟩) (q6 : PySem.W.codeIn K cd6 "dots_of_row" = true) (k6 : PySem.W.keepIn K (.ref f6) = true)
    {f7 : Addr} {od7 an7 : Option Addr} {sl7 : Array (Option Value)} {oc7 kV7 dc7 pm7 cd7 ct7 : Value}
    (a7 : PySem.W.nsIn K mainGlobals "li_around" = some (some (.ref f7))) (l7 : K.lookup f7 = some ⟨oc7, od7, .func (PySem.W.fnOf "li_around" "li_around" (defArgs s_li_around) (defBody s_li_around) (defScope s_li_around) .none kV7 dc7 pm7 an7 cd7 ct7), sl7⟩) (q7 : PySem.W.codeIn K cd7 "li_around" = true) (k7 : PySem.W.keepIn K (.ref f7) = true)
    (z_len : PySem.W.nsIn K mainGlobals "len" = some none)
    (z_list : PySem.W.nsIn K mainGlobals "list" = some none)
    (z_max : PySem.W.nsIn K mainGlobals "max" = some none)
    (z_min : PySem.W.nsIn K mainGlobals "min" = some none)
    (z_range : PySem.W.nsIn K mainGlobals "range" = some none)
    (z_reversed : PySem.W.nsIn K mainGlobals "reversed" = some none)
    {t_MOST_AROUND : Tok} (y_MOST_AROUND : PySem.W.nsIn K mainGlobals "MOST_AROUND" = some (some (.int (64) t_MOST_AROUND)))
    {t_MOST_SIDE : Tok} (y_MOST_SIDE : PySem.W.nsIn K mainGlobals "MOST_SIDE" = some (some (.int (256) t_MOST_SIDE)))
    {t_OUT_OF_RANGE : Tok} (y_OUT_OF_RANGE : PySem.W.nsIn K mainGlobals "OUT_OF_RANGE" = some (some (.int (-2) t_OUT_OF_RANGE)))
    {t_WHOLE : Tok} (y_WHOLE : PySem.W.nsIn K mainGlobals "WHOLE" = some (some (.int (256) t_WHOLE)))
    {t_WORD_BITS : Tok} (y_WORD_BITS : PySem.W.nsIn K mainGlobals "WORD_BITS" = some (some (.int (32) t_WORD_BITS)))
    : ∃ fd : FuncData, (∀ (s : Shared) (us : List Value), us.length = (["w", "d", "part", "x"] : List Str).length → BindsTo s fd ⟨us, []⟩ ((["w", "d", "part", "x"] : List Str).zip us)) ∧ ∀ base : Heap, K.In base → base.Ns mainGlobals mg → FnOk P w K mg base CX0 3 fa fd ["w", "d", "part", "x"] (sp_li_around K) := by
  have e := hfa.symm.trans (PySem.W.mg_of X G a7)
  cases e
  have F0 := fun_mk (st := s_sums_below) l0 q0 k0
  have b0 := F0.binds (ps := ["above", "row"]) fun _ _ _ _ _ _ us hl => match us, hl with | [_, _], _ => rfl
  have F1 := fun_mk (st := s_row_of) l1 q1 k1
  have b1 := F1.binds (ps := ["w", "x", "r"]) fun _ _ _ _ _ _ us hl => match us, hl with | [_, _, _], _ => rfl
  have F2 := fun_mk (st := s_sums_of_page) l2 q2 k2
  have b2 := F2.binds (ps := ["w", "x"]) fun _ _ _ _ _ _ us hl => match us, hl with | [_, _], _ => rfl
  have F3 := fun_mk (st := s_word_of_dots) l3 q3 k3
  have b3 := F3.binds (ps := ["dots"]) fun _ _ _ _ _ _ us hl => match us, hl with | [_], _ => rfl
  have F4 := fun_mk (st := s_words_of_page) l4 q4 k4
  have b4 := F4.binds (ps := ["w", "dots"]) fun _ _ _ _ _ _ us hl => match us, hl with | [_, _], _ => rfl
  have F5 := fun_mk (st := s_is_page) l5 q5 k5
  have b5 := F5.binds (ps := ["w", "x"]) fun _ _ _ _ _ _ us hl => match us, hl with | [_, _], _ => rfl
  have F6 := fun_mk (st := s_dots_of_row) l6 q6 k6
  have b6 := F6.binds (ps := ["w", "d", "part", "x", "sums", "r"]) fun _ _ _ _ _ _ us hl => match us, hl with | [_, _, _, _, _, _], _ => rfl
  have F7 := fun_mk (st := s_li_around) l7 q7 k7
  have b7 := F7.binds (ps := ["w", "d", "part", "x"]) fun _ _ _ _ _ _ us hl => match us, hl with | [_, _, _, _], _ => rfl
  refine ⟨PySem.W.fnOf "li_around" "li_around" (defArgs s_li_around) (defBody s_li_around) (defScope s_li_around) .none kV7 dc7 pm7 an7 cd7 ct7, fun s us hu => match us, hu with | [_, _, _, _], _ => .of_eq rfl, fun base _ _ => ?_⟩
  have O0 : FnOk P w K mg base CX0 1 _ _ ["above", "row"] (sp_sums_below K) := ok_sums_below F0 (PySem.W.mg_none_of X G z_range) (PySem.W.mg_none_of X G z_len)
  have O1 : FnOk P w K mg base CX0 1 _ _ ["w", "x", "r"] (sp_row_of K) := ok_row_of F1 
  have O2 : FnOk P w K mg base CX0 2 _ _ ["w", "x"] (sp_sums_of_page K) := ok_sums_of_page F2 (PySem.W.mg_none_of X G z_range) (PySem.W.mg_none_of X G z_len) (PySem.W.mg_none_of X G z_list) O0 (PySem.W.mg_of X G a0) k0 b0 O1 (PySem.W.mg_of X G a1) k1 b1
  have O3 : FnOk P w K mg base CX0 1 _ _ ["dots"] (sp_word_of_dots K) := ok_word_of_dots F3 (PySem.W.mg_none_of X G z_reversed)
  have O4 : FnOk P w K mg base CX0 2 _ _ ["w", "dots"] (sp_words_of_page K) := ok_words_of_page F4 (PySem.W.mg_none_of X G z_range) (PySem.W.mg_none_of X G z_len) (PySem.W.mg_none_of X G z_min) (PySem.W.mg_of X G y_WORD_BITS) O3 (PySem.W.mg_of X G a3) k3 b3
  have O5 : FnOk P w K mg base CX0 1 _ _ ["w", "x"] (sp_is_page K) := ok_is_page F5 (PySem.W.mg_none_of X G z_len) (PySem.W.mg_of X G y_MOST_SIDE)
  have O6 : FnOk P w K mg base CX0 2 _ _ ["w", "d", "part", "x", "sums", "r"] (sp_dots_of_row K) := ok_dots_of_row F6 (PySem.W.mg_none_of X G z_range) (PySem.W.mg_none_of X G z_min) (PySem.W.mg_none_of X G z_max) (PySem.W.mg_none_of X G z_len) (PySem.W.mg_of X G y_WHOLE) O1 (PySem.W.mg_of X G a1) k1 b1
  have O7 : FnOk P w K mg base CX0 3 _ _ ["w", "d", "part", "x"] (sp_li_around K) := ok_li_around F7 (PySem.W.mg_none_of X G z_range) (PySem.W.mg_none_of X G z_len) (PySem.W.mg_of X G y_WHOLE) (PySem.W.mg_of X G y_MOST_AROUND) (PySem.W.mg_of X G y_OUT_OF_RANGE) O4 (PySem.W.mg_of X G a4) k4 b4 O6 (PySem.W.mg_of X G a6) k6 b6 O2 (PySem.W.mg_of X G a2) k2 b2 O5 (PySem.W.mg_of X G a5) k5 b5
  exact O7
theorem end_li_around {K : PySem.W.Frag} {H : Hp} {w : Int} {d : Int} {part : Int} {a_x : Addr} {x : List Int} (h_x : SqL K H a_x (x.map V.int)) (hwi : (Codec.inInt (0) (4294967295) w && (Codec.inInt (0) (4294967295) d && (Codec.inInt (0) (4294967295) part && ((Codec.inLen 0 70000 x && x.all (Codec.inInt (0) (255))) && true)))) = true) (hask : PySh55.li_around_asked w d part x = true) :
    sp_li_around K [.int w, .int d, .int part, .ref a_x] H (fun v H' => Dw K H' v (.list ((PySh55.li_around w d part x).map .int))) fun _ _ _ => False := by
  obtain ⟨w_w, hwi⟩ := Bool.and_eq_true_iff.mp hwi
  obtain ⟨w_d, hwi⟩ := Bool.and_eq_true_iff.mp hwi
  obtain ⟨w_part, hwi⟩ := Bool.and_eq_true_iff.mp hwi
  obtain ⟨w_x, hwi⟩ := Bool.and_eq_true_iff.mp hwi
  obtain ⟨l_x, _⟩ := Bool.and_eq_true_iff.mp w_x
  exact ⟨w, d, part, _, x, rfl, h_x, (Codec.inNat_iff.mp l_x).2, hask, fun H' p hp => .lst (L2.SqL.of hp) (L2.dw_ints _)⟩
end Ev
open PySem PySem.W PyProof.Rows
set_option maxRecDepth 100000 in
set_option maxHeartbeats 8000000 in
theorem PySem.Challenge.cw_evenlight_s05_li_around_holds : PySem.Challenge.rw_evenlight_s05_li_around.Holds := by
  w_on; k_headS; (case hw => exact ⟨[.int 0, .int 0, .int 0, .list []], by decide +kernel, by decide +kernel⟩)
  k_fillS
  refine L2.walk_specK (r := PySem.Challenge.rw_evenlight_s05_li_around) (k := 3) (CX := L2.CX0) (ps := ["w", "d", "part", "x"]) (sp := Ev.sp_li_around) (by decide +kernel) rfl rfl ⟨rfl, by decide, by decide⟩ (fun w h Y => PySem.W.kIn_of Y) ?F ?S (fun _ _ _ _ z => z)
  case F =>
    intro w mg fa h Y KX G hmg
    refine' Ev.all_mk KX G hmg ?a0 ?l0 ?q0 ?k0 ?a1 ?l1 ?q1 ?k1 ?a2 ?l2 ?q2 ?k2 ?a3 ?l3 ?q3 ?k3 ?a4 ?l4 ?q4 ?k4 ?a5 ?l5 ?q5 ?k5 ?a6 ?l6 ?q6 ?k6 ?a7 ?l7 ?q7 ?k7 ?z_len ?z_list ?z_max ?z_min ?z_range ?z_reversed ?y_MOST_AROUND ?y_MOST_SIDE ?y_OUT_OF_RANGE ?y_WHOLE ?y_WORD_BITS
    (case a0 => k_is)
    (case l0 => k_is)
    (case q0 => k_is)
    (case k0 => k_is)
    (case a1 => k_is)
    (case l1 => k_is)
    (case q1 => k_is)
    (case k1 => k_is)
    (case a2 => k_is)
    (case l2 => k_is)
    (case q2 => k_is)
    (case k2 => k_is)
    (case a3 => k_is)
    (case l3 => k_is)
    (case q3 => k_is)
    (case k3 => k_is)
    (case a4 => k_is)
    (case l4 => k_is)
    (case q4 => k_is)
    (case k4 => k_is)
    (case a5 => k_is)
    (case l5 => k_is)
    (case q5 => k_is)
    (case k5 => k_is)
    (case a6 => k_is)
    (case l6 => k_is)
    (case q6 => k_is)
    (case k6 => k_is)
    (case a7 => k_is)
    (case l7 => k_is)
    (case q7 => k_is)
    (case k7 => k_is)
    (case z_len => k_is)
    (case z_list => k_is)
    (case z_max => k_is)
    (case z_min => k_is)
    (case z_range => k_is)
    (case z_reversed => k_is)
    (case y_MOST_AROUND => k_is)
    (case y_MOST_SIDE => k_is)
    (case y_OUT_OF_RANGE => k_is)
    (case y_WHOLE => k_is)
    (case y_WORD_BITS => k_is)
  case S =>
    intro K H xs a hO hwi hask hx
    obtain ⟨a0, a1, a2, a3, u⟩ := a
    cases hx with
    | cons h0 hx =>
    cases hx with
    | cons h1 hx =>
    cases hx with
    | cons h2 hx =>
    cases hx with
    | cons h3 hx =>
    cases hx
    cases h0
    cases h1
    cases h2
    cases h3 with
    | lst hs3 ha3 =>
    have e3 := L2.ints_dw a3 _ ha3
    subst e3
    exact Ev.end_li_around hs3 hwi hask
#print axioms PySem.Challenge.cw_evenlight_s05_li_around_holds
