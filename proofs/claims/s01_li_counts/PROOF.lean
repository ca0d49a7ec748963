import PyProof.Rows.All
import Wide.All
import OpenK.AllK
import Wide.FinOn
import Open.SpecLaws
import KE.OsGo
import HandS.ForSpec
import HandS.ForMost
import HandS.Walk
import HandS.Wide
import HandS.SortInts
import PySem.Challenge.RW_evenlight_s01_li_counts
set_option Elab.async false
set_option maxRecDepth 100000
set_option maxHeartbeats 4000000
namespace EvM
/-! numbers and lists alone -/
theorem natural_iff {z : Int} {b : Nat} : Sh55Neutral.natural z b = true ↔ 0 ≤ z ∧ z < 2 ^ b := by
  unfold Sh55Neutral.natural
  rw [Bool.and_eq_true, decide_eq_true_eq, decide_eq_true_eq]
def Nn (l : List Int) : Prop := ∀ z ∈ l, 0 ≤ z
def By (l : List Int) : Prop := ∀ z ∈ l, 0 ≤ z ∧ z < 256
theorem By.nn {l : List Int} (h : By l) : Nn l := fun z hz => (h z hz).1
theorem by_of {l : List Int} (h : l.all (fun (z : Int) => Sh55Neutral.natural z 8) = true) : By l := fun z hz => by
  have := natural_iff.mp (List.all_eq_true.mp h z hz)
  exact ⟨this.1, by have h2 := this.2; simpa using h2⟩
def Wd (l : List Int) : Prop := ∀ z ∈ l, 0 ≤ z ∧ z < 65536
theorem Wd.nn {l : List Int} (h : Wd l) : Nn l := fun z hz => (h z hz).1
theorem wd_of {l : List Int} (h : l.all (fun (z : Int) => Sh55Neutral.natural z 16) = true) : Wd l := fun z hz => by
  have := natural_iff.mp (List.all_eq_true.mp h z hz)
  exact ⟨this.1, by have h2 := this.2; simpa using h2⟩
theorem nats_len (l : List Int) : (Sh55Neutral.nats l).length = l.length := by
  unfold Sh55Neutral.nats; rw [List.length_map]
theorem ints_len (l : List Nat) : (Sh55Neutral.ints l).length = l.length := by
  unfold Sh55Neutral.ints; rw [List.length_map]
theorem ints_nats {l : List Int} (h : Nn l) : Sh55Neutral.ints (Sh55Neutral.nats l) = l := by
  unfold Sh55Neutral.ints Sh55Neutral.nats
  rw [List.map_map]
  conv => rhs; rw [← List.map_id l]
  refine List.map_congr_left fun z hz => ?_
  exact Int.toNat_of_nonneg (h z hz)
theorem nats_ints (l : List Nat) : Sh55Neutral.nats (Sh55Neutral.ints l) = l := by
  unfold Sh55Neutral.ints Sh55Neutral.nats
  rw [List.map_map]
  conv => rhs; rw [← List.map_id l]
  rfl
/-- what a list of numbers that are not negative is -/
theorem Nn.eq {l : List Int} (h : Nn l) : ∃ m : List Nat, l = Sh55Neutral.ints m := ⟨_, (ints_nats h).symm⟩
theorem ints_get (l : List Nat) (i : Nat) : (Sh55Neutral.ints l)[i]? = (l[i]?).map fun (n : Nat) => (n : Int) := by
  unfold Sh55Neutral.ints; rw [List.getElem?_map]
theorem num_eq (l : List Nat) (i : Nat) : Sh55.num l i = (l[i]?).getD 0 := by
  unfold Sh55.num; rw [List.getD_eq_getElem?_getD]
end EvM
namespace EvM
/-! how often each byte is there -/
def cnt (l : List Int) : List Int := (List.range 256).map fun (v : Nat) => ((l.count (v : Int) : Nat) : Int)
theorem cnt_len (l : List Int) : (cnt l).length = 256 := by
  unfold cnt; rw [List.length_map, List.length_range]
theorem cnt_nil : cnt [] = List.replicate 256 0 := by decide +kernel
theorem cnt_get (l : List Int) {v : Nat} (h : v < 256) : (cnt l)[v]? = some ((l.count (v : Int) : Nat) : Int) := by
  unfold cnt
  rw [List.getElem?_map, List.getElem?_range h]
  rfl
theorem cnt_more (l : List Int) {z : Int} (h0 : 0 ≤ z) (h1 : z < 256) : cnt (l ++ [z]) = (cnt l).set z.toNat (((l.count z : Nat) : Int) + 1) := by
  refine List.ext_getElem? fun i => ?_
  rw [List.getElem?_set]
  by_cases hi : i < 256
  · rw [cnt_get _ hi, List.count_append]
    by_cases e : z.toNat = i
    · have ez : z = (i : Int) := by omega
      rw [if_pos e, if_pos (by rw [cnt_len]; omega), ez, List.count_singleton, if_pos (beq_self_eq_true _)]
      rfl
    · have ez : ¬ z = (i : Int) := by omega
      rw [if_neg e, cnt_get _ hi, List.count_singleton, if_neg (by simpa using ez)]
      rfl
  · have hl : ∀ m : List Int, (cnt m)[i]? = none := fun m => List.getElem?_eq_none (by rw [cnt_len]; omega)
    rw [hl, hl, if_neg (by omega)]
theorem cnt_spec {l : List Int} (h : Nn l) : Sh55Neutral.ints (Sh55.counts (Sh55Neutral.nats l)) = cnt l := by
  obtain ⟨m, rfl⟩ := h.eq
  rw [nats_ints]
  unfold Sh55Neutral.ints Sh55.counts cnt
  rw [List.map_map]
  refine List.map_congr_left fun v _ => ?_
  show (((m.filter fun a => a == v).length : Nat) : Int) = ((m.map fun (x : Nat) => (x : Int)).count (v : Int) : Nat)
  rw [← List.countP_eq_length_filter, List.count, List.countP_map]
  congr 2
  funext a
  simp only [Function.comp]
  rw [Bool.eq_iff_iff, beq_iff_eq, beq_iff_eq]
  omega
theorem counts_small {l : List Int} (hb : By l) (h : l.length ≤ 65536) : PySh55.li_counts l = 0 :: cnt l := by
  show Sh55Neutral.f [[0], l] = _
  unfold Sh55Neutral.f Sh55Neutral.callOf
  have hf : Sh55.few (Sh55Neutral.nats l).length = true := decide_eq_true (by rw [nats_len]; exact h)
  simp only [hf, if_true]
  show (0 : Int) :: Sh55Neutral.ints (Sh55.counts (Sh55Neutral.nats l)) = _
  rw [cnt_spec hb.nn]
theorem counts_big {l : List Int} (h : ¬ l.length ≤ 65536) : PySh55.li_counts l = [-2] := by
  show Sh55Neutral.f [[0], l] = _
  unfold Sh55Neutral.f Sh55Neutral.callOf
  have hf : Sh55.few (Sh55Neutral.nats l).length = false := decide_eq_false (by rw [nats_len]; exact h)
  simp only [hf]
  rfl
theorem counts_asked {l : List Int} (h : PySh55.li_counts_asked l = true) : By l := by
  have h : (Sh55Neutral.asked1 [[0], l] && _) = true := h
  rw [Bool.and_eq_true] at h
  have h1 : (l.all (fun (z : Int) => Sh55Neutral.natural z 8) && _) = true := h.1
  rw [Bool.and_eq_true] at h1
  exact by_of h1.1
end EvM
namespace Ev
open PySem PySem.Spec PyProof.Rows L2
/-! small words over the hand layer -/
theorem same_upd {H : Hp} {p : Addr} {o : HO} (h : H p = none) : Same H (upd H p o) := fun b x e => by
  rw [upd_ne (ne_of_none e h)]
  exact e
/-- xs[j] by values, for xs[j] += e -/
def rGetL (K : PySem.W.Frag) : V → V → Hp → VK → Prop := fun x y H Q => ∃ (p : Addr) (xs : List V) (j : Nat) (v : V), x = .ref p ∧ y = .int j ∧ SqL K H p xs ∧ xs[j]? = some v ∧ Q v H
theorem get_list {X : Cx} : PGet X (rGetL X.K) := by
  intro pins s σ H x y v u Q I rx ry h
  obtain ⟨p, xs, j, z, rfl, rfl, hq, he, q⟩ := h
  cases rx
  obtain ⟨t, rfl⟩ := ry
  obtain ⟨its, r, pl, hz⟩ := I.list hq
  obtain ⟨w, ew, rw'⟩ := r.get he
  have hj : j < xs.length := (List.getElem?_eq_some_iff.mp he).1
  have hl := r.length
  have hn := line63
  exact wpAny_getItem_list pl.isList (by omega) (by omega) (by rw [Int.toNat_natCast]; simpa using ew) ⟨z, H, I, rw', q⟩
theorem ixN_nat {n j : Nat} (h : j < n) : ixN n (j : Int) = some j := by
  unfold ixN
  rw [if_pos (by omega), if_pos (by omega), Int.toNat_natCast]
theorem map_set {α β : Type} (f : α → β) (l : List α) (i : Nat) (a : α) : (l.map f).set i (f a) = (l.set i a).map f := by
  rw [List.map_set]
theorem get_int {l : List Int} {i : Nat} {y : V} (h : (l.map V.int)[i]? = some y) : ∃ z, l[i]? = some z ∧ y = V.int z := by
  rw [List.getElem?_map] at h
  cases e : l[i]? with
  | none => rw [e] at h; cases h
  | some z => rw [e] at h; exact ⟨z, rfl, (Option.some.inj h).symm⟩
theorem int_get {l : List Int} {i : Nat} {z : Int} (h : l[i]? = some z) : (l.map V.int)[i]? = some (V.int z) := by
  rw [List.getElem?_map, h]
  rfl
theorem take_more {α : Type} {l : List α} {i : Nat} {x : α} (h : l[i]? = some x) : l.take (i + 1) = l.take i ++ [x] := by
  rw [List.take_add_one, h]
  rfl
end Ev
namespace Ev
open PySem PySem.Spec PyProof.Rows L2
theorem cut_nat (l : List Int) (i j : Nat) : cutV (l.map V.int) (some (i : Int)) (some (j : Int)) = ((l.drop i).take (j - i)).map V.int := by
  unfold cutV
  rw [HT.sIx_nat, HT.sIx_nat, List.length_map, ← List.map_drop, ← List.map_take]
  congr 1
  by_cases h : i ≤ l.length
  · rw [Nat.min_eq_left h]
    by_cases h2 : j ≤ l.length
    · rw [Nat.min_eq_left h2]
    · rw [Nat.min_eq_right (by omega), List.take_of_length_le (by rw [List.length_drop]; omega), List.take_of_length_le (by rw [List.length_drop]; omega)]
  · rw [List.drop_eq_nil_of_le (by omega), List.drop_eq_nil_of_le (by omega), List.take_nil, List.take_nil]
theorem rgC_up {i j c : Int} {n : Nat} (hc : 0 < c) (hc2 : c < 1073741824) (hi : 0 ≤ i) (hi2 : i < 2 ^ 60) (hj : 0 ≤ j) (hj2 : j < 2 ^ 60) (hn : (n : Int) = if i < j then (j - i - 1) / c + 1 else 0) : RgC i j c n := by
  have hs : Builtin.Range.rangeSize i j c = n := by
    unfold Builtin.Range.rangeSize
    rw [if_pos hc, hn]
  have hn2 : (n : Int) < 2 ^ 62 := by
    rw [hn]
    split
    · have h1 : (j - i - 1) / c ≤ j - i - 1 := Int.ediv_le_self _ (by omega)
      omega
    · decide
  refine ⟨by omega, by omega, ?_, hs⟩
  unfold Builtin.Range.small
  rw [hs]
  unfold Builtin.Range.rangeFitsLong
  simp only [Bool.and_eq_true, Bool.or_eq_true, decide_eq_true_eq]
  rw [if_pos hc]
  simp only [Bool.and_eq_true, decide_eq_true_eq]
  omega
end Ev
namespace Ev
open PySem PySem.Spec PyProof.Rows L2
open PySem.W (Codec)
def top (i : Nat) : Stmt := PySem.Challenge.pw_evenlight_s01_li_counts.main.body.getD i (.Pass ⟨0, 0, 0, 0⟩)
abbrev s_li_counts : Stmt := top 4
theorem sc_li_counts : FnScope ["x", "counts", "value"] ["x"] (defScope s_li_counts) := ⟨rfl, rfl, rfl, by decide +kernel, rfl, by decide +kernel, by decide +kernel⟩
section
variable {P : Program} {w : World} {K : PySem.W.Frag} {mg : Str → Option Value} {base : Heap}
def sp_li_counts (K : PySem.W.Frag) : Sp := fun vs H Q _ => ∃ (a_x : Addr) (x : List Int), vs = [.ref a_x] ∧ SqL K H a_x (x.map V.int) ∧ x.length ≤ 70000 ∧ PySh55.li_counts_asked x = true ∧
  ∀ (H' : Hp) (p : Addr), H' p = some (.lst ((PySh55.li_counts x).map V.int)) → Q (.ref p) H'
theorem sp_li_counts_len {K : PySem.W.Frag} {vs : List V} {H : Hp} {Q : VK} {E : XK} (h : sp_li_counts K vs H Q E) : vs.length = 1 := by
  obtain ⟨_, _, rfl, _⟩ := h
  rfl
/-! li_counts: slots 0 x, 1 counts, 2 value -/
theorem ok_li_counts {f : Addr} {fd : FuncData} (F : Fun K "li_counts" "li_counts" s_li_counts f fd)
    (g_len : mg "len" = none)
    {t_WHITE : Tok} (c_WHITE : mg "WHITE" = some (.int (255) t_WHITE))
    {t_MOST_BYTES : Tok} (c_MOST_BYTES : mg "MOST_BYTES" = some (.int (65536) t_MOST_BYTES))
    {t_OUT_OF_RANGE : Tok} (c_OUT_OF_RANGE : mg "OUT_OF_RANGE" = some (.int (-2) t_OUT_OF_RANGE)) : FnOk P w K mg base CX0 1 f fd ["x"] (sp_li_counts K) := by
  refine F.ok sc_li_counts (fun vs H Q E h => ?_) (fun cdv A outer s H vs Q E hr h => ?_)
  · exact sp_li_counts_len h
  · refine ⟨_, (pss_cons (ps_if (pt_cmpR op_gt (pe_callB call_len_seq (by rfl) g_len PySem.boot_len (pa_cons (pv 0) pa_nil)) (pe_glob (v := .int (65536)) (by rfl) c_MOST_BYTES ⟨_, rfl⟩) (nomark _)) (pss_one (ps_ret (pe_lst (pa_cons (pe_glob (v := .int (-2)) (by rfl) c_OUT_OF_RANGE ⟨_, rfl⟩) pa_nil)))) pss_nil)
      (pss_cons (ps_set (i := 1) sc_li_counts.nd rfl (Or.inl rfl) (pe_op op_rep (pe_lst (pa_cons pe_int pa_nil)) (pe_op op_add (pe_glob (v := .int (255)) (by rfl) c_WHITE ⟨_, rfl⟩) pe_int)))
      (pss_cons (ps_for PassesOwn.never rfl (pi_list (pv 0)) (pg_name (i := 2) sc_li_counts.nd rfl (Or.inl rfl))
      (pss_one (ps_augS (pv 1) (pv 2) get_list pe_int ip_add set_list)))
      (pss_one (ps_ret (pe_op op_cat (pe_lst (pa_cons pe_int pa_nil)) (pv 1))))))), ?_⟩
    obtain ⟨a, x, rfl, hS, hlen, hask, q⟩ := h
    have hb := EvM.counts_asked hask
    refine ⟨_, rfl, a, _, rfl, .inl hS, _, _, rfl, rfl, _, rfl, ite2 (fun e => ?_) (fun e => ?_)⟩
    · have e := of_decide_eq_true e
      rw [List.length_map] at e
      refine ⟨by decide, fun p hp => q _ p ?_⟩
      rw [upd_same, EvM.counts_big (by omega)]
      rfl
    · have e : ¬ (65536 : Int) < ((x.map V.int).length : Int) := fun z => e (decide_eq_true z)
      rw [List.length_map] at e
      refine ⟨by decide, fun o no => ?_⟩
      refine ⟨_, _, rfl, rfl, o, _, _, rfl, rfl, upd_same, by decide, by decide, by decide, fun c nc => ?_⟩
      have sm : Same H (upd (upd H o (.lst [.int 0])) c (.lst (List.replicate ((255 : Int) + 1).toNat [V.int 0]).flatten)) := (same_upd no).trans (same_upd nc)
      have nH : H c = none := (same_upd no).free nc
      refine ⟨_, rfl, a, rfl, ⟨_, sm.seq hS⟩, for_list (K := K) (a := a) (xs := x.map V.int) (fun i σ H' => ∃ v : Option V, σ = [some (.ref a), some (.ref c), v] ∧ Same H H' ∧ H' c = some (.lst ((EvM.cnt (x.take i)).map V.int)))
        ⟨none, rfl, sm, ?_⟩ (fun i σ H' _ ⟨_, _, s5, _⟩ => s5.seq hS) ?_ ?_⟩
      · rw [upd_same, List.take_zero, EvM.cnt_nil]
        rfl
      · rintro i y σ H' hi ⟨v, rfl, s5, hc⟩
        obtain ⟨z, hz, rfl⟩ := get_int hi
        have bz := hb z (List.mem_of_getElem? hz)
        have ez : z = (z.toNat : Int) := by omega
        have g := int_get (EvM.cnt_get (x.take i) (v := z.toNat) (by omega))
        refine ⟨_, rfl, _, rfl, c, _, z.toNat, _, rfl, congrArg V.int ez, SqL.of hc, g, _, _, rfl, rfl, c, _, z, z.toNat, rfl, rfl, hc, ?_, some (.int z), rfl, fun b o' hb' => ?_, ?_⟩
        · rw [List.length_map, EvM.cnt_len]
          conv => lhs; rw [ez]
          exact ixN_nat (by omega)
        · rw [upd_ne (ne_of_none hb' nH)]
          exact s5 _ _ hb'
        · rw [upd_same, take_more hz, EvM.cnt_more _ bz.1 bz.2, ← ez, List.map_set]
      · rintro σ H' ⟨v, rfl, s5, hc⟩
        rw [List.length_map, List.take_length] at hc
        refine ⟨by decide, fun o2 no2 => ?_⟩
        have nco : c ≠ o2 := ne_of_none hc no2
        refine ⟨_, rfl, o2, c, _, _, rfl, rfl, upd_same, (upd_ne nco).trans hc, ?_, fun p hp => q _ p ?_⟩
        · rw [List.length_map, EvM.cnt_len]
          decide
        · rw [upd_same, EvM.counts_small hb (by omega)]
          rfl
end
theorem all_mk {P : Program} {w : World} {K : PySem.W.Frag} {h : Heap} {mg : Str → Option Value} {fa : Addr} (X : K.In h) (G : h.Ns mainGlobals mg) (hfa : mg "li_counts" = some (.ref fa))
    {f0 : Addr} {od0 an0 : Option Addr} {sl0 : Array (Option Value)} {oc0 kV0 dc0 pm0 cd0 ct0 : Value}
    (a0 : PySem.W.nsIn K mainGlobals "li_counts" = some (some (.ref f0))) (l0 : K.lookup f0 = some ⟨oc0, od0, .func (PySem.W.fnOf "li_counts" "li_counts" (defArgs s_li_counts) (defBody s_li_counts) (defScope s_li_counts) .none kV0 dc0 pm0 an0 cd0 ct0), sl0⟩) (q0 : PySem.W.codeIn K cd0 "li_counts" = true) (k0 : PySem.W.keepIn K (.ref f0) = true)
    (z_len : PySem.W.nsIn K mainGlobals "len" = some none)
    {t_MOST_BYTES : Tok} (y_MOST_BYTES : PySem.W.nsIn K mainGlobals "MOST_BYTES" = some (some (.int (65536) t_MOST_BYTES)))
    {t_OUT_OF_RANGE : Tok} (y_OUT_OF_RANGE : PySem.W.nsIn K mainGlobals "OUT_OF_RANGE" = some (some (.int (-2) t_OUT_OF_RANGE)))
    {t_WHITE : Tok} (y_WHITE : PySem.W.nsIn K mainGlobals "WHITE" = some (some (.int (255) t_WHITE)))
    : ∃ fd : FuncData, (∀ (s : Shared) (us : List Value), us.length = (["x"] : List Str).length → BindsTo s fd ⟨us, []⟩ ((["x"] : List Str).zip us)) ∧ ∀ base : Heap, K.In base → base.Ns mainGlobals mg → FnOk P w K mg base CX0 1 fa fd ["x"] (sp_li_counts K) := by
  have e := hfa.symm.trans (PySem.W.mg_of X G a0)
  cases e
  have F0 := fun_mk (st := s_li_counts) l0 q0 k0
  have b0 := F0.binds (ps := ["x"]) fun _ _ _ _ _ _ us hl => match us, hl with | [_], _ => rfl
  refine ⟨PySem.W.fnOf "li_counts" "li_counts" (defArgs s_li_counts) (defBody s_li_counts) (defScope s_li_counts) .none kV0 dc0 pm0 an0 cd0 ct0, fun s us hu => match us, hu with | [_], _ => .of_eq rfl, fun base _ _ => ?_⟩
  have O0 : FnOk P w K mg base CX0 1 _ _ ["x"] (sp_li_counts K) := ok_li_counts F0 (PySem.W.mg_none_of X G z_len) (PySem.W.mg_of X G y_WHITE) (PySem.W.mg_of X G y_MOST_BYTES) (PySem.W.mg_of X G y_OUT_OF_RANGE)
  exact O0
theorem end_li_counts {K : PySem.W.Frag} {H : Hp} {a_x : Addr} {x : List Int} (h_x : SqL K H a_x (x.map V.int)) (hwi : ((Codec.inLen 0 70000 x && x.all (Codec.inInt (0) (255))) && true) = true) (hask : PySh55.li_counts_asked x = true) :
    sp_li_counts K [.ref a_x] H (fun v H' => Dw K H' v (.list ((PySh55.li_counts x).map .int))) fun _ _ _ => False := by
  obtain ⟨w_x, hwi⟩ := Bool.and_eq_true_iff.mp hwi
  obtain ⟨l_x, _⟩ := Bool.and_eq_true_iff.mp w_x
  exact ⟨_, x, rfl, h_x, (Codec.inNat_iff.mp l_x).2, hask, fun H' p hp => .lst (L2.SqL.of hp) (L2.dw_ints _)⟩
end Ev
open PySem PySem.W PyProof.Rows
set_option maxRecDepth 100000 in
set_option maxHeartbeats 8000000 in
theorem PySem.Challenge.cw_evenlight_s01_li_counts_holds : PySem.Challenge.rw_evenlight_s01_li_counts.Holds := by
  w_on; k_headS; (case hw => exact ⟨[.list []], by decide +kernel, by decide +kernel⟩)
  k_fillS
  refine L2.walk_specK (r := PySem.Challenge.rw_evenlight_s01_li_counts) (k := 1) (CX := L2.CX0) (ps := ["x"]) (sp := Ev.sp_li_counts) (by decide +kernel) rfl rfl ⟨rfl, by decide, by decide⟩ (fun w h Y => PySem.W.kIn_of Y) ?F ?S (fun _ _ _ _ z => z)
  case F =>
    intro w mg fa h Y KX G hmg
    refine' Ev.all_mk KX G hmg ?a0 ?l0 ?q0 ?k0 ?z_len ?y_MOST_BYTES ?y_OUT_OF_RANGE ?y_WHITE
    (case a0 => k_is)
    (case l0 => k_is)
    (case q0 => k_is)
    (case k0 => k_is)
    (case z_len => k_is)
    (case y_MOST_BYTES => k_is)
    (case y_OUT_OF_RANGE => k_is)
    (case y_WHITE => k_is)
  case S =>
    intro K H xs a hO hwi hask hx
    obtain ⟨a0, u⟩ := a
    cases hx with
    | cons h0 hx =>
    cases hx
    cases h0 with
    | lst hs0 ha0 =>
    have e0 := L2.ints_dw a0 _ ha0
    subst e0
    exact Ev.end_li_counts hs0 hwi hask
#print axioms PySem.Challenge.cw_evenlight_s01_li_counts_holds
