package tests

import (
	"fmt"
	"math"
	"slices"
	"strconv"
	"strings"
	"testing"

	"loop.example/springhead/impl"
)

// finder finds proofs as the document says it, with all words tried for all variables.
type finder struct {
	list   []impl.Rule
	rounds map[string]int
	all    []string
	words  []string
}

func finderOf(list []impl.Rule, given []impl.Atom) finder {
	x := finder{list: list, rounds: roundsOf(list, given), words: allWords(list, given)}
	set := map[string]bool{}
	for s := range x.rounds {
		set[s] = true
	}
	for _, a := range listOf(set) {
		x.all = append(x.all, impl.AtomPut(a))
	}
	return x
}

// isOf says whether a fact follows by a rule of just these facts, be it in the order of rounds or not.
func (x finder) isOf(rule int, fact string, kids []string) bool {
	return slices.ContainsFunc(x.ways(rule, fact), func(way []string) bool { return slices.Equal(way, kids) })
}

// ways is of all words by which a rule tells a fact what its parts without Not are; these need not be facts.
func (x finder) ways(rule int, fact string) [][]string {
	r := x.list[rule]
	var out [][]string
	for chosen := range choices(variablesIn(append(slices.Clone(r.Body), impl.Part{Atom: r.Head})), x.words) {
		way, fails := []string{}, replaced(r.Head, chosen) != fact
		for _, p := range r.Body {
			text := replaced(p.Atom, chosen)
			_, there := x.rounds[text]
			if !p.Not {
				way = append(way, text)
			} else if there {
				fails = true
			}
		}
		if !fails {
			out = append(out, way)
		}
	}
	return out
}

// firstWay is the way whose first fact is first of all facts, then its second one, and so on.
func (x finder) firstWay(rule int, fact string) ([]string, bool) {
	var best, bestPlaces = []string(nil), []int(nil)
	for _, way := range x.ways(rule, fact) {
		places, fails := []int{}, false
		for _, kid := range way {
			round, there := x.rounds[kid]
			if !there || round >= x.rounds[fact] {
				fails = true
			}
			places = append(places, slices.Index(x.all, kid))
		}
		if !fails && (best == nil || slices.Compare(places, bestPlaces) < 0) {
			best, bestPlaces = way, places
		}
	}
	return best, best != nil
}

func (x finder) prove(fact string) impl.Proof {
	p := impl.Proof{Fact: readAtom(fact), Rule: -1}
	if x.rounds[fact] == 0 {
		return p
	}
	for i := range x.list {
		way, found := x.firstWay(i, fact)
		if !found {
			continue
		}
		p.Rule = i
		for _, kid := range way {
			p.Kids = append(p.Kids, x.prove(kid))
		}
		return p
	}
	panic("no proof of " + fact)
}

// isProof is ProofOk, but for how many facts there are.
func (x finder) isProof(p impl.Proof) bool {
	fact := impl.AtomPut(p.Fact)
	if p.Rule == -1 {
		round, there := x.rounds[fact]
		return len(p.Kids) == 0 && there && round == 0
	}
	if p.Rule < 0 || p.Rule >= len(x.list) {
		return false
	}
	kids := []string{}
	for _, kid := range p.Kids {
		kids = append(kids, impl.AtomPut(kid.Fact))
		if !x.isProof(kid) {
			return false
		}
	}
	return x.isOf(p.Rule, fact, kids)
}

// flat is a proof and all that are in it, each ahead of its Kids.
func flat(p impl.Proof) []impl.Proof {
	out := []impl.Proof{p}
	for _, kid := range p.Kids {
		out = append(out, flat(kid)...)
	}
	return out
}

func copyProof(p impl.Proof) impl.Proof {
	out := impl.Proof{Fact: readAtom(impl.AtomPut(p.Fact)), Rule: p.Rule}
	for _, kid := range p.Kids {
		out.Kids = append(out.Kids, copyProof(kid))
	}
	return out
}

// spoiled is a proof with one thing in it turned, perhaps into another proof that is right.
func (d *dice) spoiled(p impl.Proof, all []impl.Atom) impl.Proof {
	p = copyProof(p)
	at := &p
	for len(at.Kids) > 0 && d.roll(3) > 0 {
		at = &at.Kids[d.roll(len(at.Kids))]
	}
	switch d.roll(8) {
	case 0:
		at.Rule = d.roll(11) - 2
	case 1:
		at.Fact = all[d.roll(len(all))]
	case 2:
		at.Kids = append(at.Kids, impl.Proof{Fact: all[d.roll(len(all))], Rule: -1})
	case 3:
		if len(at.Kids) > 0 {
			at.Kids = at.Kids[1:]
		}
	case 4:
		slices.Reverse(at.Kids)
	case 5:
		if len(at.Kids) > 0 {
			at.Kids = at.Kids[:len(at.Kids)-1]
		}
	case 6:
		at.Fact = readAtom(d.one("p(zz)", "e(a,c)", "s()", "t(X,a)", "p(a,a)", "not()", "()"))
	case 7:
		if len(at.Kids) > 0 {
			at.Kids = append(at.Kids, at.Kids[0])
		}
	}
	return p
}

// anyProof is a proof in which hardly anything is right.
func (d *dice) anyProof(deep int) impl.Proof {
	p := impl.Proof{Fact: d.evalAtom([]string{"e", "p", "q", "t"}, []string{"a", "b", "c", "X"}), Rule: d.roll(5) - 2}
	if d.roll(5) == 0 {
		p.Fact = readAtom(d.one("", "X()", "not(a)", "p(a,b,c,d)", "p(a b)", "p(,)", "abcdefghij()", "p(XY)", "e(a)"))
	}
	if d.roll(4) == 0 {
		for i := range p.Fact.Args {
			p.Fact.Args[i].Var = !p.Fact.Args[i].Var
		}
	}
	for range d.roll(deep + 1) {
		p.Kids = append(p.Kids, d.anyProof(deep-1))
	}
	return p
}

// chain is a proof of so many facts, one in the other, by `p() if p()`.
func chain(count int) impl.Proof {
	p := impl.Proof{Fact: readAtom("p()"), Rule: -1}
	for range count - 1 {
		p = impl.Proof{Fact: readAtom("p()"), Kids: []impl.Proof{p}}
	}
	return p
}

// path is rules and facts by which the proof of r(n) has 2n+1 facts, and that of z() one more than that of r(last).
func path(last int) ([]impl.Rule, []impl.Atom) {
	var texts []string
	for i := range last {
		texts = append(texts, fmt.Sprintf("e(%03d,%03d)", i, i+1))
	}
	texts = append(texts, "r(000)")
	return rules("r(Y) if r(X) and e(X,Y)", fmt.Sprintf("z() if r(%03d)", last)), atoms(texts...)
}

// deepRules is rules of which facts follow that need many others.
func (d *dice) deepRules() []impl.Rule {
	var out []impl.Rule
	for range impl.RuleMax {
		r := readRule(d.one("t(X,Y) if e(X,Y)", "t(X,Y) if e(X,Y)", "t(X,Z) if t(X,Y) and e(Y,Z)", "t(X,Z) if e(X,Y) and t(Y,Z)", "t(X,Z) if t(X,Y) and t(Y,Z)",
			"t(Y,X) if t(X,Y)", "q(Y) if q(X) and e(X,Y)", "q(Y) if q(X) and q(X) and q(X) and e(X,Y)", "q(Y) if q(X) and t(X,Y) and e(Z,Y)", "q(X) if p(X)", "q(Y) if q(X) and t(Y,X) and not p(Y)",
			"s() if q(X) and t(X,Y) and t(Y,Z) and t(Z,X)", "r(X) if q(X) and t(X,Y) and not e(X,Y)", "r(X) if t(X,Y) and r(Y)", "h(X,Y,Z) if r(X) and q(Y) and t(X,Z) and not s()"))
		if impl.ProgCheck(append(slices.Clone(out), r)) == impl.ProgFine {
			out = append(out, r)
		}
	}
	return out
}

// deepFacts is facts that are mostly steps on paths.
func (d *dice) deepFacts() []impl.Atom {
	set := map[string]bool{}
	for range 2 + d.roll(6) {
		set[impl.AtomPut(d.evalAtom([]string{"e", "e", "e", "e", "e", "p", "q"}, []string{"a", "b", "c", "d"}))] = true
	}
	return listOf(set)
}

// mustFind is ProofFind where it has to be true.
func mustFind(t *testing.T, list []impl.Rule, given []impl.Atom, a impl.Atom) impl.Proof {
	t.Helper()
	p, ok := impl.ProofFind(list, given, a)
	expect(t, []any{list, given, a}, ok, true)
	return p
}

// forProofs goes through rules, facts, and proofs of all that is told of them, of which there are some.
func forProofs(d *dice, rounds int, withNot bool, do func(list []impl.Rule, given, all []impl.Atom, proofs []impl.Proof)) {
	hasNot := func(r impl.Rule) bool {
		return slices.ContainsFunc(r.Body, func(p impl.Part) bool { return p.Not })
	}
	for i := range rounds {
		list, given := d.evalRules(impl.RuleMax, 2), d.evalFacts(8)
		if i%2 == 0 {
			list, given = d.deepRules(), d.deepFacts()
		}
		if !withNot {
			list = slices.DeleteFunc(list, hasNot)
		}
		all, _ := impl.Eval(list, given)
		var proofs []impl.Proof
		for _, a := range all {
			if p, ok := impl.ProofFind(list, given, a); ok {
				proofs = append(proofs, p)
			}
		}
		if len(proofs) > 0 {
			do(list, given, all, proofs)
		}
	}
}

func TestP24WhatIsProved(t *testing.T) {
	d := newDice(70)
	right, wrong := 0, 0
	forProofs(d, 500, true, func(list []impl.Rule, given, all []impl.Atom, proofs []impl.Proof) {
		x := finderOf(list, given)
		for range 20 {
			p := d.spoiled(proofs[d.roll(len(proofs))], all)
			if d.roll(3) == 0 {
				p = d.spoiled(p, all)
			}
			ok := impl.ProofOk(list, given, p)
			expect(t, []any{list, given, p}, ok, x.isProof(p) && len(flat(p)) <= impl.ProofMax)
			if !ok {
				wrong++
				continue
			}
			right++
			for _, q := range flat(p) {
				expect(t, p, impl.FactsHas(all, q.Fact), true)
				expect(t, p, impl.ProofOk(list, given, q), true)
				expect(t, p, q.Rule != -1 || impl.FactsHas(given, q.Fact), true)
			}
		}
		p := d.anyProof(2)
		expect(t, []any{list, given, p}, impl.ProofOk(list, given, p), x.isProof(p))
	})
	if right < 500 || wrong < 500 {
		t.Fatal("too few of interest:", right, wrong)
	}
}

// given and by are proofs, written short.
func given(fact string) impl.Proof {
	return impl.Proof{Fact: readAtom(fact), Rule: -1}
}

func by(rule int, fact string, kids ...impl.Proof) impl.Proof {
	return impl.Proof{Fact: readAtom(fact), Rule: rule, Kids: kids}
}

func TestP24Examples(t *testing.T) {
	list := rules("t(X,Y) if e(X,Y)", "t(X,Z) if t(X,Y) and e(Y,Z)", "r(X) if p(X) and not t(a,X)", "s()", "s() if not z() and p(X) and not x() and e(a,b)", "p(a) if p(c)", "p(c) if p(a)")
	facts := atoms("e(a,b)", "e(b,c)", "p(c)", "p(d)", "t(b,b)")
	ab, bc := given("e(a,b)"), given("e(b,c)")
	for _, c := range []struct {
		p    impl.Proof
		want bool
	}{
		{ab, true},
		{given("e(a,c)"), false},
		{given("t(a,b)"), false},
		{given("t(b,b)"), true},
		{given("s()"), false},
		{given("p(a)"), false},
		{by(-1, "e(a,b)", bc), false},
		{by(-1, "e(a,b)", ab), false},
		{by(-2, "e(a,b)"), false},
		{by(7, "e(a,b)"), false},
		{by(math.MinInt, "e(a,b)"), false},
		{by(math.MaxInt, "e(a,b)"), false},
		{by(0, "e(a,b)"), false},
		{by(0, "t(a,b)", ab), true},
		{by(0, "t(a,b)"), false},
		{by(0, "t(a,b)", ab, ab), false},
		{by(0, "t(a,b)", bc), false},
		{by(0, "t(b,a)", ab), false},
		{by(0, "t(a,b)", by(0, "e(a,b)", ab)), false},
		{by(7, "t(a,b)", ab), false},
		{by(-2, "t(a,b)", ab), false},
		{by(-1, "t(a,b)", ab), false},
		{by(0, "t(a,b)", given("t(a,b)")), false},
		{by(0, "t(b,b)", given("e(b,b)")), false},
		{by(1, "t(a,c)", by(0, "t(a,b)", ab), bc), true},
		{by(1, "t(a,c)", bc, by(0, "t(a,b)", ab)), false},
		{by(1, "t(a,c)", by(0, "t(a,b)", ab)), false},
		{by(1, "t(a,c)", bc), false},
		{by(1, "t(a,c)", by(0, "t(a,b)", ab), bc, bc), false},
		{by(1, "t(a,c)", by(1, "t(a,b)", ab), bc), false},
		{by(0, "t(a,c)", by(0, "t(a,b)", ab), bc), false},
		{by(1, "t(b,c)", given("t(b,b)"), bc), true},
		{by(1, "t(b,c)", by(0, "t(b,b)", ab), bc), false},
		{by(2, "r(d)", given("p(d)")), true},
		{by(2, "r(d)", given("p(c)")), false},
		{by(2, "r(c)", given("p(c)")), false},
		{by(2, "r(a)", by(5, "p(a)", given("p(c)"))), true},
		{by(2, "r(d)", given("p(d)"), given("t(a,d)")), false},
		{by(3, "s()"), true},
		{by(3, "s()", ab), false},
		{by(3, "s(a)"), false},
		{by(4, "s()", given("p(c)"), ab), true},
		{by(4, "s()", given("p(d)"), ab), true},
		{by(4, "s()", ab, given("p(c)")), false},
		{by(4, "s()", given("p(c)"), bc), false},
		{by(4, "s()", given("p(b)"), ab), false},
		// What is given may follow as well, and of facts of later rounds.
		{by(6, "p(c)", by(5, "p(a)", given("p(c)"))), true},
		{by(6, "p(c)", by(5, "p(a)", by(6, "p(c)", by(5, "p(a)", given("p(c)"))))), true},
		{by(6, "p(c)", given("p(a)")), false},
		{impl.Proof{}, false},
		{impl.Proof{Rule: -1}, false},
		{by(0, "t(a,b,c)", ab), false},
		{by(0, "t(a,b)", given("e(a,b,c)")), false},
		{by(0, "t(a)", ab), false},
		{by(0, "t(X,Y)", given("e(X,Y)")), false},
		{by(0, "e(a,b)", ab), false},
	} {
		expect(t, c, impl.ProofOk(list, facts, c.p), c.want)
	}
	variable := given("e(a,b)")
	variable.Fact.Args[1].Var = true
	expect(t, variable, impl.ProofOk(list, facts, variable), false)
	expect(t, variable, impl.ProofOk(list, facts, by(0, "t(a,b)", variable)), false)
	head := by(0, "t(a,b)", ab)
	head.Fact.Args[0].Var = true
	expect(t, head, impl.ProofOk(list, facts, head), false)
}

func TestP24WhatIsNotIsOfEval(t *testing.T) {
	list := rules("q() if o()", "z() if p() and not q()", "y() if not x(a)", "x(X) if w(X)")
	facts := atoms("p()", "z()")
	proof := by(1, "z()", given("p()"))
	expect(t, "without", impl.ProofOk(list, facts, proof), true)
	// Then q() is of Eval, but not given, and no part of the proof.
	expect(t, "with", impl.ProofOk(list, atoms("o()", "p()", "z()"), proof), false)
	expect(t, "with", impl.ProofOk(list, atoms("o()", "p()", "z()"), given("z()")), true)
	expect(t, "no Kids", impl.ProofOk(list, facts, by(2, "y()")), true)
	expect(t, "no Kids", impl.ProofOk(list, atoms("p()", "w(a)"), by(2, "y()")), false)
	expect(t, "no Kids", impl.ProofOk(list, atoms("p()", "w(b)"), by(2, "y()")), true)
}

func TestP24ProofMax(t *testing.T) {
	list, facts := rules("p() if p()", "q() if p() and p() and p() and p()"), atoms("p()")
	for count, want := range map[int]bool{1: true, 2: true, impl.ProofMax - 1: true, impl.ProofMax: true, impl.ProofMax + 1: false, 1000: false} {
		expect(t, count, impl.ProofOk(list, facts, chain(count)), want)
	}
	for count, want := range map[int]bool{impl.ProofMax - 4: true, impl.ProofMax - 3: false} {
		expect(t, count, impl.ProofOk(list, facts, by(1, "q()", chain(1), chain(1), chain(1), chain(count))), want)
		expect(t, count, impl.ProofOk(list, facts, by(1, "q()", chain(count), chain(1), chain(1), chain(1))), want)
	}
}

func TestP24WhatMayNotBeGiven(t *testing.T) {
	for _, c := range badGiven() {
		list, facts := c[0].([]impl.Rule), c[1].([]impl.Atom)
		for _, a := range append(slices.Clone(facts), atoms("a()", "p()", "p(a)")...) {
			for _, rule := range []int{-1, 0} {
				expect(t, c, impl.ProofOk(list, facts, impl.Proof{Fact: a, Rule: rule}), false)
			}
			p, ok := impl.ProofFind(list, facts, a)
			expect(t, c, ok, false)
			expect(t, c, p, impl.Proof{})
		}
	}
	// Eval is false of too much that follows, and of too much that is given.
	for _, c := range []struct {
		list  []impl.Rule
		facts []impl.Atom
	}{{rules("h(X,Y) if p(X) and p(Y)"), numbered("p", 0, 17)}, {nil, numbered("p", 0, impl.GivenMax+1)}} {
		first := impl.AtomPut(c.facts[0])
		expect(t, c, impl.ProofOk(c.list, c.facts, given(first)), false)
		expect(t, c, impl.ProofOk(c.list, c.facts[1:], given(impl.AtomPut(c.facts[1]))), true)
		for _, text := range []string{first, "h(000,000)"} {
			p, ok := impl.ProofFind(c.list, c.facts, readAtom(text))
			expect(t, c, ok, false)
			expect(t, c, p, impl.Proof{})
		}
	}
}

func TestP25FindsTheFirst(t *testing.T) {
	d := newDice(71)
	deep, broad, great := 0, 0, 0
	for i := range 500 {
		list, facts := d.evalRules(impl.RuleMax, 2), d.evalFacts(8)
		if i%2 == 0 {
			list, facts = d.deepRules(), d.deepFacts()
		}
		x := finderOf(list, facts)
		for _, text := range x.all {
			a := readAtom(text)
			p, ok := impl.ProofFind(list, facts, a)
			want := x.prove(text)
			expect(t, []any{list, facts, text}, ok, len(flat(want)) <= impl.ProofMax)
			if !ok {
				expect(t, []any{list, facts, text}, p, impl.Proof{})
				expect(t, []any{list, facts, text}, x.rounds[text] >= 3, true)
				great++
				continue
			}
			expect(t, []any{list, facts, text}, p, want)
			expect(t, []any{list, facts, p}, impl.ProofOk(list, facts, p), true)
			if x.rounds[text] > 2 {
				deep++
			}
			if len(flat(p)) > 8 {
				broad++
			}
		}
		none := d.evalAtom([]string{"e", "t", "q", "x"}, []string{"a", "b", "c", "d", "X"})
		if _, there := x.rounds[impl.AtomPut(none)]; !there {
			p, ok := impl.ProofFind(list, facts, none)
			expect(t, []any{list, facts, none}, ok, false)
			expect(t, []any{list, facts, none}, p, impl.Proof{})
		}
	}
	if deep < 100 || broad < 100 || great < 3 {
		t.Fatal("too few of interest:", deep, broad, great)
	}
}

func TestP25Examples(t *testing.T) {
	list := rules("t(X,Y) if e(X,Y)", "t(X,Z) if t(X,Y) and e(Y,Z)", "r(X) if p(X) and not t(a,X)")
	facts := atoms("e(a,b)", "e(b,c)", "p(c)", "p(d)")
	for _, c := range []struct {
		list  []impl.Rule
		given []impl.Atom
		fact  string
		want  string
	}{
		{list, facts, "e(a,b)", "e(a,b) given\n"},
		{list, facts, "t(a,b)", "t(a,b) by 0\n  e(a,b) given\n"},
		{list, facts, "t(a,c)", "t(a,c) by 1\n  t(a,b) by 0\n    e(a,b) given\n  e(b,c) given\n"},
		{list, facts, "r(d)", "r(d) by 2\n  p(d) given\n"},
		{list, facts, "r(c)", ""},
		{list, facts, "t(c,a)", ""},
		{list, facts, "e(a)", ""},
		{list, facts, "e(a,b,c)", ""},
		{list, facts, "e(a,X)", ""},
		{list, facts, "x()", ""},
		{list, facts, "", ""},
		{nil, atoms("x(a)", "x(a,b)"), "x(a,b)", "x(a,b) given\n"},
		{nil, nil, "x()", ""},
		// Without parts, or with Not alone.
		{rules("a()"), nil, "a()", "a() by 0\n"},
		{rules("a() if not b()", "a()"), nil, "a()", "a() by 0\n"},
		{rules("a() if not b()", "a()"), atoms("b()"), "a()", "a() by 1\n"},
		// What is given needs no rule.
		{rules("a()", "a() if b()"), atoms("a()", "b()"), "a()", "a() given\n"},
		{rules("a(X) if b(X)"), atoms("a(a)", "b(a)", "b(b)"), "a(a)", "a(a) given\n"},
		// The first rule, though another one needs less.
		{rules("a() if b() and b()", "a() if b()"), atoms("b()"), "a()", "a() by 0\n  b() given\n  b() given\n"},
		{rules("a() if c()", "a() if b()"), atoms("b()"), "a()", "a() by 1\n  b() given\n"},
		// A rule of which a fact comes too late is none that tells it first.
		{rules("a() if c()", "a() if b()", "c() if b()"), atoms("b()"), "a()", "a() by 1\n  b() given\n"},
		{rules("a() if c()", "a() if d()", "c() if b()", "d() if b()"), atoms("b()"), "a()", "a() by 0\n  c() by 2\n    b() given\n"},
		{rules("a(X) if a(X) and b(X)", "a(X) if b(X)"), atoms("b(b)"), "a(b)", "a(b) by 1\n  b(b) given\n"},
		// The first words: by the first part's fact, then the second's.
		{rules("a() if q(X) and p(X)"), atoms("p(c)", "p(d)", "q(b)", "q(c)", "q(d)"), "a()", "a() by 0\n  q(c) given\n  p(c) given\n"},
		{rules("a() if e(Y,X) and e(X,Z)"), atoms("e(a,b)", "e(b,a)", "e(b,b)"), "a()", "a() by 0\n  e(a,b) given\n  e(b,a) given\n"},
		{rules("a() if e(X,Y) and not e(Y,X)"), atoms("e(a,b)", "e(b,a)", "e(b,b)", "e(b,c)", "e(b,d)"), "a()", "a() by 0\n  e(b,c) given\n"},
		{rules("a() if not p(Y) and q(X) and r(Y)"), atoms("p(a)", "p(b)", "q(d)", "q(e)", "r(a)", "r(b)", "r(c)", "r(d)"), "a()", "a() by 0\n  q(d) given\n  r(c) given\n"},
		{rules("a(Y) if p(Z) and e(X,Y)"), atoms("e(b,a)", "e(c,a)", "p(x)", "p(y)"), "a(a)", "a(a) by 0\n  p(x) given\n  e(b,a) given\n"},
		{rules("a() if h(Z) and p(X) and e(X,Y)"), atoms("e(b,a)", "e(b,b)", "h(h)", "h(i)", "p(a)", "p(b)"), "a()", "a() by 0\n  h(h) given\n  p(b) given\n  e(b,a) given\n"},
		// First in Eval, not first to come.
		{rules("q(a) if p(b)", "z() if q(X) and y()", "y() if p(b)"), atoms("p(b)", "q(b)"), "z()", "z() by 1\n  q(a) by 0\n    p(b) given\n  y() by 2\n    p(b) given\n"},
		// First of what came in time.
		{rules("q(a) if y()", "z() if q(X) and y()", "y() if p(b)"), atoms("p(b)", "q(b)"), "z()", "z() by 1\n  q(b) given\n  y() by 2\n    p(b) given\n"},
		{rules("a(X,X) if b(X)"), atoms("b(a)", "b(b)"), "a(b,b)", "a(b,b) by 0\n  b(b) given\n"},
		{rules("a(X,X) if b(X)", "a(X,Y) if c(X,Y)"), atoms("b(a)", "b(b)", "c(a,b)"), "a(a,b)", "a(a,b) by 1\n  c(a,b) given\n"},
		{rules("a(a,X) if b(X)", "a(b,X) if b(X)"), atoms("b(a)"), "a(b,a)", "a(b,a) by 1\n  b(a) given\n"},
		{rules("c() if not b()", "b() if not a()", "a() if not x()"), nil, "c()", "c() by 0\n"},
	} {
		p, ok := impl.ProofFind(c.list, c.given, readAtom(c.fact))
		expect(t, c, ok, c.want != "")
		if ok {
			expect(t, c, impl.ProofPut(p), c.want)
			expect(t, c, p, finderOf(c.list, c.given).prove(c.fact))
			expect(t, c, impl.ProofOk(c.list, c.given, p), true)
		} else {
			expect(t, c, p, impl.Proof{})
		}
	}
	variable := readAtom("e(a,b)")
	variable.Args[0].Var = true
	for _, a := range append(atoms("not()", "e(a,not)", "e(a,b,c,d)", "e(A,B)"), variable, impl.Atom{}) {
		p, ok := impl.ProofFind(list, facts, a)
		expect(t, a, ok, false)
		expect(t, a, p, impl.Proof{})
	}
}

func TestP25ProofMax(t *testing.T) {
	for last, want := range map[int]bool{28: true, 29: true, 30: false, 39: false} {
		list, facts := path(last)
		p, ok := impl.ProofFind(list, facts, readAtom("z()"))
		expect(t, last, ok, want)
		if !ok {
			expect(t, last, p, impl.Proof{})
			continue
		}
		expect(t, last, impl.ProofSize(p), 2*last+2)
		expect(t, last, impl.ProofOk(list, facts, p), true)
	}
	list, facts := path(39)
	for n := range 40 {
		p, ok := impl.ProofFind(list, facts, impl.Atom{Name: "r", Args: numbered("", n, 1)[0].Args})
		expect(t, n, ok, 2*n+1 <= impl.ProofMax)
		if ok {
			expect(t, n, len(flat(p)), 2*n+1)
		}
	}
	// Each needs the one ahead of it four times: 1, 5, 21 and 85 facts, then far too many.
	fourfold := rules("b() if a() and a() and a() and a()", "c() if b() and b() and b() and b()", "d() if c() and c() and c() and c()", "e() if d() and d() and d() and d()", "f() if e() and e() and e() and e()", "z() if not g()", "y() if not x() and b()", "g() if c() and c() and b() and b()")
	want := map[string]int{"a()": 1, "b()": 5, "c()": 21, "d()": 0, "e()": 0, "f()": 0, "g()": 53, "y()": 6, "z()": 0}
	for text, size := range want {
		p, ok := impl.ProofFind(fourfold, atoms("a()"), readAtom(text))
		expect(t, text, ok, size > 0)
		if ok {
			expect(t, text, len(flat(p)), size)
		} else {
			expect(t, text, p, impl.Proof{})
		}
	}
	// d() has 60 facts, and 61.
	for _, c := range []struct {
		rule string
		ok   bool
	}{{"d() if c() and c() and h()", true}, {"d() if c() and c() and h() and a()", false}} {
		rest := rules("b() if a() and a() and a() and a()", "c() if b() and b() and b() and b()", "h() if b() and b() and b() and a()", c.rule)
		p, ok := impl.ProofFind(rest, atoms("a()"), readAtom("d()"))
		expect(t, c, ok, c.ok)
		if ok {
			expect(t, c, len(flat(p)), impl.ProofMax)
		}
	}
}

// TestP25ManyWords is of rules for which there are very many words, and few that make a difference.
func TestP25ManyWords(t *testing.T) {
	list := rules("q(X,Y) if p(X) and p(Y)", "z() if q(A,B) and q(C,D) and q(E,F) and not p(E)", "z() if q(A,B) and q(C,D) and q(E,F) and r(E)", "z() if p(A) and q(B,C) and q(E,F) and q(F,E)", "r(X) if z() and p(X)")
	facts := numbered("p", 0, 16)
	p := mustFind(t, list, facts, readAtom("z()"))
	expect(t, "z()", impl.ProofPut(p), "z() by 3\n  p(000) given\n"+strings.Repeat("  q(000,000) by 0\n    p(000) given\n    p(000) given\n", 3))
	p = mustFind(t, list, facts, readAtom("r(015)"))
	expect(t, "r(015)", impl.ProofSize(p), 13)
	expect(t, "r(015)", impl.ProofOk(list, facts, p), true)
}

func TestP26WhatAProofNeeds(t *testing.T) {
	forProofs(newDice(72), 300, true, func(list []impl.Rule, facts, _ []impl.Atom, proofs []impl.Proof) {
		for _, p := range proofs {
			set := map[string]bool{}
			for _, q := range flat(p) {
				if q.Rule == -1 {
					set[impl.AtomPut(q.Fact)] = true
				}
			}
			needs := impl.ProofNeeds(p)
			expect(t, p, needs, listOf(set))
			expect(t, p, hasAll(facts, needs), true)
		}
	})
	forProofs(newDice(73), 300, false, func(list []impl.Rule, facts, _ []impl.Atom, proofs []impl.Proof) {
		for _, p := range proofs {
			expect(t, []any{list, p}, impl.FactsHas(mustEval(t, list, impl.ProofNeeds(p)), p.Fact), true)
		}
	})
}

func TestP26Examples(t *testing.T) {
	a, b := given("a()"), given("b(a)")
	expect(t, "given", impl.ProofNeeds(b), atoms("b(a)"))
	expect(t, "nothing", impl.ProofNeeds(by(0, "a()")), []impl.Atom(nil))
	expect(t, "zero", impl.ProofNeeds(impl.Proof{}), []impl.Atom(nil))
	expect(t, "twice", impl.ProofNeeds(by(0, "x()", b, a, b, by(1, "y()", a, by(-2, "z()", given("c()"))))), atoms("a()", "b(a)", "c()"))
	expect(t, "below -1", impl.ProofNeeds(by(-2, "a()", by(math.MinInt, "b()"))), []impl.Atom(nil))
	expect(t, "Kids of what is given", impl.ProofNeeds(by(-1, "b()", a, by(-1, "c()", b))), atoms("a()", "b()", "b(a)", "c()"))
	wide := impl.Proof{Rule: 3}
	for _, x := range numbered("p", 0, 500) {
		wide.Kids = append(wide.Kids, impl.Proof{Fact: x, Rule: -1}, impl.Proof{Fact: x, Rule: -1})
	}
	slices.Reverse(wide.Kids)
	expect(t, "more than ProofMax, and than AllMax", impl.ProofNeeds(wide), numbered("p", 0, 500))
}

func TestP26FactsThatAreNotOk(t *testing.T) {
	ordered := atoms("", "(a)", "(a,a)", "(b)", "X()", "\x00", "a()", "a(not)", "a(not,a,a,a,a,a)", "abcdefghijklm(a,,b)", "not()", "p(X,Y)", "p(a,b,c,d)", "p(a,b,c,d,e)", "p(a,c)", "\xff(\xff)")
	slices.SortFunc(ordered, orderOfAtoms)
	root := impl.Proof{Rule: 7}
	for i := range ordered {
		// Not from the first to the last, each twice.
		x := impl.Proof{Fact: ordered[i*7%len(ordered)], Rule: -1}
		root.Kids = append(root.Kids, x, by(0, "u()", x))
	}
	expect(t, "in order", impl.ProofNeeds(root), ordered)
	// Words and variables of one name are not told apart: the first remains.
	word := impl.Atom{Name: "p", Args: []impl.Term{{Name: "a"}, {Name: "B"}}}
	variable := impl.Atom{Name: "p", Args: []impl.Term{{Var: true, Name: "a"}, {Name: "B"}}}
	other := impl.Atom{Name: "p", Args: []impl.Term{{Name: "a"}, {Var: true, Name: "B"}}}
	for _, list := range [][]impl.Atom{{word, variable, other}, {variable, other, word}, {other, word, variable}} {
		kids := impl.Proof{Kids: []impl.Proof{{Fact: list[0], Rule: -1}, {Fact: list[1], Rule: -1}, {Fact: list[2], Rule: -1}, given("a()")}}
		expect(t, list, impl.ProofNeeds(kids), []impl.Atom{readAtom("a()"), list[0]})
		nested := impl.Proof{Fact: list[0], Rule: -1, Kids: []impl.Proof{{Fact: list[1], Rule: -1, Kids: []impl.Proof{given("z()")}}, {Fact: list[2], Rule: -1}}}
		expect(t, list, impl.ProofNeeds(nested), []impl.Atom{list[0], readAtom("z()")})
		inner := impl.Proof{Kids: []impl.Proof{{Kids: []impl.Proof{{Fact: list[0], Rule: -1}}}, {Fact: list[1], Rule: -1}}}
		expect(t, list, impl.ProofNeeds(inner), []impl.Atom{list[0]})
	}
}

// textOf is a proof as the document says it, line by line.
func textOf(p impl.Proof, ahead string) string {
	var names []string
	for _, x := range p.Fact.Args {
		names = append(names, x.Name)
	}
	out := ahead + p.Fact.Name + "(" + strings.Join(names, ",") + ") by " + strconv.Itoa(p.Rule) + "\n"
	if p.Rule < 0 {
		out = ahead + p.Fact.Name + "(" + strings.Join(names, ",") + ") given\n"
	}
	for _, kid := range p.Kids {
		out += textOf(kid, ahead+"  ")
	}
	return out
}

func TestP27Lines(t *testing.T) {
	d := newDice(74)
	forProofs(d, 300, true, func(list []impl.Rule, facts, _ []impl.Atom, proofs []impl.Proof) {
		for _, p := range append(proofs, d.anyProof(3), d.anyProof(2), d.anyProof(4)) {
			text, size := impl.ProofPut(p), impl.ProofSize(p)
			expect(t, p, size, len(flat(p)))
			if size > impl.ProofMax {
				expect(t, p, text, "")
				continue
			}
			expect(t, p, text, textOf(p, ""))
			expect(t, p, strings.Count(text, "\n"), size)
			expect(t, p, strings.HasPrefix(text, impl.AtomPut(p.Fact)), true)
		}
	})
}

func TestP27Examples(t *testing.T) {
	odd := impl.Atom{Name: "Not", Args: []impl.Term{{Var: true, Name: "a b"}, {}, {Name: "X"}, {Name: "x"}}}
	for _, c := range []struct {
		p    impl.Proof
		want string
	}{
		{given("a()"), "a() given\n"},
		{by(-2, "a()"), "a() given\n"},
		{by(math.MinInt, "a(b)"), "a(b) given\n"},
		{by(0, "a()"), "a() by 0\n"},
		{by(10, "a(X,b)"), "a(X,b) by 10\n"},
		{by(math.MaxInt, "a()"), "a() by " + strconv.Itoa(math.MaxInt) + "\n"},
		{by(-1, "a()", given("b()")), "a() given\n  b() given\n"},
		{by(2, "a()", by(1, "b()", given("c()")), by(0, "d()"), given("e()")), "a() by 2\n  b() by 1\n    c() given\n  d() by 0\n  e() given\n"},
		// Facts that are not ok are written like others.
		{impl.Proof{}, "() by 0\n"},
		{impl.Proof{Fact: odd, Rule: 1, Kids: []impl.Proof{given("not()"), given("\xff(not)")}}, "Not(a b,,X,x) by 1\n  not() given\n  \xff(not) given\n"},
	} {
		expect(t, c, impl.ProofPut(c.p), c.want)
		expect(t, c, impl.ProofSize(c.p), strings.Count(c.want, "\n"))
	}
}

func TestP27ProofMax(t *testing.T) {
	for _, count := range []int{1, 2, impl.ProofMax - 1, impl.ProofMax, impl.ProofMax + 1, impl.ProofMax + 2, 5000} {
		wide := impl.Proof{Fact: readAtom("q()"), Kids: slices.Repeat([]impl.Proof{given("p()")}, count-1)}
		for _, p := range []impl.Proof{chain(count), wide} {
			expect(t, count, impl.ProofSize(p), count)
			if count <= impl.ProofMax {
				expect(t, count, impl.ProofPut(p), textOf(p, ""))
			} else {
				expect(t, count, impl.ProofPut(p), "")
			}
		}
	}
}

func TestP55KidsCameEarlier(t *testing.T) {
	forProofs(newDice(75), 400, true, func(list []impl.Rule, facts, all []impl.Atom, proofs []impl.Proof) {
		_, rounds, _ := impl.Rounds(list, facts)
		came := map[string]int{}
		for i, a := range all {
			came[impl.AtomPut(a)] = rounds[i]
		}
		for _, p := range proofs {
			for _, q := range flat(p) {
				round := came[impl.AtomPut(q.Fact)]
				expect(t, p, q.Rule == -1, round == 0)
				for _, kid := range q.Kids {
					expect(t, p, came[impl.AtomPut(kid.Fact)] < round, true)
				}
			}
		}
	})
}

func TestP56OneFactMore(t *testing.T) {
	d := newDice(76)
	forProofs(d, 400, false, func(list []impl.Rule, facts, all []impl.Atom, proofs []impl.Proof) {
		more, added := impl.FactsAdd(facts, d.evalAtom([]string{"e", "p", "q", "t", "r", "s"}, []string{"a", "b", "c", "d"}))
		if _, ok := impl.Eval(list, more); !ok || !added {
			return
		}
		for _, p := range proofs {
			expect(t, []any{list, more, p}, impl.ProofOk(list, more, p), true)
		}
		p := d.spoiled(proofs[d.roll(len(proofs))], all)
		if impl.ProofOk(list, facts, p) {
			expect(t, []any{list, more, p}, impl.ProofOk(list, more, p), true)
		}
	})
	list := rules("p() if q() and not r()")
	p := by(0, "p()", given("q()"))
	expect(t, "with Not", impl.ProofOk(list, atoms("q()"), p), true)
	expect(t, "with Not, one fact more", impl.ProofOk(list, atoms("q()", "r()"), p), false)
	expect(t, "with Not, another fact more", impl.ProofOk(list, atoms("q()", "s()"), p), true)
}
