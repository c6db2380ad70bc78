package tests

import (
	"maps"
	"slices"
	"testing"

	"loop.example/springhead/impl"
)

// badFacts is lists none of which is facts that are ok.
func badFacts() [][]impl.Atom {
	return [][]impl.Atom{
		atoms("p(X)"), atoms("a()", "p(a,X)"), atoms("not()"), atoms("p(a,b,c,d)"), make([]impl.Atom, 1),
		atoms("p()", "p()"), atoms("b()", "a()"), atoms("a(b)", "a(a,a)"), atoms("a()", "c()", "b()"), atoms("a(a,a)", "a(a)"),
		numbered("p", 0, impl.AllMax+1),
		{{Name: "p", Args: []impl.Term{{Var: true, Name: "a"}}}},
	}
}

// badChanges is changes none of which is ok.
func badChanges() []impl.Change {
	out := []impl.Change{
		{Comes: atoms("a()"), Goes: atoms("a()")},
		{Comes: atoms("a()", "b()", "d()"), Goes: atoms("c()", "d()")},
	}
	for _, list := range badFacts() {
		out = append(out, impl.Change{Comes: list}, impl.Change{Goes: list})
	}
	return out
}

func TestFactsOk(t *testing.T) {
	for _, list := range [][]impl.Atom{
		nil, {}, atoms("p()"), atoms("p(a)", "p(a,a)", "p(b)"), atoms("a()", "a(a)", "b()"), atoms("p(a)", "p(a,b)", "p(a,b,c)"),
		numbered("p", 0, impl.AllMax),
	} {
		expect(t, list, impl.FactsOk(list), true)
	}
	for _, list := range badFacts() {
		expect(t, list, impl.FactsOk(list), false)
	}
}

func TestFactsFit(t *testing.T) {
	list := rules("t(X,Y) if e(X,Y) and not s()")
	for _, c := range [][]impl.Atom{nil, atoms("e(a,b)"), atoms("e(a,b)", "s()", "t(a,a)"), atoms("x()", "x(a)", "x(a,b)")} {
		expect(t, c, impl.FactsFit(list, c), true)
	}
	for _, c := range [][]impl.Atom{atoms("e(a)"), atoms("e(a,b)", "e(a,b,c)"), atoms("e(a,b)", "t()"), atoms("s(a)"), atoms("s(s)", "x()")} {
		expect(t, c, impl.FactsFit(list, c), false)
		expect(t, c, impl.FactsFit(nil, c), true)
	}
	for _, c := range badFacts() {
		expect(t, c, impl.FactsFit(list, c), false)
		expect(t, c, impl.FactsFit(nil, c), false)
	}
	for _, bad := range [][]impl.Rule{rules("p(X)"), rules("p() if not p()"), rules("p()", "p(a)"), make([]impl.Rule, 1)} {
		expect(t, bad, impl.FactsFit(bad, nil), false)
		expect(t, bad, impl.FactsFit(bad, atoms("a()")), false)
	}
}

func TestP8Added(t *testing.T) {
	d := newDice(20)
	for range 2000 {
		list, a := d.facts(8), d.fact()
		set := setOf(list)
		there := set[impl.AtomPut(a)]
		set[impl.AtomPut(a)] = true
		expect(t, list, impl.FactsHas(list, a), there)
		more, ok := impl.FactsAdd(list, a)
		expect(t, list, ok, !there)
		expect(t, list, more, listOf(set))
		expect(t, list, impl.FactsHas(more, a), true)
		again, ok := impl.FactsAdd(more, a)
		expect(t, list, ok, false)
		expect(t, list, again, more)
		if back, ok := impl.FactsGone(more, a); !there {
			expect(t, list, ok, true)
			expect(t, list, back, list)
		}
	}
}

func TestP8AddedToMany(t *testing.T) {
	list := numbered("p", 0, impl.AllMax-1)
	full, ok := impl.FactsAdd(list, readAtom("q()"))
	expect(t, "full", ok, true)
	expect(t, "full", full, append(slices.Clone(list), readAtom("q()")))
	over, ok := impl.FactsAdd(full, readAtom("a()"))
	expect(t, "over", ok, false)
	expect(t, "over", over, full)
	there, ok := impl.FactsAdd(full, readAtom("q()"))
	expect(t, "there", ok, false)
	expect(t, "there", there, full)
}

func TestP8NoFact(t *testing.T) {
	list := atoms("p(a)", "p(b)")
	for _, a := range atoms("p(X)", "not()", "p(a,b,c,d)", "", "p(not)", "P()") {
		more, ok := impl.FactsAdd(list, a)
		expect(t, a, ok, false)
		expect(t, a, more, list)
		less, ok := impl.FactsGone(list, a)
		expect(t, a, ok, false)
		expect(t, a, less, list)
		expect(t, a, impl.FactsHas(list, a), false)
	}
	for _, bad := range badFacts() {
		more, ok := impl.FactsAdd(bad, readAtom("z()"))
		expect(t, bad, ok, false)
		expect(t, bad, more, []impl.Atom(nil))
		less, ok := impl.FactsGone(bad, bad[0])
		expect(t, bad, ok, false)
		expect(t, bad, less, []impl.Atom(nil))
		expect(t, bad, impl.FactsHas(bad, bad[0]), false)
	}
	spoiled := impl.Atom{Name: "p", Args: []impl.Term{{Var: true, Name: "a"}}}
	expect(t, spoiled, impl.FactsHas(list, spoiled), false)
}

func TestP9Gone(t *testing.T) {
	d := newDice(21)
	for range 2000 {
		list, a := d.facts(8), d.fact()
		if len(list) > 0 && d.roll(2) == 0 {
			a = list[d.roll(len(list))]
		}
		set := setOf(list)
		there := set[impl.AtomPut(a)]
		delete(set, impl.AtomPut(a))
		less, ok := impl.FactsGone(list, a)
		expect(t, list, ok, there)
		expect(t, list, less, listOf(set))
		expect(t, list, impl.FactsHas(less, a), false)
		again, ok := impl.FactsGone(less, a)
		expect(t, list, ok, false)
		expect(t, list, again, less)
		if back, ok := impl.FactsAdd(less, a); there {
			expect(t, list, ok, true)
			expect(t, list, back, list)
		}
	}
	full := numbered("p", 0, impl.AllMax)
	less, ok := impl.FactsGone(full, full[100])
	expect(t, "full", ok, true)
	expect(t, "full", less, append(slices.Clone(full[:100]), full[101:]...))
}

func TestChangeOk(t *testing.T) {
	for _, c := range []impl.Change{
		{}, {Comes: atoms("a()")}, {Goes: atoms("a()")}, {Comes: atoms("a()", "c()"), Goes: atoms("b()", "d()")}, {Comes: atoms("a(a)"), Goes: atoms("a()", "a(a,a)")},
		{Comes: numbered("p", 0, impl.AllMax), Goes: numbered("q", 0, impl.AllMax)},
	} {
		expect(t, c, impl.ChangeOk(c), true)
	}
	for _, c := range badChanges() {
		expect(t, c, impl.ChangeOk(c), false)
	}
}

func TestP10ChangeLeadsThere(t *testing.T) {
	d := newDice(22)
	for range 2000 {
		a, b := d.facts(8), d.facts(8)
		c := impl.ChangeOf(a, b)
		expect(t, a, impl.ChangeOk(c), true)
		expect(t, a, impl.ChangeDo(a, c), b)
		expect(t, a, impl.ChangeDo(b, impl.Change{Comes: c.Goes, Goes: c.Comes}), a)
		comes, goes := setOf(b), setOf(a)
		for s := range setOf(a) {
			delete(comes, s)
		}
		for s := range setOf(b) {
			delete(goes, s)
		}
		expect(t, a, c, impl.Change{Comes: listOf(comes), Goes: listOf(goes)})
	}
	p, q := numbered("p", 0, impl.AllMax), numbered("q", 0, impl.AllMax)
	expect(t, "all", impl.ChangeOf(p, q), impl.Change{Comes: q, Goes: p})
	expect(t, "same", impl.ChangeOf(p, p), impl.Change{})
	for _, bad := range badFacts() {
		expect(t, bad, impl.ChangeOf(bad, q), impl.Change{})
		expect(t, bad, impl.ChangeOf(q, bad), impl.Change{})
	}
}

// done is what a set of texts is behind a change.
func done(set map[string]bool, c impl.Change) map[string]bool {
	out := maps.Clone(set)
	for s := range setOf(c.Goes) {
		delete(out, s)
	}
	maps.Copy(out, setOf(c.Comes))
	return out
}

func TestP11BehindChange(t *testing.T) {
	d := newDice(23)
	for range 2000 {
		list, c := d.facts(10), d.change(10)
		behind := impl.ChangeDo(list, c)
		expect(t, list, behind, listOf(done(setOf(list), c)))
		expect(t, list, impl.ChangeDo(behind, c), behind)
		for _, a := range c.Comes {
			expect(t, a, impl.FactsHas(behind, a), true)
		}
		for _, a := range c.Goes {
			expect(t, a, impl.FactsHas(behind, a), false)
		}
	}
}

func TestP11ChangeOfTooMuch(t *testing.T) {
	list := numbered("p", 0, 200)
	full := impl.Change{Comes: numbered("q", 0, 100)}
	expect(t, "full", impl.ChangeDo(list, full), append(slices.Clone(list), full.Comes...))
	over := impl.Change{Comes: numbered("q", 0, 101)}
	expect(t, "over", impl.ChangeDo(list, over), []impl.Atom(nil))
	over.Goes = list[:1]
	expect(t, "one goes", impl.ChangeDo(list, over), append(slices.Clone(list[1:]), over.Comes...))
	over.Goes = atoms("r()")
	expect(t, "none goes", impl.ChangeDo(list, over), []impl.Atom(nil))
	for _, bad := range badChanges() {
		expect(t, bad, impl.ChangeDo(atoms("x()"), bad), []impl.Atom(nil))
	}
	for _, bad := range badFacts() {
		expect(t, bad, impl.ChangeDo(bad, impl.Change{}), []impl.Atom(nil))
	}
	tooMany := numbered("p", 0, impl.AllMax+1)
	expect(t, "too many ahead of it", impl.ChangeDo(tooMany, impl.Change{Goes: tooMany[:1]}), []impl.Atom(nil))
}

func TestP12Both(t *testing.T) {
	d := newDice(24)
	for range 3000 {
		a, b := d.change(10), d.change(10)
		both, ok := impl.ChangeBoth(a, b)
		expect(t, a, ok, true)
		expect(t, a, impl.ChangeOk(both), true)
		for range 3 {
			list := d.facts(10)
			expect(t, list, impl.ChangeDo(list, both), impl.ChangeDo(impl.ChangeDo(list, a), b))
		}
		said := setOf(slices.Concat(a.Comes, a.Goes, b.Comes, b.Goes))
		expect(t, a, setOf(slices.Concat(both.Comes, both.Goes)), said)
	}
}

func TestP12SecondWins(t *testing.T) {
	first := impl.Change{Comes: atoms("a()", "b()", "e()"), Goes: atoms("c()", "d()", "f()")}
	second := impl.Change{Comes: atoms("a()", "c()", "g()"), Goes: atoms("b()", "d()", "h()")}
	both, ok := impl.ChangeBoth(first, second)
	expect(t, "both", ok, true)
	expect(t, "both", both, impl.Change{Comes: atoms("a()", "c()", "e()", "g()"), Goes: atoms("b()", "d()", "f()", "h()")})
	none, ok := impl.ChangeBoth(impl.Change{}, impl.Change{})
	expect(t, "none", ok, true)
	expect(t, "none", none, impl.Change{})
}

func TestP12BothTooMuch(t *testing.T) {
	p := numbered("p", 0, impl.AllMax)
	turn := func(c impl.Change) impl.Change { return impl.Change{Comes: c.Goes, Goes: c.Comes} }
	for _, c := range []struct {
		a, b impl.Change
		ok   bool
	}{
		{impl.Change{Comes: p[:200]}, impl.Change{Comes: p[200:]}, true},
		{impl.Change{Comes: p[:200]}, impl.Change{Comes: p[100:]}, true},
		{impl.Change{Comes: p}, impl.Change{Comes: atoms("a()")}, false},
		{impl.Change{Comes: p}, impl.Change{Comes: atoms("a()"), Goes: p[:1]}, true},
		{impl.Change{Comes: p}, impl.Change{Goes: atoms("a()")}, true},
	} {
		both, ok := impl.ChangeBoth(c.a, c.b)
		turned, turnedOk := impl.ChangeBoth(turn(c.a), turn(c.b))
		expect(t, c, ok, c.ok)
		expect(t, c, turnedOk, c.ok)
		if !c.ok {
			expect(t, c, both, impl.Change{})
		}
		expect(t, c, turned, turn(both))
	}
	for _, bad := range badChanges() {
		for _, pair := range [][2]impl.Change{{bad, {}}, {{}, bad}, {bad, {Goes: bad.Comes}}} {
			both, ok := impl.ChangeBoth(pair[0], pair[1])
			expect(t, bad, ok, false)
			expect(t, bad, both, impl.Change{})
		}
	}
}
