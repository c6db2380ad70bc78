package tests

import (
	"regexp"
	"strings"
	"testing"

	"loop.example/springhead/impl"
)

func TestP37ChangeText(t *testing.T) {
	c := impl.Change{Comes: atoms("a()", "p(b)"), Goes: atoms("b(a,b)", "p(a)")}
	expect(t, "put", impl.ChangePut(c), "-b(a,b) -p(a) +a() +p(b) ")
	expect(t, "nothing", impl.ChangePut(impl.Change{}), "")
	got, ok := impl.ChangeGet("")
	expect(t, "nothing", ok, true)
	expect(t, "nothing", got, impl.Change{})
	d := newDice(30)
	for range 2000 {
		c := d.change(8)
		got, ok := impl.ChangeGet(impl.ChangePut(c))
		expect(t, c, ok, true)
		expect(t, c, got, c)
	}
	full := impl.Change{Comes: numbered("p", 0, impl.AllMax), Goes: numbered("q", 0, impl.AllMax)}
	got, ok = impl.ChangeGet(impl.ChangePut(full))
	expect(t, "full", ok, true)
	expect(t, "full", got, full)
}

func TestP37ChangesThatAreNone(t *testing.T) {
	for _, c := range badChanges() {
		expect(t, c, impl.ChangePut(c), "")
	}
	tooMany := ""
	for _, a := range numbered("p", 0, impl.AllMax+1) {
		tooMany += "+" + impl.AtomPut(a) + " "
	}
	for _, s := range []string{
		" ", "+", "-", "+ ", "- ", "+a()", "-a()", "+a() -b() ", "+b() +a() ", "-b() -a() ", "+a() +a() ", "-a() -a() ", "-a() +a() ", "a() ", "*a() ", "++a() ", "+-a() ", "+a()  ", " +a() ",
		"+a() +b()", "+a()+b() ", "+a(X) ", "+not() ", "+a(not) ", "+a(a,b,c,d) ", "+a( a) ", "+a()\n", "+a() x", "-a() b() ", "+a(b,) ", "\xff", tooMany, strings.ReplaceAll(tooMany, "+", "-"),
		strings.Repeat("a", 300000), strings.Repeat("+a() ", 50000),
	} {
		c, ok := impl.ChangeGet(s)
		expect(t, s, ok, false)
		expect(t, s, c, impl.Change{})
	}
}

func TestP37TurnedChanges(t *testing.T) {
	d := newDice(31)
	shape := regexp.MustCompile(`^(?:-` + atomShape + ` )*(?:\+` + atomShape + ` )*$`)
	read := 0
	for range 20000 {
		text := d.turned(impl.ChangePut(d.change(4)) + "+z() ")
		c, ok := impl.ChangeGet(text)
		if ok && (impl.ChangePut(c) != text || !impl.ChangeOk(c) || !fitsShape(shape, text)) || !ok && !same(c, impl.Change{}) {
			t.Fatalf("%q: %v", text, c)
		}
		if ok {
			read++
		}
	}
	if read < 100 {
		t.Fatal("too few are read:", read)
	}
}
