package tree

import (
	"strings"
	"testing"
	"unsafe"

	"barbican/api"
)

// sayIn: a source with one statement, of an expression.
func sayIn(x string) string { return "unit one func f() { say " + x + "; }" }

// P6.5
func TestRead(t *testing.T) {
	reads(t, "unit one", api.Unit{Name: "one"})
	reads(t, "\n unit\n\none ", api.Unit{Name: "one"})
	reads(t, "unit one var x", api.Unit{Name: "one", Vars: []string{"x"}})
	reads(t, "unit u var x var y array a 1 array b 10", api.Unit{Name: "u", Vars: []string{"x", "y"}, Arrays: []api.Array{{Name: "a", Size: 1}, {Name: "b", Size: 10}}})
	reads(t, "unit u array a 3 func f(){} open g(p){} func h(p,q , r\n,\ns) { }", api.Unit{Name: "u", Arrays: []api.Array{{Name: "a", Size: 3}}, Funcs: []api.Func{
		{Name: "f"}, {Name: "g", Open: true, Params: []string{"p"}}, {Name: "h", Params: []string{"p", "q", "r", "s"}}}})
	reads(t, "unit one var x open f(p) { x = (x + p); return x; }", api.Unit{Name: "one", Vars: []string{"x"}, Funcs: []api.Func{
		{Name: "f", Open: true, Params: []string{"p"}, Body: []api.Stmt{set("x", two(1, named("x"), named("p"))), ret(named("x"))}}}})
	reads(t, "unit one func f() { say 1; }", unitOf(say(num(1))))
}

// P6.5
func TestReadStatements(t *testing.T) {
	one, two := []api.Stmt{say(num(1))}, []api.Stmt{say(num(2))}
	for _, c := range []struct {
		s    string
		want []api.Stmt
	}{
		{"", nil},
		{"x = 1;", []api.Stmt{set("x", num(1))}},
		{"x=y;y=x;", []api.Stmt{set("x", named("y")), set("y", named("x"))}},
		{"a[0] = 1;", []api.Stmt{setAt("a", num(0), num(1))}},
		{"return 0; say x;", []api.Stmt{ret(num(0)), say(named("x"))}},
		{"while 1 { }", []api.Stmt{while(num(1))}},
		{"while x { say 1; say 2; }", []api.Stmt{while(named("x"), say(num(1)), say(num(2)))}},
		{"if 1 { } else { }", []api.Stmt{iff(num(1), nil, nil)}},
		{"if 1 { }", []api.Stmt{iff(num(1), nil, nil)}},
		{"if 1 { say 1; }", []api.Stmt{iff(num(1), one, nil)}},
		{"if 1 { say 1; } else { say 2; }", []api.Stmt{iff(num(1), one, two)}},
		{"if 1 { } else { say 2; } say 1;", []api.Stmt{iff(num(1), nil, two), say(num(1))}},
		{"if 1 { } say 2;", []api.Stmt{iff(num(1), nil, nil), say(num(2))}},
		{"if x { if y { say 1; } } else { say 2; }", []api.Stmt{iff(named("x"), []api.Stmt{iff(named("y"), one, nil)}, two)}},
		{"if x { if y { say 1; } else { say 2; } }", []api.Stmt{iff(named("x"), []api.Stmt{iff(named("y"), one, two)}, nil)}},
		{"if x { say 1; } else { if y { } else { say 2; } }", []api.Stmt{iff(named("x"), one, []api.Stmt{iff(named("y"), nil, two)})}},
		{"if x { } if y { } else { say 2; }", []api.Stmt{iff(named("x"), nil, nil), iff(named("y"), nil, two)}},
		{"while x{while y{}}say 1;", []api.Stmt{while(named("x"), while(named("y"))), say(num(1))}},
		{"iff = 1; sayx = 2; elsee = 3;", []api.Stmt{set("iff", num(1)), set("sayx", num(2)), set("elsee", num(3))}},
	} {
		reads(t, "unit one func f() { "+c.s+" }", unitOf(c.want...))
		reads(t, "unit one func f(){"+c.s+"}", unitOf(c.want...))
		reads(t, strings.ReplaceAll("unit one func f ( ) { "+c.s+" }", " ", "\n  "), unitOf(c.want...))
	}
}

// P6.5: a text that is no unit's.
func TestReadRefusesForms(t *testing.T) {
	for _, s := range []string{
		"", " ", "\n", "unit", "one", "units one", "unit 1", "unit (", "unit unit", "unit one two", "unit one;", "unit one unit two", "unit one 1", "unit one x = 1;", "one unit",
		"unit one var", "unit one var 1", "unit one var x y", "unit one var x, y", "unit one var x;", "unit one var var x", "unit one x", "unit one var func", "var x unit one",
		"unit one array a", "unit one array 3", "unit one array a b", "unit one array a 3 4", "unit one array a[3]", "unit one array a = 3", "unit one array a x 3", "unit one array array 3",
		"unit one array a 3 var x", "unit one func f() {} var x", "unit one func f() {} array a 3", "unit one open f() {} var x func g() {}",
		"unit one func", "unit one func f", "unit one func f(", "unit one func f()", "unit one func f() {", "unit one func f() }", "unit one func f() {}}", "unit one func f {}", "unit one func () {}",
		"unit one func f() {};", "unit one func open f() {}", "unit one open func f() {}", "unit one func 1() {}", "unit one func f(1) {}", "unit one func f(p q) {}", "unit one func f(p,) {}", "unit one func f(,p) {}",
		"unit one func f(,) {}", "unit one func f(p,,q) {}", "unit one func f(p {}", "unit one func f p) {}", "unit one func f() say 1;", "unit one func f()() {}", "unit one f() {}", "unit one func f[] {}", "unit one func f(if) {}", "unit one func if() {}",
	} {
		refused(t, s, 4)
	}
	for _, s := range []string{
		";", "1;", "x", "x;", "x = 1", "x = ;", "= 1;", "x == 1;", "x = = 1;", "x = 1;;", "1 = x;", "(x) = 1;", "x.y = 1;", "f();", "x = 1, y = 2;", "x = 1 y = 2;", "x + 1;",
		"a[] = 1;", "a[1 = 1;", "a 1] = 1;", "a[1];", "a[1] 2;", "a[1, 2] = 1;", "a[1][2] = 1;", "a[1] == 1;", "a[1] = ;", "a(1) = 1;",
		"if", "if 1", "if 1 {", "if {}", "if 1 {} else", "if 1 {} else {", "if 1 {} else 1;", "if 1 {} else {} else {}", "if 1 {} else if 2 {}", "if 1; {}", "if 1 say 1;", "if 1 2 {}", "if () {}", "else {}", "else = 1;", "if 1 {};",
		"while", "while 1", "while {}", "while 1 {", "while 1 {} else {}", "while 1;", "while 1 say 1;", "while = 1;", "if = 1;",
		"return", "return;", "return 1", "return 1 2;", "return = 1;", "say", "say;", "say 1", "say 1 2;", "say = 1;", "say say 1;", "return return;", "var x", "var = 1;", "unit = 1;", "open = 1;", "array[1] = 1;", "func f() {}", "{}", "{ say 1; }", "}", "} {",
	} {
		refused(t, "unit one func f() { "+s+" }", 4)
		refused(t, "unit one func f() { say 1; "+s+" }", 4)
		refused(t, "unit one func f() { while 1 { "+s+" } }", 4)
	}
	for _, x := range []string{
		"", "()", "(1)", "(x)", "(1 +)", "(+ 1)", "(1 + 2", "1 + 2", "1 + 2)", "(1 + 2 + 3)", "(1 2)", "(1 + + 2)", "(1 = 2)", "(1 . 2)", "(1 , 2)", "(1 ; 2)", "(1 ( 2)", "(1 plus 2)", "(1 1 2)", "(1 if 2)", "((1 + 2))", "-1", "+1", "+", "(1 - - 1)",
		"a[]", "a[1", "a 1]", "a[1, 2]", "a[1][2]", "a[1](2)", "a[1].f()", "1[2]", "(x + y)[1]", "[1]", "]", ")",
		"f(", "f)", "f(1", "f(1,)", "f(,)", "f(,1)", "f(1 2)", "f(1;2)", "f()()", "f()[1]", "f().g()", "f(,1,2)", "f(1,,2)", "1()", "(f)()",
		"u.", "u.f", ".f()", "u.1()", "u.f[1]", "u..f()", "u.v.f()", "1.f()", "u.(1)", "u.if()", "if.f()", "u(1).f()", "u.f(1", "u.f 1)", "u,f()", "x y", "if", "else", "x = 1", "{}", "say 1", "unit", "return", "while[1]", "say(1)",
	} {
		refused(t, sayIn(x), 4)
		refused(t, sayIn("(1 + "+x+")"), 4)
		if x != "u,f()" { // these are two of them
			refused(t, sayIn("f(1, "+x+")"), 4)
		}
		refused(t, "unit one func f() { a["+x+"] = 1; }", 4)
		refused(t, "unit one func f() { if "+x+" { } }", 4)
	}
}

// P6.5: what Cut refuses, ahead of all else.
func TestReadRefusesWhatCutRefuses(t *testing.T) {
	for _, s := range []string{"unit one!", "unit One", "unit one var abcdefghi", "unit one array a 65536", "unit one array a 03", "unit one func f() { say 65536; }", "unit one\t", "x > 1", "\x00"} {
		refused(t, s, 4)
	}
	reads(t, "unit one"+strings.Repeat(" ", 2992), api.Unit{Name: "one"})
	refused(t, "unit one"+strings.Repeat(" ", 2993), 1)
	refused(t, strings.Repeat("!", 3001), 1)
	refused(t, "one"+strings.Repeat(" ", 3000), 1)
	refused(t, strings.Repeat("(", 1<<20), 1)
	// Where the text is cut, but too deep: a byte that is in no token comes first.
	refused(t, sayIn(strings.Repeat("(", 100)+"!"), 4)
}

// P6.5: at last what Check refuses.
func TestReadRefusesWhatCheckRefuses(t *testing.T) {
	refused(t, "unit one array a 0", 2)
	refused(t, "unit one array a 11", 2)
	refused(t, "unit one array a 65535", 2)
	reads(t, "unit one array a 10", api.Unit{Name: "one", Arrays: []api.Array{{Name: "a", Size: 10}}})
	refused(t, "unit one"+strings.Repeat(" var x", 9), 1)
	refused(t, "unit one"+strings.Repeat(" array x 1", 4), 1)
	refused(t, "unit one"+strings.Repeat(" func f() { }", 9), 1)
	refused(t, "unit one func f(a, b, c, d, e) { }", 1)
	refused(t, sayIn("f(1, 2, 3, 4, 5)"), 1)
	refused(t, sayIn("u.f(1, 2, 3, 4, 5)"), 1)
	for n := range 20 {
		want := api.Errno(1)
		if n <= 11 {
			want = 0
		}
		deep := func(each, last string, n int) string {
			return "unit one func f() { " + strings.Repeat(each+" { ", n) + last + strings.Repeat(" }", n) + " }"
		}
		for _, s := range []string{
			sayIn(strings.Repeat("(1 + ", n) + "x" + strings.Repeat(")", n)), sayIn(strings.Repeat("a[", n) + "x" + strings.Repeat("]", n)),
			// A body without statements may stand one deeper than one with them.
			deep("while 1", "", n), deep("if 1", "", n), deep("if 1 { } else", "", n),
			deep("while 1", "say 1;", max(n-1, 0)), deep("if 1 { } else", "x = 1;", max(n-1, 0)), deep("if 1", "if 1 { }", max(n-1, 0)), deep("while 1", "return 1;", max(n-1, 0)),
		} {
			if _, e := Read(s); e != want {
				t.Errorf("Read(%q): %d", s, int(e))
			}
		}
	}
	if _, e := Read("unit u func f(){" + strings.Repeat("x=1;", 300) + "}"); e != 0 {
		t.Errorf("300 statements: %d", int(e))
	}
	refused(t, "unit u func f(){"+strings.Repeat("x=1;", 301)+"}", 1)
	// At last: what is no unit comes first.
	refused(t, "unit one array a 0 var x", 4)
	refused(t, "unit one array a 0 func", 4)
	refused(t, "unit one"+strings.Repeat(" var x", 9)+" x", 4)
	refused(t, sayIn("f(1, 2, 3, 4, 5"), 4)
	refused(t, sayIn(strings.Repeat("(1 + ", 20)+"x"+strings.Repeat(")", 19)), 4)
	refused(t, "unit one array a 0 func f(a, b, c, d, e) { }", 2)
	refused(t, "unit one array a 0"+strings.Repeat(" func f() { }", 9), 1)
}

// P6.5: 48 statements and expressions may stand within one another while a text is read, not 49. What is wrong ahead of the 49th comes first, what is wrong behind it is not seen.
func TestReadAtMostWithin(t *testing.T) {
	for _, c := range []struct {
		more string // of what each one more has the next one within it
		most int    // so many of them, and what stands within the last one ahead of the next one, are 48
		last string // the 49th
	}{
		{"say @(", 47, "1"}, {"say @(", 47, "("}, {"x = @(", 47, "x"}, {"a[@(", 47, "f()"}, {"a[1] = @(", 47, "u.f()"}, {"return @b[", 47, "b["}, {"say @f(", 47, "1"}, {"say @u.f(", 47, "("},
		{"if @(", 47, "1"}, {"while @b[", 47, "f("}, {"say @(1 + ", 46, "(1"}, {"say @f(1, ", 46, "f(1"}, {"a[@u.f(1, x, ", 46, "u.f(x"}, {"while 1 { say @(", 46, "1"}, {"if 1 { } else { say 1; say @(", 46, "1"},
		{"@while 1 { ", 47, "say 1"}, {"@if 1 { ", 47, "x = f("}, {"@if 1 { } else { ", 47, "a[1"}, {"say 1; @if 1 { say 1; } else { x = y; ", 46, "say (1"}, {"@while 1 { ", 47, "while 1"}, {"@while (1 + 2) { ", 46, "while (1"},
	} {
		ahead, each, _ := strings.Cut(c.more, "@")
		text := func(n int) string { return "unit one func f() { " + ahead + strings.Repeat(each, n) }
		for _, behind := range []string{"", " )", " ; ;", " 1 1 1", " if", " var", "} }", strings.Repeat(" (", 9)} {
			refused(t, text(c.most)+c.last+behind, 1)
			refused(t, text(c.most+1)+c.last+behind, 1)
			refused(t, text(c.most+50)+c.last+behind, 1)
			refused(t, strings.Replace(text(c.most+50), "{", "{ 1;", 1)+c.last+behind, 4)
			refused(t, strings.Replace(text(c.most+50), "unit one", "unit one one", 1)+c.last+behind, 4)
		}
		for _, none := range []string{"", " ,", " ]", " else", " func", " = 1", " + 1"} {
			refused(t, text(c.most)+none, 4)
			refused(t, text(c.most-1)+c.last+none, 4)
			refused(t, text(c.most/2)+c.last+none, 4)
		}
	}
	refused(t, "unit one func f() { say "+strings.Repeat("(", 46)+"1"+strings.Repeat(" + 1)", 46)+"; }", 1)
	refused(t, "unit one func f() { say "+strings.Repeat("(", 46)+"1"+strings.Repeat(" + 1)", 46)+"; ", 4)
	refused(t, "unit one func f() { say "+strings.Repeat("(", 47)+"1"+strings.Repeat(" + 1)", 47)+"; ", 1)
}

// P6.5: what was left again is not stood in any more.
func TestReadWaysBack(t *testing.T) {
	many := strings.Repeat("x = f((1 + a[1]), u.g(1, b[x])); if 1 { while 1 { say f(1); } } else { a[(1 + 2)] = 1; } ", 20)
	if _, e := Read("unit one func f() { " + many + "}"); e != 0 {
		t.Errorf("statements side by side: %d", int(e))
	}
	wide := "f(f(f(f(f(1, 2, 3, 4), f(1, 2, 3, 4)), f(1, (2 + 2), 3, (4 + 4))), a[1], a[2], a[3]), f(1), f(2), f(3))"
	if _, e := Read("unit one func f() { say " + wide + "; say " + wide + "; }"); e != 0 {
		t.Errorf("expressions side by side: %d", int(e))
	}
	deep := strings.Repeat("(", 46) + "1" + strings.Repeat(" + 1)", 46)
	refused(t, "unit one func f() { "+strings.Repeat("say "+deep+"; ", 5)+" }", 1)
	refused(t, "unit one func f() { "+strings.Repeat("say "+deep+"; ", 5)+" 1 }", 4)
	refused(t, "unit one func f() { "+strings.Repeat("say "+deep+"; ", 5)+"} func g() { say "+deep+"; } x", 4)
	refused(t, "unit one func f() { say ("+deep+" + 1); 1 }", 1)
	refused(t, "unit one func f() { say (1 + "+deep+"); 1 }", 1)
	refused(t, "unit one func f() { while 1 { say "+deep+"; } 1 }", 1)
	refused(t, "unit one func f() { while "+deep+" { say 1; } 1 }", 4)
}

// span of memory.
type span struct{ from, to uintptr }

func spanOf[T any](l []T) span {
	from := uintptr(unsafe.Pointer(unsafe.SliceData(l)))
	var one T
	return span{from, from + uintptr(cap(l))*unsafe.Sizeof(one)}
}

func exprSpans(l []api.Expr) []span {
	spans := []span{spanOf(l)}
	for _, x := range l {
		spans = append(spans, exprSpans(x.Args)...)
	}
	return spans
}

func stmtSpans(l []api.Stmt) []span {
	spans := []span{spanOf(l)}
	for _, s := range l {
		spans = append(spans, exprSpans(s.Exprs)...)
		spans = append(spans, stmtSpans(s.Body)...)
		spans = append(spans, stmtSpans(s.Else)...)
	}
	return spans
}

func unitSpans(u api.Unit) []span {
	spans := []span{spanOf(u.Vars), spanOf(u.Arrays), spanOf(u.Funcs)}
	for _, f := range u.Funcs {
		spans = append(spans, spanOf(f.Params))
		spans = append(spans, stmtSpans(f.Body)...)
	}
	return spans
}

// Lists of answers, with their spare room, are new memory, each its own; texts lie outside the source.
func TestReadAnswersNewMemory(t *testing.T) {
	s := "unit one var x var y var z array a 1 array b 2 array c 3 open f(p, q, r) { a[x] = f(x, y, z); if (x + y) { say 1; say 2; say 3; } else { return 1; say u.f(1, 2, (a[1] + 2)); } while 1 { } } func g(p) { say p; }"
	first, _ := Read(s)
	again, e := Read(s)
	if e != 0 {
		t.Fatal(int(e))
	}
	spans := append(unitSpans(first), unitSpans(again)...)
	for i, a := range spans {
		for _, b := range spans[:i] {
			if a.from < b.to && b.from < a.to {
				t.Fatalf("lists share memory: %v, %v", a, b)
			}
		}
	}
	source := span{uintptr(unsafe.Pointer(unsafe.StringData(s))), uintptr(unsafe.Pointer(unsafe.StringData(s))) + uintptr(len(s))}
	for _, name := range []string{first.Name, first.Vars[0], first.Arrays[1].Name, first.Funcs[0].Name, first.Funcs[0].Params[2], first.Funcs[0].Body[0].S, first.Funcs[0].Body[0].Exprs[0].S, first.Funcs[0].Body[1].Else[1].Exprs[0].Of} {
		if at := uintptr(unsafe.Pointer(unsafe.StringData(name))); at >= source.from && at < source.to {
			t.Errorf("%q lies in the source", name)
		}
	}
}
