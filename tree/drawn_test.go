package tree

import (
	"fmt"
	"math/rand"
	"regexp"
	"slices"
	"strings"
	"testing"

	"barbican/api"
	"barbican/token"
)

// The model works answers out another way than the program does: forms by patterns, texts by laying out tokens, reading by a stack of what is still to come.

var identForm = regexp.MustCompile(`\A[a-z][a-z0-9]{0,7}\z`)

func modelIdent(s string) bool { return identForm.MatchString(s) && !slices.Contains(keywords, s) }

// shapeOf a name: empty, an ident, or another text.
func shapeOf(s string) string {
	switch {
	case s == "":
		return "-"
	case modelIdent(s):
		return "i"
	}
	return "x"
}

// Kind, whether N is 0, the shapes of Of and S, and how many Args there are.
var exprForm = regexp.MustCompile(`\A(?:1.--0|2z-i0|3z-i1|4z[-i]i[0-4]|5.--2)\z`)

// Kind, the shape of S, and how many Exprs, whether there is a Body, an Else.
var stmtForm = regexp.MustCompile(`\A(?:1i1--|2i2--|3-1[-b][-b]|4-1[-b]-|[56]-1--)\z`)

func either(is bool, yes, no string) string {
	if is {
		return yes
	}
	return no
}

// faults of an expression, all of them, in their order; what is too deep is not looked into.
func exprFaults(x api.Expr, depth int) []api.Errno {
	if depth > 12 {
		return []api.Errno{1}
	}
	var l []api.Errno
	if x.Kind < 1 || x.Kind > 5 {
		l = append(l, 3)
	}
	if len(x.Args) > 4 {
		l = append(l, 1)
	}
	if !exprForm.MatchString(fmt.Sprint(x.Kind) + either(x.N == 0, "z", "n") + shapeOf(x.Of) + shapeOf(x.S) + fmt.Sprint(len(x.Args))) {
		l = append(l, 4)
	}
	if x.Kind == 1 && (x.N < 0 || x.N > 65535) || x.Kind == 5 && (x.N < 1 || x.N > 10) {
		l = append(l, 2)
	}
	for _, a := range x.Args {
		l = append(l, exprFaults(a, depth+1)...)
	}
	return l
}

func stmtFaults(l []api.Stmt, depth int) []api.Errno {
	if depth > 12 {
		return []api.Errno{1}
	}
	var faults []api.Errno
	for _, s := range l {
		if s.Kind < 1 || s.Kind > 6 {
			faults = append(faults, 3)
		}
		if !stmtForm.MatchString(fmt.Sprint(s.Kind) + shapeOf(s.S) + fmt.Sprint(len(s.Exprs)) + either(len(s.Body) > 0, "b", "-") + either(len(s.Else) > 0, "b", "-")) {
			faults = append(faults, 4)
		}
		for _, x := range s.Exprs {
			faults = append(faults, exprFaults(x, 1)...)
		}
		faults = append(faults, stmtFaults(s.Body, depth+1)...)
		faults = append(faults, stmtFaults(s.Else, depth+1)...)
	}
	return faults
}

// modelCount of all statements: lists that are still to be counted wait in a line.
func modelCount(u api.Unit) int {
	var line [][]api.Stmt
	for _, f := range u.Funcs {
		line = append(line, f.Body)
	}
	n := 0
	for i := 0; i < len(line); i++ {
		n += len(line[i])
		for _, s := range line[i] {
			line = append(line, s.Body, s.Else)
		}
	}
	return n
}

func modelCheck(u api.Unit) api.Errno {
	var l []api.Errno
	fault := func(is bool, e api.Errno) {
		if is {
			l = append(l, e)
		}
	}
	fault(!modelIdent(u.Name), 4)
	fault(len(u.Vars) > 8 || len(u.Arrays) > 3 || len(u.Funcs) > 8, 1)
	for _, s := range u.Vars {
		fault(!modelIdent(s), 4)
	}
	for _, a := range u.Arrays {
		fault(!modelIdent(a.Name), 4)
		fault(a.Size < 1 || a.Size > 10, 2)
	}
	for _, f := range u.Funcs {
		fault(!modelIdent(f.Name), 4)
		fault(len(f.Params) > 4, 1)
		for _, s := range f.Params {
			fault(!modelIdent(s), 4)
		}
		l = append(l, stmtFaults(f.Body, 1)...)
	}
	fault(modelCount(u) > 300, 1)
	if len(l) == 0 {
		return 0
	}
	return l[0]
}

// modelTokens of a unit, with blanks between them.
func modelTokens(u api.Unit) string {
	l := []string{"unit", u.Name}
	for _, s := range u.Vars {
		l = append(l, "var", s)
	}
	for _, a := range u.Arrays {
		l = append(l, "array", a.Name, fmt.Sprint(a.Size))
	}
	for _, f := range u.Funcs {
		l = append(l, either(f.Open, "open", "func"), f.Name, "(", strings.Join(f.Params, " , "), ")", bodyTokens(f.Body))
	}
	return strings.Join(strings.Fields(strings.Join(l, " ")), " ")
}

func bodyTokens(l []api.Stmt) string {
	out := "{ "
	for _, s := range l {
		x := exprTokens(s.Exprs)
		out += []string{
			1: s.S + " = " + x[0] + " ;", 2: s.S + " [ " + x[0] + " ] = " + x[len(x)-1] + " ;", 3: "if " + x[0] + " " + bodyTokens(s.Body) + " else " + bodyTokens(s.Else),
			4: "while " + x[0] + " " + bodyTokens(s.Body), 5: "return " + x[0] + " ;", 6: "say " + x[0] + " ;",
		}[s.Kind] + " "
	}
	return out + "}"
}

func exprTokens(l []api.Expr) []string {
	var out []string
	for _, x := range l {
		a := exprTokens(x.Args)
		switch x.Kind {
		case 1:
			out = append(out, fmt.Sprint(x.N))
		case 2:
			out = append(out, x.S)
		case 3:
			out = append(out, x.S+" [ "+a[0]+" ]")
		case 4:
			out = append(out, strings.TrimPrefix(x.Of+" . ", " . ")+x.S+" ( "+strings.Join(a, " , ")+" )")
		default:
			out = append(out, "( "+a[0]+" "+strings.Fields("+ - * & | ^ < == << >>")[x.N-1]+" "+a[1]+" )")
		}
	}
	return out
}

// layOut tokens as the document shows them: which of them stand side by side, and where lines end.
func layOut(tokens string) string {
	var out strings.Builder
	l := strings.Fields(tokens)
	deep := 0
	for i, s := range l {
		next := ""
		if i+1 < len(l) {
			next = l[i+1]
		}
		if s == "{" {
			deep++
		}
		if next == "}" {
			deep--
		}
		out.WriteString(s)
		ahead := i == 1 || i > 1 && (l[i-1] == "var" || l[i-2] == "array")
		switch {
		case s == "{" || s == ";" || s == "}" && next != "else" || ahead:
			out.WriteString("\n" + strings.Repeat(" ", deep))
		case strings.Contains("( [ .", s) || strings.Contains(") ] , ; .", next) || modelIdent(s) && strings.Contains("( [", next):
		default:
			out.WriteString(" ")
		}
	}
	return out.String()
}

// model of reading: what is still to come stands on a stack; "<" and ">" are where a statement or an expression begins and ends.
func modelRead(tokens []string) api.Errno {
	todo, within := strings.Fields("END FUNCS ARRAYS VARS NAME unit"), 0
	for len(todo) > 0 {
		top, next := todo[len(todo)-1], "END"
		todo = todo[:len(todo)-1]
		if len(tokens) > 0 {
			next = tokens[0]
		}
		switch top {
		case "<":
			if within++; within > 48 {
				return 1
			}
			continue
		case ">":
			within--
			continue
		}
		rule, ok := modelRule(top, next)
		switch {
		case ok:
			l := strings.Fields(rule)
			slices.Reverse(l)
			todo = append(todo, l...)
		case top == next || top == "NAME" && modelIdent(next) || top == "NUM" && numberForm.MatchString(next) || top == "OP" && strings.Contains(" + - * & | ^ < == << >> ", " "+next+" "):
			if next != "END" {
				tokens = tokens[1:]
			}
		default:
			return 4
		}
	}
	return 0
}

var numberForm = regexp.MustCompile(`\A[0-9]+\z`)

// rules: what a thing is, if it begins with that token; a * stands for a name, # for a number, _ for any other token.
var rules = map[string]string{
	"VARS var": "var NAME VARS", "VARS _": "", "ARRAYS array": "array NAME NUM ARRAYS", "ARRAYS _": "",
	"FUNCS func": "func NAME PARAMS BODY FUNCS", "FUNCS open": "open NAME PARAMS BODY FUNCS", "FUNCS _": "",
	"PARAMS (": "( FIRST", "FIRST )": ")", "FIRST _": "NAME MORE", "MORE ,": ", NAME MORE", "MORE _": ")",
	"BODY {": "{ STMTS", "STMTS }": "}", "STMTS _": "STMT STMTS",
	"STMT if": "< if EXPR BODY ELSE >", "STMT while": "< while EXPR BODY >", "STMT return": "< return EXPR ; >", "STMT say": "< say EXPR ; >", "STMT *": "< NAME AT = EXPR ; >",
	"ELSE else": "else BODY", "ELSE _": "", "AT [": "[ EXPR ]", "AT _": "",
	"EXPR #": "< NUM >", "EXPR (": "< ( EXPR OP EXPR ) >", "EXPR *": "< NAME REST >",
	"REST [": "[ EXPR ]", "REST .": ". NAME ARGS", "REST (": "ARGS", "REST _": "",
	"ARGS (": "( ARG", "ARG )": ")", "ARG _": "EXPR ARGMORE", "ARGMORE ,": ", EXPR ARGMORE", "ARGMORE _": ")",
}

func modelRule(top, next string) (string, bool) {
	sorts := []string{next}
	if modelIdent(next) {
		sorts = append(sorts, "*")
	}
	if numberForm.MatchString(next) {
		sorts = append(sorts, "#")
	}
	for _, s := range append(sorts, "_") {
		if rule, ok := rules[top+" "+s]; ok {
			return rule, true
		}
	}
	return "", false
}

// draw of units.
type draw struct{ *rand.Rand }

var someNames = []string{"x", "y", "a", "f", "one", "abcdefgh", "z9", "p"}

func (d draw) name() string { return someNames[d.Intn(len(someNames))] }

func (d draw) names(most int) []string {
	var l []string
	for range d.Intn(most + 1) {
		l = append(l, d.name())
	}
	return l
}

func (d draw) expr(room int) api.Expr {
	k := d.Intn(9)
	if room <= 1 && k > 4 {
		k = d.Intn(5)
	}
	switch {
	case k < 2:
		return num([]int{0, 1, 9, 10, 65535, d.Intn(65536)}[d.Intn(6)])
	case k < 4:
		return named(d.name())
	case k == 4:
		return ask([]string{"", d.name()}[d.Intn(2)], d.name())
	case k == 5:
		return elem(d.name(), d.expr(room-1))
	case k == 6:
		x := ask([]string{"", d.name()}[d.Intn(2)], d.name())
		for range d.Intn(5) {
			x.Args = append(x.Args, d.expr(min(room-1, 3)))
		}
		return x
	}
	return two(1+d.Intn(10), d.expr(room-1), d.expr(min(room-1, 3)))
}

func (d draw) stmts(room int) []api.Stmt {
	var l []api.Stmt
	for range d.Intn(4) {
		x, y := d.expr(2+d.Intn(4)), d.expr(1+d.Intn(3))
		k := d.Intn(6)
		if room <= 1 && k > 3 {
			k = d.Intn(4)
		}
		switch k {
		case 0:
			l = append(l, set(d.name(), x))
		case 1:
			l = append(l, setAt(d.name(), y, x))
		case 2:
			l = append(l, ret(x))
		case 3:
			l = append(l, say(x))
		case 4:
			l = append(l, iff(y, d.stmts(room-1), d.stmts(min(room-1, 2))))
		case 5:
			l = append(l, while(y, d.stmts(room-1)...))
		}
	}
	return l
}

func (d draw) unit() api.Unit {
	u := api.Unit{Name: d.name(), Vars: d.names(8)}
	for range d.Intn(4) {
		u.Arrays = append(u.Arrays, api.Array{Name: d.name(), Size: 1 + d.Intn(10)})
	}
	for range d.Intn(5) {
		u.Funcs = append(u.Funcs, api.Func{Name: d.name(), Open: d.Intn(2) == 0, Params: d.names(4), Body: d.stmts(1 + d.Intn(6))})
	}
	return u
}

// spaced: tokens with blanks and newlines where they may stand, and where they must.
func (d draw) spaced(tokens []string) string {
	var s strings.Builder
	for i, k := range tokens {
		gap := []string{" ", "\n", "  ", "\n \n", ""}[d.Intn(5)]
		if gap == "" && i > 0 && (wordly(tokens[i-1]) && wordly(k) || strings.Contains("<=>", k[:1]) && strings.Contains("< << = == >>", tokens[i-1])) {
			gap = " "
		}
		s.WriteString(gap + k)
	}
	return s.String()
}

func wordly(s string) bool { return identForm.MatchString(s) || numberForm.MatchString(s) }

// P6.3, P6.4, P6.5: units that may be, shown, and read again.
func TestDrawnUnits(t *testing.T) {
	d := draw{rand.New(rand.NewSource(6))}
	readAgain := 0
	for range 5000 {
		u := d.unit()
		if Check(u) != 0 || modelCheck(u) != 0 {
			t.Fatalf("Check(%s) = %d; the model: %d", told(u), int(Check(u)), int(modelCheck(u)))
		}
		tokens := modelTokens(u)
		shown(t, u, layOut(tokens))
		s := d.spaced(strings.Fields(tokens))
		if text, _ := Show(u); len(text) <= 3000 && len(s) <= 3000 {
			reads(t, text, u)
			reads(t, s, u)
			reads(t, strings.ReplaceAll(tokens, "else { }", ""), u)
			readAgain++
		}
		if t.Failed() {
			return
		}
	}
	if readAgain < 2500 {
		t.Errorf("%d were read", readAgain)
	}
}

// spoil one thing of a unit; the places of lists are new, so that nothing else is touched.
func (d draw) spoil(u *api.Unit) {
	badName := []string{"", "if", "1a", "abcdefghi", "else"}[d.Intn(5)]
	badInt := []int{0, -1, 11, 65536, 70000, 6, 5}[d.Intn(7)]
	switch d.Intn(10) {
	case 0:
		u.Name = badName
	case 1:
		u.Vars = append(slices.Clone(u.Vars), badName)
	case 2:
		u.Vars = slices.Repeat([]string{"x"}, 7+d.Intn(4))
	case 3:
		u.Arrays = append(slices.Clone(u.Arrays), api.Array{Name: []string{"a", badName}[d.Intn(2)], Size: badInt})
	case 4:
		u.Funcs = append(slices.Clone(u.Funcs), api.Func{Name: []string{"f", badName}[d.Intn(2)], Params: slices.Repeat([]string{[]string{"p", badName}[d.Intn(2)]}, d.Intn(7))})
	default:
		if len(u.Funcs) > 0 {
			u.Funcs = slices.Clone(u.Funcs)
			f := &u.Funcs[d.Intn(len(u.Funcs))]
			f.Body = d.spoilStmts(f.Body, 14)
		}
	}
}

func (d draw) spoilStmts(l []api.Stmt, room int) []api.Stmt {
	l = slices.Clone(l)
	if len(l) == 0 || room == 0 {
		return append(l, []api.Stmt{{}, {Kind: 7}, say(num(65536)), set("if", num(1)), {Kind: 6}, say(num(1))}[d.Intn(6)])
	}
	s := &l[d.Intn(len(l))]
	s.Exprs = slices.Clone(s.Exprs)
	switch d.Intn(12) {
	case 0:
		s.Kind = d.Intn(9)
	case 1:
		s.S = []string{"", "x", "if", "1a"}[d.Intn(4)]
	case 2:
		s.Exprs = append(s.Exprs, num(1))
	case 3:
		s.Exprs = nil
	case 4:
		s.Body = d.spoilStmts(s.Body, room-1)
	case 5:
		s.Else = d.spoilStmts(s.Else, room-1)
	case 6:
		return []api.Stmt{while(num(1), l...)}
	case 7:
		return []api.Stmt{iff(num(1), nil, []api.Stmt{while(num(1), d.spoilStmts(l, room-1)...)})}
	case 8:
		return inner(l, 1+d.Intn(13))
	case 9:
		return slices.Repeat(l, 1+d.Intn(400)/(1+len(l)))
	default:
		if len(s.Exprs) > 0 {
			i := d.Intn(len(s.Exprs))
			s.Exprs[i] = d.spoilExpr(s.Exprs[i])
		}
	}
	return l
}

func (d draw) spoilExpr(x api.Expr) api.Expr {
	x.Args = slices.Clone(x.Args)
	switch d.Intn(10) {
	case 0:
		x.Kind = d.Intn(8)
	case 1:
		x.N = []int{0, 1, -1, 10, 11, 65535, 65536}[d.Intn(7)]
	case 2:
		x.S = []string{"", "x", "if", "1a"}[d.Intn(4)]
	case 3:
		x.Of = []string{"", "x", "if", "1a"}[d.Intn(4)]
	case 4:
		x.Args = append(x.Args, d.spoilExpr(num(1)))
	case 5:
		x.Args = slices.Repeat([]api.Expr{num(65536 * d.Intn(2))}, d.Intn(7))
	case 6:
		return nest(x, 1+d.Intn(13))
	default:
		if len(x.Args) > 0 {
			i := d.Intn(len(x.Args))
			x.Args[i] = d.spoilExpr(x.Args[i])
		}
	}
	return x
}

// printable: what is wrong with it does not keep it from being told by tokens.
func printable(u api.Unit) bool {
	ok := modelIdent(u.Name) && !slices.ContainsFunc(u.Vars, notIdent)
	for _, a := range u.Arrays {
		ok = ok && modelIdent(a.Name) && a.Size >= 0 && a.Size <= 65535
	}
	for _, f := range u.Funcs {
		ok = ok && modelIdent(f.Name) && !slices.ContainsFunc(f.Params, notIdent)
		for _, e := range stmtFaultsAll(f.Body) {
			ok = ok && e == 1
		}
	}
	return ok
}

func notIdent(s string) bool { return !modelIdent(s) }

// stmtFaultsAll: as if nothing were too deep.
func stmtFaultsAll(l []api.Stmt) []api.Errno {
	var faults []api.Errno
	for _, s := range l {
		c := s
		if len(c.Body) > 0 {
			c.Body = []api.Stmt{say(num(1))}
		}
		if len(c.Else) > 0 {
			c.Else = []api.Stmt{say(num(1))}
		}
		c.Exprs = slices.Repeat([]api.Expr{num(1)}, len(s.Exprs))
		faults = append(faults, stmtFaults([]api.Stmt{c}, 1)...)
		for _, x := range s.Exprs {
			faults = append(faults, exprFaultsAll(x)...)
		}
		faults = append(append(faults, stmtFaultsAll(s.Body)...), stmtFaultsAll(s.Else)...)
	}
	return faults
}

func exprFaultsAll(x api.Expr) []api.Errno {
	c := x
	c.Args = slices.Repeat([]api.Expr{num(1)}, len(x.Args))
	if x.Kind == 4 {
		c.Args = nil
	}
	faults := exprFaults(c, 1)
	for _, a := range x.Args {
		faults = append(faults, exprFaultsAll(a)...)
	}
	return faults
}

// P6.2, P6.3, P6.5: units with something wrong, or more than one thing; those that can be told, as texts too.
func TestDrawnSpoiltUnits(t *testing.T) {
	d := draw{rand.New(rand.NewSource(7))}
	seen := map[string]int{}
	for range 5000 {
		u := d.unit()
		for range 1 + d.Intn(3) {
			d.spoil(&u)
		}
		want := modelCheck(u)
		checked(t, u, want)
		seen[fmt.Sprint("check ", int(want))]++
		if printable(u) {
			tokens := modelTokens(u)
			if e := modelRead(strings.Fields(tokens)); e != 0 {
				want = e
			}
			s := d.spaced(strings.Fields(tokens))
			if len(s) > 3000 {
				want = 1
			}
			if want != 0 {
				refused(t, s, want)
			} else {
				reads(t, s, u)
			}
			seen[fmt.Sprint("read ", int(want))]++
		}
		if t.Failed() {
			return
		}
	}
	for _, c := range []string{"check 0", "check 1", "check 2", "check 3", "check 4", "read 0", "read 1", "read 2"} {
		if seen[c] < 30 {
			t.Errorf("%s: %d times", c, seen[c])
		}
	}
}

func likeModel(t *testing.T, tokens []string) api.Errno {
	t.Helper()
	s := strings.Join(tokens, " ")
	want := modelRead(tokens)
	if want != 0 {
		refused(t, s, want)
		return want
	}
	u, e := Read(s)
	if e != 0 {
		if e != 1 && e != 2 { // of what a text tells, Check refuses sizes and ranges alone
			t.Errorf("Read(%q): %d", s, int(e))
		}
		return e
	}
	text, _ := Show(u)
	again, _ := token.Cut(text)
	var got []string
	for _, k := range again {
		got = append(got, k.Text)
	}
	with := strings.Join(got, " ")
	if a, b := strings.ReplaceAll(with, " else { }", ""), strings.ReplaceAll(s, " else { }", ""); a != b {
		t.Errorf("Read(%q), shown, is %q", s, with)
	}
	return 0
}

var allTokens = append(strings.Fields("x f one 0 1 9 65535 << >> == { } ( ) [ ] , ; . = + - * & | ^ <"), keywords...)

// P6.5: every token of a source left out, told twice, changed into every other one, each other one laid ahead of it, and the source ended there.
func TestEveryToken(t *testing.T) {
	source := "unit one var x var y array a 3 array b 1 open f ( p , q ) { x = ( x + p ) ; a [ 1 ] = b [ x ] ; if f ( 1 , 2 ) { say two . g ( ) ; } else { while ( x < 3 ) { } } if 1 { } return 0 ; } func g ( ) { } "
	l := strings.Fields(source)
	ends := map[api.Errno]int{}
	for i := range l {
		ends[likeModel(t, slices.Delete(slices.Clone(l), i, i+1))]++
		ends[likeModel(t, slices.Insert(slices.Clone(l), i, l[i]))]++
		ends[likeModel(t, l[:i])]++
		for _, k := range allTokens {
			c := slices.Clone(l)
			c[i] = k
			ends[likeModel(t, c)]++
			ends[likeModel(t, slices.Insert(slices.Clone(l), i, k))]++
		}
	}
	if ends[0] < 100 || ends[4] < 1000 || ends[2] < 2 {
		t.Errorf("ends: %v", ends)
	}
}

// P6.5: drawn sources, with tokens changed.
func TestDrawnSources(t *testing.T) {
	d := draw{rand.New(rand.NewSource(8))}
	ends := map[api.Errno]int{}
	for range 30000 {
		u := d.unit()
		l := strings.Fields(modelTokens(u))
		for range 1 + d.Intn(3) {
			i := d.Intn(len(l))
			switch d.Intn(5) {
			case 0:
				l = slices.Delete(l, i, i+1)
			case 1:
				l = slices.Insert(l, i, allTokens[d.Intn(len(allTokens))])
			case 2:
				l[i] = allTokens[d.Intn(len(allTokens))]
			case 3:
				j := d.Intn(len(l))
				l[i], l[j] = l[j], l[i]
			case 4:
				for range 20 { // most numbers are expressions, which may stand within others
					if !numberForm.MatchString(l[i]) {
						i = d.Intn(len(l))
					}
				}
				l = slices.Insert(l, i, strings.Fields(strings.Repeat([]string{"( ", "( 1 + ", "f ( 1 , ", "a [ ", "u . f ( "}[d.Intn(5)], d.Intn(60)))...)
			}
			if len(l) == 0 {
				l = []string{"unit"}
			}
		}
		if len(strings.Join(l, " ")) <= 3000 {
			ends[likeModel(t, l)]++
		}
		if t.Failed() {
			return
		}
	}
	if ends[0] < 500 || ends[1] < 500 || ends[4] < 10000 {
		t.Errorf("ends: %v", ends)
	}
}

// P6.5: whatever a text is, reading it ends.
func TestDrawnTexts(t *testing.T) {
	d := draw{rand.New(rand.NewSource(9))}
	for range 20000 {
		b := make([]byte, d.Intn(60))
		d.Read(b)
		Read(string(b))
		var l []string
		for range d.Intn(200) {
			l = append(l, allTokens[d.Intn(len(allTokens))])
		}
		likeModel(t, append([]string{"unit", "one"}, l...))
	}
}
