package tree

import (
	"barbican/api"
	"barbican/token"
)

// mostWithin: so many statements and expressions may stand within one another while they are read. Which of them may be, Check tells later.
const mostWithin = 4 * api.MaxNest

// reader goes along tokens, from the front on.
type reader struct {
	tokens []api.Token // those that are still ahead
	within int         // statements and expressions that it stands in
	bad    api.Errno   // what was wrong first
}

// fail takes the tokens away: nothing is found any more, so that every loop and every way down ends.
func (r *reader) fail(e api.Errno) {
	if r.bad == api.OK {
		r.bad = e
	}
	r.tokens = nil
}

// goInto a statement or an expression; what it answers is the way back.
func (r *reader) goInto() (back func()) {
	r.within++
	if r.within > mostWithin {
		r.fail(api.ErrSize)
	}
	return func() { r.within-- }
}

// next token, which stays; behind the last one: none, of no kind.
func (r *reader) next() api.Token {
	if len(r.tokens) == 0 {
		return api.Token{}
	}
	return r.tokens[0]
}

// take the next token; its text.
func (r *reader) take() string {
	t := r.next()
	if t.Kind != 0 {
		r.tokens = r.tokens[1:]
	}
	return t.Text
}

// takeIf it is this one. Words, numbers and signs have no text in common.
func (r *reader) takeIf(text string) bool {
	if r.next().Text != text {
		return false
	}
	r.take()
	return true
}

func (r *reader) must(text string) {
	if !r.takeIf(text) {
		r.fail(api.ErrForm)
	}
}

func (r *reader) name() string {
	if !Ident(r.next().Text) {
		r.fail(api.ErrForm)
	}
	return r.take()
}

func (r *reader) number() int {
	n, ok := token.Number(r.next().Text)
	if !ok {
		r.fail(api.ErrForm)
	}
	r.take()
	return n
}

// listOf what is read one by one, in (), with commas between.
func listOf[T any](r *reader, one func() T) []T {
	var l []T
	r.must("(")
	if r.takeIf(")") {
		return l
	}
	l = append(l, one())
	for r.takeIf(",") {
		l = append(l, one())
	}
	r.must(")")
	return l
}

func (r *reader) unit() api.Unit {
	r.must("unit")
	u := api.Unit{Name: r.name()}
	for r.takeIf("var") {
		u.Vars = append(u.Vars, r.name())
	}
	for r.takeIf("array") {
		u.Arrays = append(u.Arrays, r.array())
	}
	for r.next().Text == "open" || r.next().Text == "func" {
		u.Funcs = append(u.Funcs, r.function())
	}
	if len(r.tokens) > 0 {
		r.fail(api.ErrForm)
	}
	return u
}

func (r *reader) array() api.Array {
	name := r.name()
	return api.Array{Name: name, Size: r.number()}
}

func (r *reader) function() api.Func {
	f := api.Func{Open: r.take() == "open"}
	f.Name = r.name()
	f.Params = listOf(r, r.name)
	f.Body = r.body()
	return f
}

func (r *reader) body() []api.Stmt {
	var l []api.Stmt
	r.must("{")
	for beginsStatement(r.next().Text) {
		l = append(l, r.statement())
	}
	r.must("}")
	return l
}

func beginsStatement(text string) bool {
	switch text {
	case "if", "while", "return", "say":
		return true
	}
	return Ident(text)
}

// statement that begins with the next token.
func (r *reader) statement() api.Stmt {
	defer r.goInto()()
	switch first := r.take(); first {
	case "if":
		s := r.asked(api.If)
		if r.takeIf("else") {
			s.Else = r.body()
		}
		return s
	case "while":
		return r.asked(api.While)
	case "return":
		return r.ended(api.Return, "")
	case "say":
		return r.ended(api.Say, "")
	default:
		return r.setting(first)
	}
}

// asked: an expression, and the body that hangs on it.
func (r *reader) asked(kind int) api.Stmt {
	x := r.expression()
	return api.Stmt{Kind: kind, Exprs: []api.Expr{x}, Body: r.body()}
}

// setting of a variable, or of an element.
func (r *reader) setting(name string) api.Stmt {
	if !r.takeIf("[") {
		r.must("=")
		return r.ended(api.Set, name)
	}
	at := r.expression()
	r.must("]")
	r.must("=")
	return r.ended(api.SetAt, name, at)
}

// ended: the last expression of a statement without a body, behind those that were read already.
func (r *reader) ended(kind int, name string, ahead ...api.Expr) api.Stmt {
	x := r.expression()
	r.must(";")
	return api.Stmt{Kind: kind, S: name, Exprs: append(ahead, x)}
}

// expression: one that does not begin is none, however deep it would stand.
func (r *reader) expression() api.Expr {
	first := r.next()
	if first.Kind != api.Digit && first.Text != "(" && !Ident(first.Text) {
		r.fail(api.ErrForm)
		return api.Expr{}
	}
	defer r.goInto()()
	switch {
	case first.Kind == api.Digit:
		return api.Expr{Kind: api.Number, N: r.number()}
	case first.Text == "(":
		return r.two()
	default:
		return r.named()
	}
}

func (r *reader) two() api.Expr {
	r.must("(")
	left := r.expression()
	op := r.operation()
	right := r.expression()
	r.must(")")
	return api.Expr{Kind: api.Two, N: op, Args: []api.Expr{left, right}}
}

func (r *reader) operation() int {
	text := r.take()
	for op := api.Add; op <= api.Shr; op++ {
		if signs[op] == text {
			return op
		}
	}
	r.fail(api.ErrForm)
	return 0
}

// named: an expression that begins with a name.
func (r *reader) named() api.Expr {
	name := r.name()
	switch r.next().Text {
	case "[":
		return r.elem(name)
	case "(":
		return api.Expr{Kind: api.Ask, S: name, Args: listOf(r, r.expression)}
	case ".":
		r.take()
		fun := r.name()
		return api.Expr{Kind: api.Ask, Of: name, S: fun, Args: listOf(r, r.expression)}
	default:
		return api.Expr{Kind: api.Var, S: name}
	}
}

func (r *reader) elem(name string) api.Expr {
	r.must("[")
	at := r.expression()
	r.must("]")
	return api.Expr{Kind: api.Elem, S: name, Args: []api.Expr{at}}
}
