package parse

import (
	"peristyle/api"
	"peristyle/cell"
	"slices"
	"strings"
)

// Text is a statement as text.
func Text(t api.Statement) string {
	w := &writer{}
	w.statement(t)
	return strings.Join(w.tokens, " ")
}

// writer has the tokens of a statement's text.
type writer struct{ tokens []string }

func (w *writer) say(tokens ...string) { w.tokens = append(w.tokens, tokens...) }

// full tells whether there are more tokens than a statement of Parse can have. Of others no more is said: their conds may stand among their own Args, without end.
func (w *writer) full() bool { return len(w.tokens) > api.MaxQuery }

// each says what stands in a list, a word or a sign between.
func each[T any](w *writer, between string, l []T, one func(T)) {
	for k, x := range l {
		if w.full() {
			return
		}
		if k > 0 {
			w.say(between)
		}
		one(x)
	}
}

// oneOf says a word, or a sign, of a list, by its number.
func (w *writer) oneOf(l []string, number int) {
	if number <= 0 || number >= len(l) {
		w.say("?")
		return
	}
	w.say(l[number])
}

func (w *writer) name(s string) { w.say(s) }

func (w *writer) value(c api.Cell) { w.say(cell.Show(c)) }

func (w *writer) number(n int) { w.value(api.Cell{Kind: api.Int, N: n}) }

// numbered says a word, and a number behind it.
func (w *writer) numbered(word string, n int) {
	w.say(word)
	w.number(n)
}

func (w *writer) statement(t api.Statement) {
	switch t.Kind {
	case api.DoSelect:
		w.query(t.Select)
	case api.DoCreate:
		w.say("create", "table", t.Table, "(")
		each(w, ",", t.Columns, w.column)
		w.say(")")
	case api.DoDrop:
		w.say("drop", "table", t.Table)
	case api.DoAdd:
		w.say("create", "projection", t.Which, "on", t.Table, "(")
		each(w, ",", t.Names, w.col)
		w.say(")")
		if t.Keys != 0 {
			w.numbered("keys", t.Keys)
		}
	case api.DoRemove:
		w.say("drop", "projection", t.Which, "on", t.Table)
	case api.DoInsert:
		w.say("insert", "into", t.Table, "values")
		each(w, ",", t.Rows, w.row)
	case api.DoDelete:
		w.say("delete", "from", t.Table)
		w.where(t.Where)
	case api.DoAdvance:
		w.say("advance")
	case api.DoRaise:
		w.numbered("forget", t.Epoch)
	case api.DoMove:
		w.say("move", t.Table)
	}
}

func (w *writer) column(c api.Column) {
	kind := "int"
	if c.Kind == api.Text {
		kind = "text"
	}
	w.say(c.Name, kind)
	if c.Null {
		w.say("null")
	}
}

func (w *writer) row(r api.Row) {
	w.say("(")
	each(w, ",", r, w.value)
	w.say(")")
}

func (w *writer) query(q api.Select) {
	w.say("select")
	if q.Star {
		w.say("*")
	} else {
		each(w, ",", q.Items, w.item)
	}
	w.say("from", q.From)
	if q.Join != "" {
		w.say("join", q.Join, "on")
		each(w, "=", q.On[:], w.col)
	}
	w.where(q.Where)
	if len(q.Group) > 0 {
		w.say("group", "by")
		each(w, ",", q.Group, w.col)
	}
	if len(q.Order) > 0 {
		w.say("order", "by")
		each(w, ",", q.Order, w.key)
	}
	if q.Limit >= 0 {
		w.numbered("limit", q.Limit)
	}
	if q.Epoch >= 0 {
		w.numbered("at", q.Epoch)
	}
	w.hint(q.Hint)
}

func (w *writer) col(n api.Name) {
	if n.Table != "" {
		w.say(n.Table, ".")
	}
	w.say(n.Column)
}

func (w *writer) item(i api.Item) {
	if i.Agg == api.AggNone {
		w.col(i.Name)
		return
	}
	w.oneOf(aggregates(), i.Agg)
	w.say("(")
	if i.Star {
		w.say("*")
	} else {
		w.col(i.Name)
	}
	w.say(")")
}

func (w *writer) key(k api.Key) {
	w.number(k.Item + 1)
	if k.Down {
		w.say("desc")
	}
}

func (w *writer) where(c api.Cond) {
	if c.Kind != 0 {
		w.say("where")
		w.cond(c, 0)
	}
}

// cond says a cond that stands below one of another kind, or of none.
func (w *writer) cond(c api.Cond, above int) {
	if w.full() {
		return
	}
	if apart(c.Kind, above) {
		w.say("(")
		w.parts(c)
		w.say(")")
		return
	}
	w.parts(c)
}

// apart tells whether a cond needs parentheses, lest what is above it take its parts for its own.
func apart(kind, above int) bool {
	switch above {
	case api.CondAnd, api.CondNot:
		return kind == api.CondAnd || kind == api.CondOr
	case api.CondOr:
		return kind == api.CondOr
	}
	return false
}

func (w *writer) parts(c api.Cond) {
	below := func(part api.Cond) { w.cond(part, c.Kind) }
	switch c.Kind {
	case api.CondAnd:
		each(w, "and", c.Args, below)
	case api.CondOr:
		each(w, "or", c.Args, below)
	case api.CondNot:
		w.say("not")
		if len(c.Args) > 0 {
			below(c.Args[0])
		}
	default:
		w.test(c)
	}
}

func (w *writer) test(c api.Cond) {
	w.col(c.Left)
	switch {
	case c.Kind == api.CondPair:
		w.oneOf(signs(), c.Test)
		w.col(c.Right)
	case c.Test == api.TestNull:
		w.say("is", "null")
	case c.Test == api.TestSome:
		w.say("is", "not", "null")
	default:
		w.oneOf(signs(), c.Test)
		w.value(c.Val)
	}
}

func (w *writer) hint(h api.Hint) {
	said := slices.DeleteFunc([]int{h.Late, h.Join, h.Group, h.Form}, func(way int) bool { return way == 0 })
	if len(h.Using) == 0 && len(said) == 0 {
		return
	}
	w.say("hint")
	if len(h.Using) > 0 {
		w.say("using")
		each(w, ",", h.Using, w.name)
	}
	for _, way := range said {
		w.oneOf(ways(), way)
	}
}
