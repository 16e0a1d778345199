package parse

import "peristyle/api"

// query reads what follows on select.
func (p *parser) query() api.Select {
	q := api.Select{Star: p.skip("*"), Limit: -1, Epoch: -1}
	if !q.Star {
		q.Items = list(p, ",", maxList, p.item)
	}
	p.want("from")
	q.From, q.At[0] = p.nameAt()
	if p.skip("join") {
		q.Join, q.At[1] = p.nameAt()
		q.On = p.pair()
	}
	q.Where = p.where()
	if p.skip("group") {
		p.want("by")
		q.Group = list(p, ",", maxList, p.col)
	}
	if p.skip("order") {
		p.want("by")
		q.Order = list(p, ",", maxList, p.key)
	}
	if p.skip("limit") {
		q.Limit = p.number(0, api.MaxInt)
	}
	if p.skip("at") {
		q.Epoch = p.number(0, api.MaxInt)
	}
	if p.skip("hint") {
		q.Hint = p.hint()
	}
	return q
}

// pair reads by which columns two tables are joined.
func (p *parser) pair() [2]api.Name {
	p.want("on")
	left := p.col()
	p.want("=")
	return [2]api.Name{left, p.col()}
}

// col reads a column's name, with its table's ahead, if a point stands between.
func (p *parser) col() api.Name {
	name, at := p.nameAt()
	if !p.skip(".") {
		return api.Name{Column: name, At: at}
	}
	return api.Name{Table: name, Column: p.name(), At: at}
}

// item reads a column, or an aggregate.
func (p *parser) item() api.Item {
	i := api.Item{Agg: p.which(aggregates()), At: p.next().At}
	if i.Agg == api.AggNone {
		i.Name = p.col()
		return i
	}
	p.take()
	p.want("(")
	if i.Star = i.Agg == api.AggCount && p.skip("*"); !i.Star {
		i.Name = p.col()
	}
	p.want(")")
	return i
}

// key reads by which item rows are ordered; in a text the first one is 1.
func (p *parser) key() api.Key {
	k := api.Key{At: p.next().At, Item: p.number(1, maxList) - 1}
	k.Down = p.skip("desc")
	return k
}

// where reads a condition of the rows; Kind 0, if none is said.
func (p *parser) where() api.Cond {
	if !p.skip("where") {
		return api.Cond{}
	}
	return p.cond()
}

// cond reads conditions of which one must be true, with or between.
func (p *parser) cond() api.Cond { return joined(api.CondOr, list(p, "or", maxParts, p.both)) }

// both reads conditions all of which must be true, with and between.
func (p *parser) both() api.Cond { return joined(api.CondAnd, list(p, "and", maxParts, p.not)) }

// joined is the cond of some; of one alone it is that one.
func joined(kind int, l []api.Cond) api.Cond {
	if len(l) == 1 {
		return l[0]
	}
	return api.Cond{Kind: kind, Args: l, At: l[0].At}
}

// not reads a cond that has no and, and no or, outside of parentheses.
func (p *parser) not() api.Cond {
	at := p.next().At
	switch {
	case p.skip("not"):
		return api.Cond{Kind: api.CondNot, Args: []api.Cond{p.deeper(p.not)}, At: at}
	case p.skip("("):
		c := p.deeper(p.cond)
		p.want(")")
		return c
	}
	return p.test()
}

// deeper reads a cond that stands one deeper.
func (p *parser) deeper(one func() api.Cond) api.Cond {
	p.deep++
	p.atMost(p.deep, maxDeep)
	c := one()
	p.deep--
	return c
}

// test reads what a column is tested for.
func (p *parser) test() api.Cond {
	left := p.col()
	c := api.Cond{Kind: api.CondTest, Left: left, At: left.At}
	if p.skip("is") {
		c.Test = api.TestNull
		if p.skip("not") {
			c.Test = api.TestSome
		}
		p.want("null")
		return c
	}
	c.Test = p.which(signs())
	p.read(c.Test != 0)
	val, ok := p.literal()
	if c.Val = val; !ok {
		c.Kind, c.Right = api.CondPair, p.col()
	}
	return c
}

// hint reads the ways that are said: all that is left, as nothing stands behind them.
func (p *parser) hint() api.Hint {
	var h api.Hint
	p.way(&h)
	for !p.done() {
		p.way(&h)
	}
	return h
}

// way reads a way of a kind of which none was said.
func (p *parser) way(h *api.Hint) {
	if p.has("using") {
		p.read(h.Using == nil)
		h.Using = list(p, ",", maxList, p.name)
		return
	}
	number := p.which(ways())
	kind := kindOf(h, number)
	p.read(number != 0 && *kind == 0)
	*kind = number
}

// kindOf is where a hint keeps a way.
func kindOf(h *api.Hint, way int) *int {
	switch way {
	case api.HintEarly, api.HintLate:
		return &h.Late
	case api.HintHash, api.HintMerge:
		return &h.Join
	case api.HintHashed, api.HintSorted:
		return &h.Group
	}
	return &h.Form
}
