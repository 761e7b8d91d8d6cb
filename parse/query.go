package parse

import "sluice/api"

func (d *descent) query() (api.Query, api.Spots) {
	var q api.Query
	var s api.Spots
	d.need(api.KindPattern)
	d.need(api.KindSeq)
	q.Items, s.Items = d.items()
	if d.has(api.KindUsing) {
		q.Mode = d.mode()
	}
	if d.has(api.KindAfter) {
		q.After = d.after()
	}
	if d.has(api.KindWhere) {
		q.Where, s.Where = d.tree()
	}
	d.need(api.KindWithin)
	within := d.need(api.KindNumber)
	q.Within, s.Within = within.N, within.At
	if d.has(api.KindPartition) {
		d.need(api.KindBy)
		by := d.need(api.KindName)
		q.By, s.By = by.Text, by.At
	}
	if d.has(api.KindReturn) {
		q.Ret, s.Ret = d.results()
	}
	d.needEnd()
	return q, s
}

// items: those of SEQ, and of each the place of its first token.
func (d *descent) items() ([]api.Item, []int) {
	d.need(api.KindOpen)
	spots := []int{d.place()}
	items := []api.Item{d.item()}
	for d.has(api.KindComma) {
		spots = append(spots, d.place())
		items = append(items, d.item())
	}
	d.need(api.KindClose)
	return items, spots
}

func (d *descent) item() api.Item {
	if d.has(api.KindBang) {
		return api.Item{Neg: true, Types: d.types(), Var: d.name(), Lo: 1, Hi: 1}
	}
	types := d.types()
	if d.has(api.KindPlus) {
		return api.Item{Types: types, Var: d.name(), Lo: 1, Hi: api.MaxRep}
	}
	item := api.Item{Types: types, Var: d.name(), Lo: 1, Hi: 1}
	if d.has(api.KindLBrace) {
		item.Lo, item.Hi = d.bounds()
	}
	return item
}

func (d *descent) types() []string {
	if !d.has(api.KindOpen) {
		return []string{d.name()}
	}
	types := []string{d.name()}
	for d.has(api.KindBar) {
		types = append(types, d.name())
	}
	d.need(api.KindClose)
	return types
}

func (d *descent) name() string { return d.need(api.KindName).Text }

// bounds: what stands behind an opening brace, up to the closing one.
func (d *descent) bounds() (int, int) {
	lo := d.need(api.KindNumber)
	d.need(api.KindComma)
	hi := d.need(api.KindNumber)
	d.need(api.KindRBrace)
	return int(lo.N), int(hi.N)
}

// mode: the one behind USING.
func (d *descent) mode() api.Mode {
	m := api.ModeAny
	switch d.ahead() {
	case api.KindAny:
	case api.KindNext:
		m = api.ModeNext
	case api.KindStrict:
		m = api.ModeStrict
	default:
		d.giveUp(api.ErrWord)
	}
	d.pass()
	return m
}

// after: the one behind AFTER.
func (d *descent) after() api.After {
	a := api.AfterAll
	switch d.ahead() {
	case api.KindAll:
	case api.KindNext:
		a = api.AfterNext
	case api.KindPast:
		a = api.AfterPast
	case api.KindOnce:
		a = api.AfterOnce
	default:
		d.giveUp(api.ErrWord)
	}
	d.pass()
	return a
}

// results: the trees of RETURN, and of each its nodes' places.
func (d *descent) results() ([][]api.Node, [][]int) {
	var trees [][]api.Node
	var spots [][]int
	for more := true; more; more = d.has(api.KindComma) {
		nodes, places := d.tree()
		trees, spots = append(trees, nodes), append(spots, places)
	}
	return trees, spots
}
