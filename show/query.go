package show

import "sluice/api"

// query: the canonical tokens of a well shaped query.
func query(q api.Query) piece {
	return glue(
		fixed(api.KindPattern, api.KindSeq, api.KindOpen), parted(api.KindComma, each(q.Items, item)...), fixed(api.KindClose),
		using(q.Mode),
		after(q.After),
		where(q.Where),
		fixed(api.KindWithin), number(q.Within),
		by(q.By),
		results(q.Ret),
	)
}

func item(i api.Item) piece {
	switch {
	case i.Neg:
		return glue(fixed(api.KindBang), types(i.Types), name(i.Var))
	case i.Lo == 1 && i.Hi == 1:
		return glue(types(i.Types), name(i.Var))
	case i.Lo == 1 && i.Hi == api.MaxRep:
		return glue(types(i.Types), fixed(api.KindPlus), name(i.Var))
	}
	return glue(types(i.Types), name(i.Var), fixed(api.KindLBrace), number(int64(i.Lo)), fixed(api.KindComma), number(int64(i.Hi)), fixed(api.KindRBrace))
}

func types(names []string) piece {
	all := parted(api.KindBar, each(names, name)...)
	if len(names) == 1 {
		return all
	}
	return glue(fixed(api.KindOpen), all, fixed(api.KindClose))
}

func using(m api.Mode) piece {
	switch m {
	case api.ModeNext:
		return fixed(api.KindUsing, api.KindNext)
	case api.ModeStrict:
		return fixed(api.KindUsing, api.KindStrict)
	}
	return glue()
}

func after(a api.After) piece {
	switch a {
	case api.AfterNext:
		return fixed(api.KindAfter, api.KindNext)
	case api.AfterPast:
		return fixed(api.KindAfter, api.KindPast)
	case api.AfterOnce:
		return fixed(api.KindAfter, api.KindOnce)
	}
	return glue()
}

func where(t []api.Node) piece {
	if len(t) == 0 {
		return glue()
	}
	return glue(fixed(api.KindWhere), expression(t))
}

func by(attr string) piece {
	if attr == "" {
		return glue()
	}
	return glue(fixed(api.KindPartition, api.KindBy), name(attr))
}

func results(trees [][]api.Node) piece {
	if len(trees) == 0 {
		return glue()
	}
	return glue(fixed(api.KindReturn), parted(api.KindComma, each(trees, expression)...))
}
