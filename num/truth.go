package num

import "sluice/api"

// truth is a place in the tables below, so that a table's rows and columns stand in the order of the document's.
type truth int

const (
	no truth = iota
	unknown
	yes
)

var andTable = [3][3]truth{
	{no, no, no},
	{no, unknown, unknown},
	{no, unknown, yes},
}

var orTable = [3][3]truth{
	{no, unknown, yes},
	{unknown, unknown, yes},
	{yes, yes, yes},
}

var notTable = [3]truth{yes, unknown, no}

// read takes any value as a truth: what stands in N of an unknown one does not count.
func read(a api.Val) truth {
	if !a.Known {
		return unknown
	}
	return truthOf(a.N != 0)
}

func truthOf(b bool) truth {
	if b {
		return yes
	}
	return no
}

func (t truth) val() api.Val {
	switch t {
	case yes:
		return known(1)
	case no:
		return known(0)
	}
	return api.Val{}
}
