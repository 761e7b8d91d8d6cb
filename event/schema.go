package event

import (
	"slices"
	"strings"

	"sluice/api"
)

// definer begins a definition; it may be a name all the same.
const definer = "type"

// timestamp is what every event has beside its attributes: so no attribute may be called so.
const timestamp = "ts"

// isKeyword is asked of word bytes alone: of others EqualFold would take some for letters of another case.
func isKeyword(s string) bool {
	for _, keyword := range api.Keywords {
		if strings.EqualFold(s, keyword) {
			return true
		}
	}
	return false
}

// checkType: what is wrong with a type behind the ones ahead of it?
func checkType(ahead []api.TypeDef, t api.TypeDef) api.Errno {
	if code := checkTypeName(ahead, t.Name); code != api.OK {
		return code
	}
	if len(t.Attrs) > api.MaxAttrs {
		return api.ErrSchemaAttrs
	}
	for i, attr := range t.Attrs {
		if code := checkAttrName(t.Attrs[:i], attr); code != api.OK {
			return code
		}
	}
	return api.OK
}

func checkTypeName(ahead []api.TypeDef, name string) api.Errno {
	if !IsName(name) {
		return api.ErrSchemaName
	}
	if TypeOf(api.Schema{Types: ahead}, name) >= 0 {
		return api.ErrSchemaTwice
	}
	return api.OK
}

func checkAttrName(ahead []string, name string) api.Errno {
	if !IsName(name) || name == timestamp {
		return api.ErrSchemaName
	}
	if slices.Contains(ahead, name) {
		return api.ErrSchemaTwice
	}
	return api.OK
}

func schemaText(s api.Schema) string {
	var out strings.Builder
	for _, t := range s.Types {
		out.WriteString(definer + " " + t.Name + "(" + strings.Join(t.Attrs, ", ") + ")\n")
	}
	return out.String()
}

// schemaReader reads types from pieces. It steps on only behind a piece that is taken: so here is always the first one that is refused.
type schemaReader struct {
	rest  []piece
	types []api.TypeDef
}

func (r *schemaReader) here() piece { return r.rest[0] }

func (r *schemaReader) step() { r.rest = r.rest[1:] }

func (r *schemaReader) schema() api.Errno {
	for r.here().kind != pieceEnd {
		if code := r.definition(); code != api.OK {
			return code
		}
	}
	if len(r.types) == 0 {
		return api.ErrSchemaTypes
	}
	return api.OK
}

func (r *schemaReader) definition() api.Errno {
	if !r.here().isWord(definer) {
		return api.ErrSchemaWord
	}
	if len(r.types) == api.MaxTypes {
		return api.ErrSchemaTypes
	}
	r.step()
	if !r.here().mayBeName() {
		return api.ErrSchemaWord
	}
	name := r.here().word
	if code := checkTypeName(r.types, name); code != api.OK {
		return code
	}
	r.step()
	attrs, code := r.attrs()
	if code != api.OK {
		return code
	}
	r.types = append(r.types, api.TypeDef{Name: name, Attrs: attrs})
	return api.OK
}

// attrs reads the attributes with the brackets around them.
func (r *schemaReader) attrs() ([]string, api.Errno) {
	if !r.here().isMark('(') {
		return nil, api.ErrSchemaWord
	}
	r.step()
	var attrs []string
	if r.here().isMark(')') {
		r.step()
		return attrs, api.OK
	}
	for {
		attr, code := r.attr(attrs)
		if code != api.OK {
			return nil, code
		}
		attrs = append(attrs, attr)
		ends := r.here().isMark(')')
		if !ends && !r.here().isMark(',') {
			return nil, api.ErrSchemaWord
		}
		r.step()
		if ends {
			return attrs, api.OK
		}
	}
}

func (r *schemaReader) attr(ahead []string) (string, api.Errno) {
	if !r.here().mayBeName() {
		return "", api.ErrSchemaWord
	}
	if len(ahead) == api.MaxAttrs {
		return "", api.ErrSchemaAttrs
	}
	name := r.here().word
	if code := checkAttrName(ahead, name); code != api.OK {
		return "", code
	}
	r.step()
	return name, api.OK
}
