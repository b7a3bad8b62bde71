package hier

import "grammarlab/api"

// Prelude returns the declarations that every grammar has.
func Prelude() []api.TypeDecl {
	return []api.TypeDecl{
		{Name: "top"},
		below("top", "list"),
		below("list", "cons", has("FIRST", "top"), has("REST", "list")),
		below("list", "null"),
		below("top", "dlist", has("LIST", "list"), has("LAST", "list")),
		below("top", "index"),
		below("index", "handle"),
		below("index", "event"),
		below("index", "entity"),
		below("top", "rel", has("LABEL", "handle")),
		below("top", "qeq", has("HIGH", "handle"), has("LOW", "handle")),
		below("top", "sem", has("TOP", "handle"), has("INDEX", "index"), has("RELS", "dlist"), has("CONS", "dlist")),
		below("top", "sign", has("SEM", "sem"), has("ARGS", "list")),
	}
}

// below declares a type with one direct supertype.
func below(super, name string, feats ...api.FeatDecl) api.TypeDecl {
	return api.TypeDecl{Name: name, Supers: []string{super}, Feats: feats}
}

func has(feat, value string) api.FeatDecl {
	return api.FeatDecl{Feat: feat, Value: value}
}
