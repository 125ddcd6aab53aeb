package field

import (
	"slices"

	"turnpike/api"
	"turnpike/octet"
)

// Find is the value of the first field of a name.
func Find(l []api.Field, name string) (string, bool) {
	if at := slices.IndexFunc(l, named(name)); at >= 0 {
		return l[at].Value, true
	}
	return "", false
}

// All is the values of the fields of a name.
func All(l []api.Field, name string) []string {
	var values []string
	for _, f := range kept(l, named(name)) {
		values = append(values, f.Value)
	}
	return values
}

// Joined is the values of the fields of a name as one.
func Joined(l []api.Field, name string) (string, bool) {
	values := All(l, name)
	return octet.Join(values), len(values) > 0
}

// List is the elements of a name.
func List(l []api.Field, name string) ([]string, api.Errno) {
	var elements []string
	for _, value := range All(l, name) {
		some, err := octet.List(value)
		if err != api.OK {
			return nil, err
		}
		elements = append(elements, some...)
	}
	return elements, api.OK
}

// Tokens is the elements of a name, all of them tokens, with small letters.
func Tokens(l []api.Field, name string) ([]string, api.Errno) {
	elements, err := List(l, name)
	if err != api.OK {
		return nil, err
	}
	for i, element := range elements {
		if !octet.IsToken(element) {
			return nil, api.ErrToken
		}
		elements[i] = octet.Lower(element)
	}
	return elements, api.OK
}

// Has tells whether a token is among those of a name.
func Has(l []api.Field, name, token string) bool {
	tokens, err := Tokens(l, name)
	return err == api.OK && slices.Contains(tokens, octet.Lower(token))
}

// Add is fields with one more.
func Add(l []api.Field, name, value string) ([]api.Field, api.Errno) {
	f := api.Field{Name: name, Value: value}
	if err := check(f); err != api.OK {
		return nil, err
	}
	if len(l) >= api.MaxFields {
		return nil, api.ErrMany
	}
	return append(kept(l, anyField), f), api.OK
}

// Set is fields of which just one has a name.
func Set(l []api.Field, name, value string) ([]api.Field, api.Errno) {
	at := slices.IndexFunc(l, named(name))
	if at < 0 {
		return Add(l, name, value)
	}
	f := api.Field{Name: name, Value: value}
	if err := check(f); err != api.OK {
		return nil, err
	}
	// None ahead of the first of them goes, so its place stays.
	out := slices.Insert(Remove(l, name), at, f)
	if len(out) > api.MaxFields {
		return nil, api.ErrMany
	}
	return out, api.OK
}

// Remove is fields without those of a name.
func Remove(l []api.Field, name string) []api.Field {
	isNamed := named(name)
	return kept(l, func(f api.Field) bool { return !isNamed(f) })
}

// kept is a new list of the fields that keep says yes to.
func kept(l []api.Field, keep func(api.Field) bool) []api.Field {
	var out []api.Field
	for _, f := range l {
		if keep(f) {
			out = append(out, f)
		}
	}
	return out
}

// named tells of a field whether its name is alike to one.
func named(name string) func(api.Field) bool {
	return func(f api.Field) bool { return octet.Same(f.Name, name) }
}

func anyField(api.Field) bool { return true }
