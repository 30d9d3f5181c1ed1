package cascade

import (
	"casement/api"
	"casement/tokens"
)

// scope: the properties of the page's own that an element has.
type scope struct {
	own    map[string]*value // as they are told for it
	handed map[string]tokens.Told
	done   map[string]answer // what is known of the own ones
	texts  map[string]kept   // of all scopes
}

// kept text, which stands for all that are alike: it may be long, and many elements may have it.
type kept struct{ text string }

func (s *scope) keep(text string) string {
	one, ok := s.texts[text]
	if !ok {
		one = kept{text}
		s.texts[text] = one
	}
	return one.text
}

// answer: what a property is, if it is there.
type answer struct {
	told  tokens.Told
	there bool
}

// settle: all that are there.
func (s *scope) settle() map[string]tokens.Told {
	for _, name := range rings(s.own) {
		s.done[name] = answer{}
	}
	all := make(map[string]tokens.Told)
	for name, told := range s.handed {
		if s.own[name] == nil {
			all[name] = told
		}
	}
	for name := range s.own {
		if a := s.find(name); a.there {
			all[name] = a.told
		}
	}
	return all
}

// find a property. What is handed down for an own one does not count, whatever becomes of that.
func (s *scope) find(name string) answer {
	v := s.own[name]
	if v == nil {
		told, there := s.handed[name]
		return answer{told, there}
	}
	a, known := s.done[name]
	if !known {
		a = s.fill(v)
		a.told.Text = s.keep(a.told.Text)
		s.done[name] = a
	}
	return a
}

// fill a value's references in.
func (s *scope) fill(v *value) answer {
	told, ok := s.join(v.pieces)
	if !ok || told.Text == "" || len(told.Text) > api.MaxSteps {
		return answer{}
	}
	return answer{told, true}
}

// join pieces, their references filled in; false: the value is none.
func (s *scope) join(pieces []piece) (tokens.Told, bool) {
	var list []tokens.Told
	size := 0
	for _, p := range pieces {
		told, ok := s.tell(p)
		size += len(told.Text)
		// What has become too much is given up here: all of it may be thousands of times as much.
		if !ok || size > api.MaxSteps {
			return tokens.Told{}, false
		}
		list = append(list, told)
	}
	return tokens.Join(list), true
}

func (s *scope) tell(p piece) (tokens.Told, bool) {
	if p.name == "" {
		return p.told, true
	}
	if a := s.find(p.name); a.there || !p.falls {
		return a.told, a.there
	}
	return s.join(p.fallback)
}
