package choose

// Asked: what a list asks of elements beside their tags, hashes and classes: the names of attributes that stand in its [ ], and the names behind its `:`. (Those in lists within, too; a name may be told more than once.)
func (l *List) Asked() (attributes, names []string) {
	if l == nil {
		return nil, nil
	}
	eachPart(l.chains, func(p part) {
		switch x := p.(type) {
		case attribute:
			attributes = append(attributes, x.name)
		case state:
			names = append(names, string(x))
		case nth:
			names = append(names, x.name)
		case nested:
			names = append(names, x.name)
		}
	})
	return attributes, names
}

// eachPart of a list, and of the lists within it.
func eachPart(list []chain, do func(part)) {
	for _, c := range list {
		for _, one := range c {
			for _, p := range one.parts {
				do(p)
				if x, ok := p.(nested); ok {
					eachPart(x.list, do)
				}
			}
		}
	}
}
