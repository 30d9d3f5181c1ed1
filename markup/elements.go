package markup

// void: an element of that tag has nothing in it.
func void(tag string) bool {
	switch tag {
	case "br", "hr", "img", "input", "link", "meta", "wbr":
		return true
	}
	return false
}

// raw: behind the start tag all is text.
func raw(tag string) bool {
	return tag == "style" || tag == "script"
}

// closing: which open element a start tag closes, and which ones keep it from that.
func closing(tag string) (closes, upTo []string) {
	switch tag {
	case "li":
		return []string{"li"}, []string{"ul", "ol"}
	case "dt", "dd":
		return []string{"dt", "dd"}, []string{"dl"}
	case "option":
		return []string{"option"}, []string{"select"}
	case "tr":
		return []string{"tr"}, []string{"table"}
	case "td", "th":
		return []string{"td", "th"}, []string{"tr", "table"}
	case "div", "p", "ul", "ol", "dl", "table", "h1", "h2", "h3", "pre", "section", "form", "hr":
		return []string{"p"}, []string{"td", "th", "li", "div", "section", "button"}
	}
	return nil, nil
}
