namespace Go.PM
def Held (p : Prop) : Prop := p
theorem held {p : Prop} (h : Held p) : p := h
end Go.PM

